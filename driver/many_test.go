package driver_test

import (
	"reflect"
	"runtime"
	"slices"
	"strings"
	"sync"
	"testing"
	"time"

	"sinnet/api"
	"sinnet/driver"
	"sinnet/prog"
	"sinnet/report"
)

// answer is what a call told.
type answer struct {
	s     setup
	r     report.Report
	picks []driver.Pick // nil of Play
	e     api.Errno
}

// atOnce: many Drives and Plays of one program, all of them begun at one time, while others read that program and these steps.
func atOnce(t *testing.T, p api.Prog, budget int, steps []driver.Pick) []answer {
	text, _ := prog.Print(p)
	answers := make([]answer, 36)
	var all, begin sync.WaitGroup
	begin.Add(1)
	for i := range answers {
		all.Add(1)
		go func() {
			defer all.Done()
			begin.Wait()
			a := answer{s: setup{p, 8, []int{1, 2, 3, 8, 64}[i%5], budget}}
			switch i % 3 {
			case 0, 1:
				a.r, a.picks, a.e = a.s.drive()
			default:
				a.s.workers = 3
				a.r, a.e = a.s.play(steps)
			}
			answers[i] = a
			for range 20 {
				if s, e := prog.Print(p); s != text || e != api.OK {
					t.Errorf("%x %v, not %x", s, e, text)
				}
			}
		}()
	}
	begin.Done()
	all.Wait()
	return answers
}

// Many at once, of one program: each of them tells what one alone does.
func TestManyAtOnce(t *testing.T) {
	for name, p := range map[string]api.Prog{"writers": writers(2, 1, 1), "one is late": late(), "with mutexes": programs()["those that wait for one another"]} {
		sum := classes(t, p, 8)
		steps := setup{p, 8, 3, sum.Prefixes}.inTurn(t)
		for _, budget := range []int{sum.Prefixes, sum.Prefixes / 2} {
			for _, a := range atOnce(t, p, budget, steps) {
				if a.e != api.OK {
					t.Fatalf("%s: %v", name, a.e)
				}
				checkSome(t, name, a.r, sum)
				if a.picks != nil {
					a.s.checkSteps(t, name, a.r, a.picks)
				}
				if budget == sum.Prefixes {
					checkAll(t, name, a.r, sum)
				}
			}
		}
	}
}

// settled: so many goroutines, once those that are at their end are gone.
func settled(atMost int) int {
	n := runtime.NumGoroutine()
	for deadline := time.Now().Add(5 * time.Second); n > atMost && time.Now().Before(deadline); n = runtime.NumGoroutine() {
		time.Sleep(time.Millisecond)
	}
	return n
}

// All workers are joined: none is left, be it halted by its end, by the budget, or refused.
func TestNoGoroutineIsLeft(t *testing.T) {
	ahead := runtime.NumGoroutine()
	for name, p := range programs() {
		for _, workers := range []int{1, 3, 64} {
			for _, budget := range []int{0, 1, 4, api.MaxBudget} {
				setup{p, 5, workers, budget}.drive()
				setup{p, 5, workers, budget}.play(times(9, 0, 0))
			}
		}
		if n := settled(ahead); n > ahead {
			t.Fatalf("%s: %d goroutines, ahead of it %d", name, n, ahead)
		}
	}
}

// Rule 5: what is answered may be written to at once: nobody reads it any more, nor writes it.
func TestAnswersAreNewMemory(t *testing.T) {
	for name, p := range programs() {
		s := setup{p, 5, 4, api.MaxBudget}
		one, picks := s.checkDrive(t, name)
		like, stay := slices.Clone(one.Keys), slices.Clone(picks)
		for range 3 {
			got, more, _ := s.drive()
			played, _ := s.play(picks)
			for _, keys := range [][]string{got.Keys, played.Keys} {
				if !slices.Equal(keys, like) {
					t.Fatalf("%s: %x, not %x", name, keys, like)
				}
				clear(keys)
				_ = append(keys, "more")
			}
			for i := range more {
				more[i] = driver.Pick{Worker: -1, Draw: 99}
			}
			_ = append(more, driver.Pick{Worker: -2})
		}
		if !slices.Equal(one.Keys, like) || !slices.Equal(picks, stay) {
			t.Errorf("%s: %x %v: written by another answer", name, one.Keys, picks)
		}
		clear(one.Keys)
		clear(picks)
		again, _ := s.checkPlay(t, name, stay)
		if !slices.Equal(again.Keys, like) {
			t.Errorf("%s: %x, not %x", name, again.Keys, like)
		}
	}
}

// room: with spare room behind it, that is filled.
func room(p api.Prog) api.Prog {
	threads := make([][]api.Instr, 0, len(p.Threads)+2)
	for _, list := range p.Threads {
		list = append(slices.Clone(list), set(1, 99), set(1, 98))
		threads = append(threads, list[:len(list)-2])
	}
	full := append(threads, code(set(1, 97)), nil)
	p.Threads = full[:len(threads)]
	return p
}

// whole: all that a program's memory has, its spare room too.
func whole(p api.Prog) [][]api.Instr {
	var all [][]api.Instr
	for _, list := range p.Threads[:cap(p.Threads)] {
		all = append(all, slices.Clone(list[:cap(list)]))
	}
	return all
}

// Rule 5: what is handed in stays as it is, its spare room too.
func TestWhatIsHandedInStays(t *testing.T) {
	for name, one := range programs() {
		p := room(one)
		was, like := whole(p), prog.Copy(p)
		s := setup{p, 5, 3, api.MaxBudget}
		steps := append(s.inTurn(t), times(7, 1, 1)...)
		picks := steps[: len(steps)-7 : len(steps)-2]
		stay := slices.Clone(steps)
		s.checkDrive(t, name)
		s.checkPlay(t, name, picks)
		if !prog.Same(p, like) || !reflect.DeepEqual(whole(p), was) {
			t.Errorf("%s: the program is another one", name)
		}
		if !slices.Equal(steps, stay) {
			t.Errorf("%s: the picks are other ones", name)
		}
	}
}

// Rule 5: and is not kept: it may be written to, and what was answered stays.
func TestWhatIsHandedInIsNotKept(t *testing.T) {
	for name, one := range programs() {
		p := prog.Copy(one)
		s := setup{p, 5, 3, api.MaxBudget}
		got, picks := s.checkDrive(t, name)
		steps := slices.Clone(picks)
		played, _ := s.checkPlay(t, name, steps)
		for i, list := range p.Threads {
			for n := range list {
				list[n] = lock(1)
			}
			p.Threads[i] = nil
		}
		for i := range steps {
			steps[i] = driver.Pick{Worker: 77, Draw: -1}
		}
		sum := classes(t, one, 5)
		checkAll(t, name, got, sum)
		checkAll(t, name, played, sum)
		if again, _ := (setup{one, 5, 3, api.MaxBudget}).checkPlay(t, name, picks); !slices.Equal(again.Keys, got.Keys) {
			t.Errorf("%s: %x, not %x", name, again.Keys, got.Keys)
		}
	}
}

// A report of drives is as any: its bytes may be read again.
func TestReportsMayBeRead(t *testing.T) {
	for name, p := range programs() {
		for _, budget := range []int{3, api.MaxBudget} {
			got, _ := setup{p, 6, 5, budget}.checkDrive(t, name)
			s := report.Print(got)
			again, e := report.Read(s)
			if e != api.OK || !report.Right(got) || !slices.Equal(again.Keys, got.Keys) || again.Complete != got.Complete || strings.HasPrefix(s, "\x01") != got.Complete {
				t.Errorf("%s: %x %v", name, s, e)
			}
		}
	}
}
