package report_test

import (
	"math/rand"
	"slices"
	"testing"

	"sinnet/api"
	"sinnet/machine"
	"sinnet/report"
	"sinnet/seq"
	"sinnet/walk"
)

func set(r int, n int64) api.Instr { return api.Instr{Kind: api.OSet, R: r, N: n} }
func load(r, x int) api.Instr      { return api.Instr{Kind: api.OLoad, R: r, X: x} }
func store(r, x int) api.Instr     { return api.Instr{Kind: api.OStore, R: r, X: x} }
func lock(m int) api.Instr         { return api.Instr{Kind: api.OLock, X: m} }
func unlock(m int) api.Instr       { return api.Instr{Kind: api.OUnlock, X: m} }
func jump(r, x int) api.Instr      { return api.Instr{Kind: api.OJump, R: r, X: x} }
func assert(r int) api.Instr       { return api.Instr{Kind: api.OAssert, R: r} }

// code: a thread's instructions.
func code(list ...api.Instr) []api.Instr { return list }

// program: threads over two variables and two mutexes.
func program(threads ...[]api.Instr) api.Prog {
	return api.Prog{Vars: 2, Mutexes: 2, Threads: threads}
}

// explored is a program, all of whose prefixes can be gone over, and how many classes it has, worked out by hand.
type explored struct {
	p       api.Prog
	classes int
}

func programs() map[string]explored {
	w, r, local := code(store(0, 0)), code(load(0, 0)), code(set(0, 1))
	take := code(lock(0), store(0, 0), unlock(0))
	twice := slices.Repeat(w, 2)
	return map[string]explored{
		"a thread that has nothing":    {program(nil), 1},
		"two that read":                {program(r, r), 1},
		"two that write":               {program(w, w), 2},
		"one writes, two read":         {program(w, r, r), 4},
		"four that write":              {program(w, w, w, w), 24},
		"four that write, two twice":   {program(twice, twice, w, w), 180},
		"three of three local steps":   {program(slices.Repeat(local, 3), slices.Repeat(local, 3), slices.Repeat(local, 3)), 1},
		"two that take a mutex":        {program(take, take), 2},
		"a mutex taken twice":          {program(code(lock(0), lock(0)), code(lock(0))), 2},
		"two that fail":                {program(code(assert(0)), code(unlock(0))), 1},
		"two mutexes, unlike orders":   {program(code(lock(0), lock(1), unlock(1), unlock(0)), code(lock(1), lock(0), unlock(0), unlock(1))), 3},
		"one reads what two may write": {program(code(load(0, 0), assert(0)), code(set(0, 1), store(0, 0)), w), 6},
	}
}

// ran: a machine of so many workers that stepped, in a drawn order, till it was halted.
func ran(t *testing.T, r *rand.Rand, p api.Prog, fuel, workers, budget int) *machine.Machine {
	t.Helper()
	m, e := machine.New(p, fuel, workers, budget)
	if e != api.OK {
		t.Fatal(e)
	}
	for steps := 0; !m.Halted(); steps++ {
		if steps > 1<<20 {
			t.Fatalf("%+v: not halted", p)
		}
		m.Step(r.Intn(workers), int(r.Uint64()))
	}
	return m
}

// merged: the report of all workers, in a drawn order.
func merged(r *rand.Rand, m *machine.Machine) report.Report {
	var lists [][]string
	for _, worker := range r.Perm(m.Workers()) {
		lists = append(lists, m.Keys(worker))
	}
	return report.Merge(m.Complete(), lists...)
}

// checkAll: whatever is told of all of a program's classes is one report, of the same bytes.
func checkAll(t *testing.T, r *rand.Rand, p api.Prog, fuel int, sum walk.Sum) {
	t.Helper()
	whole := report.Report{Keys: sum.Keys, Complete: true}
	if !checkReport(t, whole) {
		t.Fatalf("%+v: %x may not be", p, sum.Keys)
	}
	want := report.Print(whole)
	if got, e := report.Read(want); e != api.OK || !same(got, whole) {
		t.Fatalf("%+v: Read(%x): %+v %v", p, want, got, e)
	}
	for range 3 {
		found, e := seq.Explore(p, fuel, api.MaxBudget, []uint8{uint8(r.Intn(256)), uint8(r.Intn(256)), uint8(r.Intn(256))})
		if s := report.Print(report.Report{Keys: found.Keys, Complete: found.Complete}); e != api.OK || s != want {
			t.Fatalf("%+v: one worker: %x %v, not %x", p, s, e, want)
		}
	}
	for _, workers := range []int{1, 2, 3, 64} {
		m := ran(t, r, p, fuel, workers, sum.Prefixes)
		if s := report.Print(merged(r, m)); s != want {
			t.Fatalf("%+v: %d workers: %x, not %x", p, workers, s, want)
		}
		if s := report.Print(merged(r, m)); s != want {
			t.Fatalf("%+v: %d workers, merged once more: %x, not %x", p, workers, s, want)
		}
	}
}

// checkCutOff: with any budget it is a report, of classes.
func checkCutOff(t *testing.T, r *rand.Rand, p api.Prog, fuel int, sum walk.Sum) {
	t.Helper()
	budget := 1 + r.Intn(sum.Prefixes)
	found, _ := seq.Explore(p, fuel, budget, nil)
	m := ran(t, r, p, fuel, 1+r.Intn(5), budget)
	for _, got := range []report.Report{{Keys: found.Keys, Complete: found.Complete}, merged(r, m)} {
		if !checkReport(t, got) || got.Complete && !slices.Equal(got.Keys, sum.Keys) {
			t.Fatalf("%+v, budget %d: %+v, of %x", p, budget, got, sum.Keys)
		}
		if all := report.Merge(true, got.Keys, sum.Keys); !slices.Equal(all.Keys, sum.Keys) {
			t.Fatalf("%+v, budget %d: %x are not of %x", p, budget, got.Keys, sum.Keys)
		}
	}
}

func TestReportsOfPrograms(t *testing.T) {
	for name, c := range programs() {
		t.Run(name, func(t *testing.T) {
			r := rand.New(rand.NewSource(18)) // one each, as the programs come in any order
			sum, e := walk.All(c.p, api.MaxFuel, api.MaxBudget)
			if e != api.OK || len(sum.Keys) != c.classes {
				t.Fatalf("%d classes, not %d: %v", len(sum.Keys), c.classes, e)
			}
			checkAll(t, r, c.p, api.MaxFuel, sum)
			for range 20 {
				checkCutOff(t, r, c.p, api.MaxFuel, sum)
			}
		})
	}
}

// The chapter's example of two that write, to the letter.
func TestReportOfTwoThatWrite(t *testing.T) {
	r := rand.New(rand.NewSource(19))
	w := code(store(0, 0))
	for workers := 1; workers <= 8; workers++ {
		m := ran(t, r, program(w, w), api.MaxFuel, workers, 5)
		if s := report.Print(merged(r, m)); s != "\x01\x00\x02\x00\x05\x01\x0c\x01\x0d\x00\x00\x05\x01\x0d\x01\x0c\x00" {
			t.Errorf("%d workers: %x", workers, s)
		}
		m = ran(t, r, program(w, w), api.MaxFuel, workers, 2)
		if s := report.Print(merged(r, m)); s != "\x00\x00\x00" {
			t.Errorf("%d workers, two nodes: %x", workers, s)
		}
	}
}

// anyProgram: a drawn one that may be, of few objects, so that its threads meet often.
func anyProgram(r *rand.Rand) api.Prog {
	p := api.Prog{Vars: 1 + r.Intn(2), Mutexes: 1, Threads: make([][]api.Instr, 1+r.Intn(4))}
	for i := range p.Threads {
		size := r.Intn(4)
		if len(p.Threads) <= 2 {
			size = 1 + r.Intn(6)
		}
		for range size {
			reg, x := r.Intn(2), r.Intn(p.Vars)
			p.Threads[i] = append(p.Threads[i], []api.Instr{
				load(reg, x), load(reg, x), store(reg, x), store(reg, x), lock(0), unlock(0), jump(reg, r.Intn(size+1)), assert(reg), set(reg, int64(r.Intn(3)-1)),
			}[r.Intn(9)])
		}
	}
	return p
}

func TestReportsOfDrawnPrograms(t *testing.T) {
	r := rand.New(rand.NewSource(20))
	several := 0
	for range 600 {
		p, fuel := anyProgram(r), r.Intn(9)
		sum, e := walk.All(p, fuel, 1000)
		if e != api.OK {
			continue
		}
		if len(sum.Keys) > 1 {
			several++
		}
		checkAll(t, r, p, fuel, sum)
		checkCutOff(t, r, p, fuel, sum)
	}
	if several < 150 {
		t.Errorf("%d of several classes: too few", several)
	}
}

// A program of more classes than a report may have: what was found of it may be one, up to that many.
func TestReportOfTooManyClasses(t *testing.T) {
	w := code(store(0, 0), store(0, 0), store(0, 0))
	found, e := seq.Explore(program(w, w, w, w), api.MaxFuel, 200000, nil)
	if e != api.OK || len(found.Keys) <= 65535 {
		t.Fatalf("%d keys, %v", len(found.Keys), e)
	}
	got := report.Merge(found.Complete, found.Keys, found.Keys)
	if !slices.Equal(got.Keys, found.Keys) {
		t.Errorf("Merge: %d keys, not %d", len(got.Keys), len(found.Keys))
	}
	checkWrong(t, got)
	checkReport(t, report.Report{Keys: found.Keys[len(found.Keys)-65535:]})
}
