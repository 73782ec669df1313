package state_test

import (
	"math/rand"
	"reflect"
	"slices"
	"testing"

	"sinnet/api"
	"sinnet/state"
)

func sameView(a, b view) bool { return reflect.DeepEqual(a, b) }

// model is the chapter's section Words again, told by the row of steps so far and nothing else: it does them all anew.
type model struct {
	p    api.Prog
	fuel int
	row  []int
}

// told: where the row leads.
type told struct {
	place, steps map[int]int
	regs         map[[2]int]int64
	vars         map[int]int64
	holder       map[int]int
	last         api.Event
}

func (m model) run() told {
	w := told{map[int]int{}, map[int]int{}, map[[2]int]int64{}, map[int]int64{}, map[int]int{}, api.Event{}}
	for _, thread := range m.row {
		w.last, _ = m.next(w, thread)
		in := m.p.Threads[thread][w.place[thread]]
		reg := [2]int{thread, in.R}
		w.steps[thread]++
		w.place[thread]++
		holder, held := w.holder[in.X]
		switch in.Kind {
		case api.OLoad:
			w.regs[reg] = w.vars[in.X]
		case api.OStore:
			w.vars[in.X] = w.regs[reg]
		case api.OSet:
			w.regs[reg] = in.N
		case api.OAdd:
			w.regs[reg] += in.N
		case api.OLock:
			w.holder[in.X] = thread
		case api.OUnlock:
			if held && holder == thread {
				delete(w.holder, in.X)
			}
		case api.OJump:
			if w.regs[reg] != 0 {
				w.place[thread] = in.X
			}
		}
	}
	return w
}

func (m model) next(w told, thread int) (api.Event, bool) {
	if thread < 0 || thread >= len(m.p.Threads) {
		return api.Event{}, false
	}
	code := m.p.Threads[thread]
	if w.steps[thread] >= m.fuel || w.place[thread] >= len(code) {
		return api.Event{}, false
	}
	in := code[w.place[thread]]
	ev := api.Event{Thread: thread, Kind: api.ELocal}
	switch in.Kind {
	case api.OLoad:
		ev.Kind, ev.Obj = api.ERead, in.X
	case api.OStore:
		ev.Kind, ev.Obj = api.EWrite, in.X
	case api.OLock:
		ev.Kind, ev.Obj = api.ELock, in.X
	case api.OUnlock:
		holder, held := w.holder[in.X]
		if held && holder == thread {
			ev.Kind, ev.Obj = api.EUnlock, in.X
		} else {
			ev.Fail = true
		}
	case api.OAssert:
		ev.Fail = w.regs[[2]int{thread, in.R}] == 0
	}
	return ev, true
}

// look: what a state at the end of the row must tell.
func (m model) look() view {
	w := m.run()
	v := view{threads: len(m.p.Threads), all: []int{}}
	for i := range 9 {
		v.next[i], v.does[i] = m.next(w, i-2)
		v.may[i] = v.does[i]
		if v.next[i].Kind == api.ELock {
			_, held := w.holder[v.next[i].Obj]
			v.may[i] = !held
		}
		if v.may[i] {
			v.all = append(v.all, i-2)
		}
		v.vars[i] = w.vars[i-2]
		v.holders[i] = -1
		if holder, held := w.holder[i-2]; held {
			v.holders[i] = holder
		}
	}
	return v
}

// step: what Step must tell.
func (m model) step(v view, thread int) (api.Event, api.Errno) {
	switch {
	case thread < 0 || thread >= v.threads:
		return api.Event{}, api.ErrRange
	case !v.does[thread+2]:
		return api.Event{}, api.ErrNone
	case !v.may[thread+2]:
		return api.Event{}, api.ErrState
	}
	return v.next[thread+2], api.OK
}

// anyProgram: one that may be, by draws.
func anyProgram(r *rand.Rand) api.Prog {
	p := api.Prog{Vars: r.Intn(5), Mutexes: r.Intn(3), Threads: make([][]api.Instr, 1+r.Intn(4))}
	for i := range p.Threads {
		size := r.Intn(9)
		for len(p.Threads[i]) < size {
			if in, ok := anyInstr(r, p, size); ok {
				p.Threads[i] = append(p.Threads[i], in)
			}
		}
	}
	return p
}

// anyInstr: an instruction of a kind that is drawn; false, if the program has nothing that it could be about.
func anyInstr(r *rand.Rand, p api.Prog, size int) (api.Instr, bool) {
	kind, reg := 1+r.Intn(8), r.Intn(2)
	switch kind {
	case api.OLoad, api.OStore:
		if p.Vars == 0 {
			return api.Instr{}, false
		}
		return api.Instr{Kind: kind, R: reg, X: r.Intn(p.Vars)}, true
	case api.OSet, api.OAdd:
		return api.Instr{Kind: kind, R: reg, N: int64(r.Intn(7) - 3)}, true
	case api.OLock, api.OUnlock:
		if p.Mutexes == 0 {
			return api.Instr{}, false
		}
		return api.Instr{Kind: kind, X: r.Intn(p.Mutexes)}, true
	case api.OJump:
		return api.Instr{Kind: kind, R: reg, X: r.Intn(size + 1)}, true
	}
	return api.Instr{Kind: kind, R: reg}, true
}

// anyThread: mostly one that there is, or could be.
func anyThread(r *rand.Rand) int { return r.Intn(7) - 1 }

func TestAnyProgramAnySteps(t *testing.T) {
	r := rand.New(rand.NewSource(2))
	for range 3000 {
		m := model{p: anyProgram(r), fuel: r.Intn(9)}
		s := begin(t, m.p, m.fuel)
		var events []api.Event
		for range 60 {
			want := m.look()
			if got := look(s); !sameView(got, want) {
				t.Fatalf("%+v\n%+v, not\n%+v", m, got, want)
			}
			thread := anyThread(r)
			wantEvent, wantErr := m.step(want, thread)
			if got, e := s.Step(thread); got != wantEvent || e != wantErr {
				t.Fatalf("%+v: Step(%d): %+v %v, not %+v %v", m, thread, got, e, wantEvent, wantErr)
			}
			if wantErr == api.OK {
				m.row = append(m.row, thread)
				events = append(events, wantEvent)
			} else if u, evs, e := state.Replay(m.p, m.fuel, append(slices.Clone(m.row), thread)); u != nil || len(evs) != 0 || e != wantErr {
				t.Fatalf("%+v: Replay, and %d: %v %v %v, not %v", m, thread, u, evs, e, wantErr)
			}
		}
		u, evs, e := state.Replay(m.p, m.fuel, m.row)
		if e != api.OK || !slices.Equal(evs, events) || !slices.EqualFunc(ends(u), ends(s), sameView) {
			t.Fatalf("%+v: Replay: %v %v", m, evs, e)
		}
	}
}

// P2.3: what a thread does next changes by its own steps alone; whether it may by others' locks and unlocks of the mutex that it waits for alone.
func TestWhatOthersChange(t *testing.T) {
	r := rand.New(rand.NewSource(3))
	for range 3000 {
		s := begin(t, anyProgram(r), 8)
		for n, all := 0, s.All(); len(all) > 0; n, all = n+1, s.All() {
			if n == mostSteps {
				t.Fatalf("%v may, behind %d steps", all, n)
			}
			thread := all[r.Intn(len(all))]
			was := look(s)
			done, e := s.Step(thread)
			if e != api.OK {
				t.Fatalf("Step(%d): %v", thread, e)
			}
			checkOthers(t, was, look(s), done)
		}
	}
}

func checkOthers(t *testing.T, was, now view, done api.Event) {
	t.Helper()
	for i := range was.next {
		if i == done.Thread+2 {
			continue
		}
		if was.next[i] != now.next[i] || was.does[i] != now.does[i] {
			t.Fatalf("behind %+v: %d's next changed from %+v to %+v", done, i-2, was.next[i], now.next[i])
		}
		waits := was.next[i].Kind == api.ELock && was.next[i].Obj == done.Obj
		switch {
		case done.Kind == api.ELock && waits:
			if !was.may[i] || now.may[i] {
				t.Fatalf("behind %+v: %d may still", done, i-2)
			}
		case done.Kind == api.EUnlock && waits:
			if was.may[i] || !now.may[i] {
				t.Fatalf("behind %+v: %d may not yet", done, i-2)
			}
		case was.may[i] != now.may[i]:
			t.Fatalf("behind %+v: whether %d may changed from %v to %v", done, i-2, was.may[i], now.may[i])
		}
	}
}

// FuzzSteps: any bytes as draws; no call panics, and each tells what the model does.
func FuzzSteps(f *testing.F) {
	f.Add(int64(1), 8, "\x00\x01\x02\x03\x04\xff")
	f.Fuzz(func(t *testing.T, seed int64, fuel int, row string) {
		m := model{p: anyProgram(rand.New(rand.NewSource(seed))), fuel: fuel}
		s, e := state.New(m.p, fuel)
		if fuel < 0 || fuel > 8 {
			if s != nil || e != api.ErrArg {
				t.Fatalf("New with fuel %d: %v %v", fuel, s, e)
			}
			return
		}
		for i := range len(row) {
			thread := int(int8(row[i]))
			want := m.look()
			if got := look(s); !sameView(got, want) {
				t.Fatalf("%+v\n%+v, not\n%+v", m, got, want)
			}
			wantEvent, wantErr := m.step(want, thread)
			if got, e := s.Step(thread); got != wantEvent || e != wantErr {
				t.Fatalf("%+v: Step(%d): %+v %v, not %+v %v", m, thread, got, e, wantEvent, wantErr)
			}
			if wantErr == api.OK {
				m.row = append(m.row, thread)
			}
		}
	})
}
