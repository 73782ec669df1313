package event_test

import (
	"math/rand"
	"reflect"
	"testing"

	"sinnet/api"
	"sinnet/event"
	"sinnet/state"
)

// anyProgram: one that may be, with few things to be about, so that threads meet at them often.
func anyProgram(r *rand.Rand) api.Prog {
	p := api.Prog{Vars: 1 + r.Intn(2), Mutexes: 1 + r.Intn(2), Threads: make([][]api.Instr, 2+r.Intn(3))}
	for i := range p.Threads {
		p.Threads[i] = make([]api.Instr, 1+r.Intn(api.MaxCode))
		for k := range p.Threads[i] {
			p.Threads[i][k] = anyInstr(r, p, len(p.Threads[i]))
		}
		if r.Intn(2) == 0 {
			takeAndGive(p.Threads[i], r.Intn(p.Mutexes))
		}
	}
	return p
}

// takeAndGive: a mutex is taken at first, and given back at last, which instructions that are drawn one by one seldom do.
func takeAndGive(code []api.Instr, mutex int) {
	code[len(code)-1] = api.Instr{Kind: api.OUnlock, X: mutex}
	code[0] = api.Instr{Kind: api.OLock, X: mutex}
}

func anyInstr(r *rand.Rand, p api.Prog, size int) api.Instr {
	kind, reg := 1+r.Intn(8), r.Intn(api.Regs)
	switch kind {
	case api.OLoad, api.OStore:
		return api.Instr{Kind: kind, R: reg, X: r.Intn(p.Vars)}
	case api.OSet, api.OAdd:
		return api.Instr{Kind: kind, R: reg, N: int64(r.Intn(5) - 2)}
	case api.OLock, api.OUnlock:
		return api.Instr{Kind: kind, X: r.Intn(p.Mutexes)}
	case api.OJump:
		return api.Instr{Kind: kind, R: reg, X: r.Intn(size + 1)}
	}
	return api.Instr{Kind: kind, R: reg}
}

// two: a thread's step, and another one's behind it, from s on, which stays; false, if one of them can't be done.
func two(s *state.State, first, second int) (*state.State, api.Event, api.Event, bool) {
	end := s.Copy()
	a, e := end.Step(first)
	if e != api.OK {
		return nil, api.Event{}, api.Event{}, false
	}
	b, e := end.Step(second)
	return end, a, b, e == api.OK
}

// checkSwap: two steps from s on, if they don't depend on one another, the other way round. It answers whether they did not.
func checkSwap(t *testing.T, s *state.State, first, second int) (api.Event, api.Event, bool) {
	t.Helper()
	end, a, b, ok := two(s, first, second)
	if !ok || event.Depends(a, b) {
		return a, b, false
	}
	other, d, c, ok := two(s, second, first)
	if !ok || c != a || d != b {
		t.Fatalf("%+v and %+v don't depend on one another, but the other way round they are %+v and %+v (%v)", a, b, c, d, ok)
	}
	if !reflect.DeepEqual(end, other) {
		t.Fatalf("%+v and %+v don't depend on one another, but come to\n%+v and\n%+v", a, b, end, other)
	}
	return a, b, true
}

// P3.2: what doesn't depend on one another can be done in either order, and comes to the same.
func TestWhatDoesNotDependIsSwapped(t *testing.T) {
	r := rand.New(rand.NewSource(7))
	swapped := map[[2]int]int{}
	for range 1500 {
		s, e := state.New(anyProgram(r), api.MaxFuel)
		if e != api.OK {
			t.Fatalf("New: %v", e)
		}
		for all := s.All(); len(all) > 0; all = s.All() {
			for _, first := range all {
				for second := range s.Threads() {
					if a, b, ok := checkSwap(t, s, first, second); ok {
						swapped[[2]int{a.Kind, b.Kind}]++
					}
				}
			}
			if _, e := s.Step(all[r.Intn(len(all))]); e != api.OK {
				t.Fatalf("Step: %v", e)
			}
		}
	}
	for a := api.ELocal; a <= api.EUnlock; a++ {
		for b := api.ELocal; b <= api.EUnlock; b++ {
			if swapped[[2]int{a, b}] == 0 {
				t.Errorf("no two events of the kinds %d and %d were swapped", a, b)
			}
		}
	}
}
