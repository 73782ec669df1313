package state_test

import (
	"math"
	"slices"
	"testing"

	"sinnet/api"
	"sinnet/state"
)

func TestNumbers(t *testing.T) {
	for name, c := range map[string]struct {
		code []api.Instr
		want [4]int64
	}{
		"set and store":            {[]api.Instr{set(0, 5), store(0, 2)}, [4]int64{2: 5}},
		"the least":                {[]api.Instr{set(1, -128), store(1, 3)}, [4]int64{3: -128}},
		"the greatest":             {[]api.Instr{set(1, 127), store(1, 0)}, [4]int64{127}},
		"registers are two":        {[]api.Instr{set(0, 5), set(1, 6), store(0, 0), store(1, 1)}, [4]int64{5, 6}},
		"set anew":                 {[]api.Instr{set(0, 5), set(0, -6), store(0, 0)}, [4]int64{-6}},
		"add from 0":               {[]api.Instr{add(1, 7), store(1, 0)}, [4]int64{7}},
		"add":                      {[]api.Instr{set(0, 5), add(0, -7), store(0, 0)}, [4]int64{-2}},
		"more than a byte":         {[]api.Instr{set(0, 127), add(0, 127), add(0, 127), store(0, 0)}, [4]int64{381}},
		"less than a byte":         {[]api.Instr{set(0, -128), add(0, -128), add(0, -1), store(0, 0)}, [4]int64{-257}},
		"add to the other one":     {[]api.Instr{set(0, 5), add(1, 1), store(0, 0), store(1, 1)}, [4]int64{5, 1}},
		"load":                     {[]api.Instr{set(0, 5), store(0, 2), load(1, 2), add(1, 1), store(1, 3)}, [4]int64{2: 5, 3: 6}},
		"load of another variable": {[]api.Instr{set(0, 5), store(0, 2), load(0, 1), store(0, 2)}, [4]int64{}},
		"store leaves registers":   {[]api.Instr{set(0, 5), store(0, 0), store(0, 1)}, [4]int64{5, 5}},
		"others leave all":         {[]api.Instr{set(0, 5), lock(0), unlock(0), unlock(1), assert(1), jump(1, 0), store(0, 0)}, [4]int64{5}},
		"an assertion changes none": {[]api.Instr{set(1, 3), assert(0), assert(1), store(0, 0), store(1, 1)},
			[4]int64{0, 3}},
	} {
		s := begin(t, program(nil, c.code, nil), 8)
		steps(t, s, slices.Repeat([]int{1}, len(c.code))...)
		nothing(t, s, 1)
		for x, want := range c.want {
			if got := s.Var(x); got != want {
				t.Errorf("%s: Var(%d): %d, not %d", name, x, got, want)
			}
		}
	}
}

// All steps of all threads together reach the greatest number there can be.
func TestNumbersThroughThreads(t *testing.T) {
	code := []api.Instr{load(0, 0), add(0, 127), add(0, 127), add(0, 127), add(0, 127), add(0, 127), add(0, 127), store(0, 0)}
	s := begin(t, program(code, code, code, code), 8)
	for thread := range 4 {
		steps(t, s, slices.Repeat([]int{thread}, 8)...)
	}
	if got := s.Var(0); got != 24*127 {
		t.Errorf("Var(0): %d", got)
	}
}

func TestRegistersAreAThreadsOwn(t *testing.T) {
	s := begin(t, program([]api.Instr{set(0, 5), store(0, 0)}, []api.Instr{add(0, 1), store(0, 1)}), 8)
	steps(t, s, 0, 1, 0, 1)
	if s.Var(0) != 5 || s.Var(1) != 1 {
		t.Errorf("%d %d", s.Var(0), s.Var(1))
	}
}

func TestAssert(t *testing.T) {
	for _, r := range []int{0, 1} {
		for n, want := range map[int64]api.Event{0: fails(1), 1: local(1), -1: local(1), -128: local(1)} {
			s := begin(t, program(nil, []api.Instr{set(1-r, 1-min(1, n*n)), set(r, n), assert(r), store(r, 0)}), 8)
			if got := steps(t, s, 1, 1, 1); got != want {
				t.Errorf("register %d, %d: %+v", r, n, got)
			}
			// Whoever failed goes on.
			if got := steps(t, s, 1); got != of(1, api.EWrite, 0) || s.Var(0) != n {
				t.Errorf("register %d, %d: %+v, Var(0): %d", r, n, got, s.Var(0))
			}
		}
	}
}

func TestJump(t *testing.T) {
	for name, c := range map[string]struct {
		code []api.Instr
		fuel int
		want []api.Event // of all steps of thread 0
	}{
		"by 0: on": {[]api.Instr{jump(0, 3), store(0, 1), store(0, 2), store(0, 3)}, 8,
			[]api.Event{local(0), of(0, api.EWrite, 1), of(0, api.EWrite, 2), of(0, api.EWrite, 3)}},
		"ahead": {[]api.Instr{set(1, 1), jump(1, 3), store(0, 1), store(0, 2)}, 8,
			[]api.Event{local(0), local(0), of(0, api.EWrite, 2)}},
		"by the other register: on": {[]api.Instr{set(1, 1), jump(0, 3), store(0, 1), store(0, 2)}, 8,
			[]api.Event{local(0), local(0), of(0, api.EWrite, 1), of(0, api.EWrite, 2)}},
		"by less than 0": {[]api.Instr{set(0, -1), jump(0, 3), store(0, 1), store(0, 2)}, 8,
			[]api.Event{local(0), local(0), of(0, api.EWrite, 2)}},
		"to the end": {[]api.Instr{set(0, 1), jump(0, 3), store(0, 1)}, 8,
			[]api.Event{local(0), local(0)}},
		"at the end, by 0": {[]api.Instr{jump(0, 0)}, 8,
			[]api.Event{local(0)}},
		"to itself": {[]api.Instr{add(0, 1), jump(0, 1)}, 5,
			[]api.Event{local(0), local(0), local(0), local(0), local(0)}},
		"back, till it is 0": {[]api.Instr{add(0, 2), load(1, 0), add(0, -1), jump(0, 1), store(0, 0)}, 8,
			[]api.Event{local(0), of(0, api.ERead, 0), local(0), local(0), of(0, api.ERead, 0), local(0), local(0), of(0, api.EWrite, 0)}},
		"back, till no fuel is left": {[]api.Instr{load(0, 3), set(0, 1), jump(0, 0)}, 7,
			[]api.Event{of(0, api.ERead, 3), local(0), local(0), of(0, api.ERead, 3), local(0), local(0), of(0, api.ERead, 3)}},
	} {
		s := begin(t, program(c.code, []api.Instr{load(0, 0)}), c.fuel)
		for i, want := range c.want {
			if got, e := s.Step(0); got != want || e != api.OK {
				t.Errorf("%s: step %d: %+v %v, not %+v", name, i, got, e, want)
			}
		}
		nothing(t, s, 0)
		steps(t, s, 1) // another one has its own place and fuel
	}
}

func TestFuel(t *testing.T) {
	code := slices.Repeat([]api.Instr{add(0, 1)}, 8)
	for fuel := range 9 {
		s := begin(t, program(code, code), fuel)
		for i := range fuel {
			if got, e := s.Step(1); got != local(1) || e != api.OK {
				t.Errorf("fuel %d, step %d: %+v %v", fuel, i, got, e)
			}
		}
		nothing(t, s, 1)
		if fuel > 0 {
			steps(t, s, 0)
		}
	}
	// A thread that would wait for a mutex, but has no fuel, does nothing next.
	s := begin(t, program([]api.Instr{lock(0)}, []api.Instr{set(0, 1), lock(0)}), 1)
	steps(t, s, 0, 1)
	nothing(t, s, 1)
}

// A step that isn't done takes no fuel.
func TestWaitingTakesNoFuel(t *testing.T) {
	s := begin(t, program([]api.Instr{lock(0), unlock(0)}, []api.Instr{lock(0), unlock(0)}), 2)
	steps(t, s, 0)
	for range 20 {
		refuses(t, s, 1, api.ErrState)
		refuses(t, s, 2, api.ErrRange)
	}
	steps(t, s, 0, 1, 1)
	nothing(t, s, 0)
	nothing(t, s, 1)
}

func TestMutex(t *testing.T) {
	s := begin(t, program([]api.Instr{lock(0), unlock(0)}, []api.Instr{lock(0), unlock(0)}, []api.Instr{lock(1)}), 8)
	check := func(all []int, holders ...int) {
		t.Helper()
		if got := s.All(); !slices.Equal(got, all) || s.Holder(0) != holders[0] || s.Holder(1) != holders[1] {
			t.Errorf("All: %v, Holder: %d %d; not %v, %v", got, s.Holder(0), s.Holder(1), all, holders)
		}
	}
	check([]int{0, 1, 2}, -1, -1)
	if got := steps(t, s, 1); got != of(1, api.ELock, 0) {
		t.Errorf("%+v", got)
	}
	check([]int{1, 2}, 1, -1)
	if next, ok := s.Next(0); next != of(0, api.ELock, 0) || !ok || s.Enabled(0) {
		t.Errorf("who waits would do it: %+v %v", next, ok)
	}
	refuses(t, s, 0, api.ErrState)
	steps(t, s, 2)
	check([]int{1}, 1, 2)
	if got := steps(t, s, 1); got != of(1, api.EUnlock, 0) {
		t.Errorf("%+v", got)
	}
	check([]int{0}, -1, 2)
	steps(t, s, 0)
	check([]int{0}, 0, 2)
	steps(t, s, 0)
	// A thread that ends keeps what it has.
	check(nil, -1, 2)
}

func TestMutexTakenTwice(t *testing.T) {
	for thread := range 2 {
		s := begin(t, program([]api.Instr{lock(1), lock(1)}, []api.Instr{lock(1), lock(1)}), 8)
		steps(t, s, thread)
		for i := range 2 {
			if next, ok := s.Next(i); next != of(i, api.ELock, 1) || !ok || s.Enabled(i) {
				t.Errorf("Next(%d): %+v %v", i, next, ok)
			}
			refuses(t, s, i, api.ErrState)
		}
		if len(s.All()) != 0 || s.Holder(1) != thread || s.Holder(0) != -1 {
			t.Errorf("%v %d %d", s.All(), s.Holder(1), s.Holder(0))
		}
	}
}

func TestMutexGivenBackByAnother(t *testing.T) {
	s := begin(t, program([]api.Instr{lock(0), unlock(0), unlock(0)}, []api.Instr{unlock(0), unlock(1), load(0, 0)}), 8)
	steps(t, s, 0)
	if got := steps(t, s, 1); got != fails(1) || s.Holder(0) != 0 {
		t.Errorf("another one's: %+v, Holder: %d", got, s.Holder(0))
	}
	if got := steps(t, s, 1); got != fails(1) || s.Holder(1) != -1 {
		t.Errorf("nobody's: %+v, Holder: %d", got, s.Holder(1))
	}
	if got := steps(t, s, 1); got != of(1, api.ERead, 0) {
		t.Errorf("behind it: %+v", got)
	}
	if got := steps(t, s, 0); got != of(0, api.EUnlock, 0) || s.Holder(0) != -1 {
		t.Errorf("its own: %+v, Holder: %d", got, s.Holder(0))
	}
	if got := steps(t, s, 0); got != fails(0) || s.Holder(0) != -1 {
		t.Errorf("given back already: %+v, Holder: %d", got, s.Holder(0))
	}
}

func TestReplay(t *testing.T) {
	p := program(
		[]api.Instr{set(0, 9), store(0, 1), lock(1), assert(1)},
		[]api.Instr{lock(1), load(0, 1), store(0, 0)})
	for _, c := range []struct {
		row  []int
		want []api.Event
	}{
		{nil, nil},
		{[]int{}, nil},
		{[]int{1}, []api.Event{of(1, api.ELock, 1)}},
		{[]int{0, 1, 0, 1, 1}, []api.Event{local(0), of(1, api.ELock, 1), of(0, api.EWrite, 1), of(1, api.ERead, 1), of(1, api.EWrite, 0)}},
		{[]int{0, 0, 0, 0}, []api.Event{local(0), of(0, api.EWrite, 1), of(0, api.ELock, 1), fails(0)}},
	} {
		s, events, e := state.Replay(p, 8, c.row)
		if s == nil || e != api.OK || !slices.Equal(events, c.want) {
			t.Fatalf("%v: %v %v", c.row, events, e)
		}
		by := begin(t, p, 8)
		steps(t, by, c.row...)
		if got, want := ends(s), ends(by); !slices.EqualFunc(got, want, sameView) {
			t.Errorf("%v: %+v, not %+v", c.row, got, want)
		}
	}
	if s, _, _ := state.Replay(p, 8, []int{0, 1, 0, 1, 1}); s.Var(0) != 9 || s.Var(1) != 9 || s.Holder(1) != 1 {
		t.Errorf("%d %d %d", s.Var(0), s.Var(1), s.Holder(1))
	}
}

func TestReplayRefuses(t *testing.T) {
	p := program([]api.Instr{lock(0), lock(0)}, []api.Instr{lock(0), set(0, 1)}, nil)
	for _, c := range []struct {
		fuel int
		row  []int
		want api.Errno
	}{
		{8, []int{3}, api.ErrRange},
		{8, []int{-1}, api.ErrRange},
		{8, []int{math.MaxInt}, api.ErrRange},
		{8, []int{2}, api.ErrNone},
		{0, []int{0}, api.ErrNone},
		{0, []int{3}, api.ErrRange},
		{8, []int{0, 0}, api.ErrState},
		{8, []int{0, 1}, api.ErrState},
		{1, []int{0, 0}, api.ErrNone}, // no fuel, ahead of the mutex
		{1, []int{0, 1}, api.ErrState},
		{8, []int{1, 1, 1}, api.ErrNone},
		{8, []int{1, 1, 0}, api.ErrState},
		// The first one that is met, from the front.
		{8, []int{0, 0, 2, 3}, api.ErrState},
		{8, []int{0, 2, 0, 3}, api.ErrNone},
		{8, []int{0, 3, 2, 0}, api.ErrRange},
		{8, slices.Repeat([]int{1}, 1000), api.ErrNone},
	} {
		if s, events, e := state.Replay(p, c.fuel, c.row); s != nil || len(events) != 0 || e != c.want {
			t.Errorf("fuel %d, %v: %v %v %v, not %v", c.fuel, c.row, s, events, e, c.want)
		}
	}
	// As much as fuel and instructions last, and one more.
	long := slices.Repeat([]int{0, 1, 2, 3}, 8)
	code := slices.Repeat([]api.Instr{add(0, 1)}, 8)
	full := program(code, code, code, code)
	if s, events, e := state.Replay(full, 8, long); s == nil || len(events) != 32 || e != api.OK {
		t.Errorf("%v %v %v", s, events, e)
	}
	if s, events, e := state.Replay(full, 8, append(long, 0)); s != nil || len(events) != 0 || e != api.ErrNone {
		t.Errorf("%v %v %v", s, events, e)
	}
}

func TestReplayIsNewMemory(t *testing.T) {
	p := program([]api.Instr{set(0, 1), store(0, 0)})
	_, first, _ := state.Replay(p, 8, []int{0, 0})
	first[0], first[1] = of(9, 9, 9), of(9, 9, 9)
	s, second, e := state.Replay(p, 8, []int{0, 0})
	if e != api.OK || s.Var(0) != 1 || !slices.Equal(second, []api.Event{local(0), of(0, api.EWrite, 0)}) {
		t.Errorf("%v %v", second, e)
	}
}
