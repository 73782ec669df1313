package state_test

import (
	"math"
	"reflect"
	"slices"
	"testing"

	"sinnet/api"
	"sinnet/state"
)

// program: threads over four variables and two mutexes.
func program(threads ...[]api.Instr) api.Prog {
	return api.Prog{Vars: 4, Mutexes: 2, Threads: threads}
}

// begin: a program's beginning, that there must be.
func begin(t *testing.T, p api.Prog, fuel int) *state.State {
	t.Helper()
	s, e := state.New(p, fuel)
	if s == nil || e != api.OK {
		t.Fatalf("New(%+v, %d): %v %v", p, fuel, s, e)
	}
	return s
}

// steps: threads' steps that all must be done; it answers the last one's event.
func steps(t *testing.T, s *state.State, row ...int) api.Event {
	t.Helper()
	var last api.Event
	for i, thread := range row {
		next, ok := s.Next(thread)
		got, e := s.Step(thread)
		if e != api.OK || !ok || got != next {
			t.Fatalf("Step %d of %v: %+v %v, and Next was %+v %v", i, row, got, e, next, ok)
		}
		last = got
	}
	return last
}

// refuses: a step that may not be done, and changes nothing.
func refuses(t *testing.T, s *state.State, thread int, want api.Errno) {
	t.Helper()
	was := look(s)
	got, e := s.Step(thread)
	if got != (api.Event{}) || e != want {
		t.Errorf("Step(%d): %+v %v, not %v", thread, got, e, want)
	}
	if now := look(s); !reflect.DeepEqual(was, now) {
		t.Errorf("Step(%d) told %v, and changed %+v to %+v", thread, want, was, now)
	}
}

// view: all that a state tells at once, places that it hasn't among them.
type view struct {
	threads int
	next    [9]api.Event
	does    [9]bool
	may     [9]bool
	vars    [9]int64
	holders [9]int
	all     []int
}

func look(s *state.State) view {
	v := view{threads: s.Threads(), all: append([]int{}, s.All()...)}
	for i := range 9 {
		v.next[i], v.does[i] = s.Next(i - 2)
		v.may[i] = s.Enabled(i - 2)
		v.vars[i] = s.Var(i - 2)
		v.holders[i] = s.Holder(i - 2)
	}
	return v
}

// mostSteps: no program has longer executions.
const mostSteps = api.MaxThreads * api.MaxFuel

// ends: all that a state tells, here and behind all steps that may still be done, first by lesser threads.
func ends(s *state.State) []view {
	s = s.Copy()
	list := []view{look(s)}
	for all := s.All(); len(all) > 0 && len(list) <= mostSteps; all = s.All() {
		s.Step(all[0])
		list = append(list, look(s))
	}
	return list
}

func set(r int, n int64) api.Instr { return api.Instr{Kind: api.OSet, R: r, N: n} }
func add(r int, n int64) api.Instr { return api.Instr{Kind: api.OAdd, R: r, N: n} }
func load(r, x int) api.Instr      { return api.Instr{Kind: api.OLoad, R: r, X: x} }
func store(r, x int) api.Instr     { return api.Instr{Kind: api.OStore, R: r, X: x} }
func lock(m int) api.Instr         { return api.Instr{Kind: api.OLock, X: m} }
func unlock(m int) api.Instr       { return api.Instr{Kind: api.OUnlock, X: m} }
func jump(r, x int) api.Instr      { return api.Instr{Kind: api.OJump, R: r, X: x} }
func assert(r int) api.Instr       { return api.Instr{Kind: api.OAssert, R: r} }

func local(thread int) api.Event { return api.Event{Thread: thread, Kind: api.ELocal} }
func fails(thread int) api.Event { return api.Event{Thread: thread, Kind: api.ELocal, Fail: true} }
func of(thread, kind, obj int) api.Event {
	return api.Event{Thread: thread, Kind: kind, Obj: obj}
}

func TestNewRefuses(t *testing.T) {
	right := program([]api.Instr{set(0, 1)})
	for name, c := range map[string]struct {
		p    api.Prog
		fuel int
	}{
		"fuel -1":                   {right, -1},
		"fuel 9":                    {right, 9},
		"fuel 256":                  {right, 256},
		"least fuel":                {right, math.MinInt},
		"most fuel":                 {right, math.MaxInt},
		"no program":                {api.Prog{}, 8},
		"no program, wrong fuel":    {api.Prog{}, 9},
		"five threads":              {program(nil, nil, nil, nil, nil), 8},
		"nine instructions":         {program(slices.Repeat([]api.Instr{set(0, 1)}, 9)), 8},
		"five variables":            {api.Prog{Vars: 5, Threads: [][]api.Instr{nil}}, 8},
		"three mutexes":             {api.Prog{Mutexes: 3, Threads: [][]api.Instr{nil}}, 8},
		"no kind":                   {program([]api.Instr{{}}), 8},
		"kind 9":                    {program([]api.Instr{{Kind: 9}}), 8},
		"no such variable":          {api.Prog{Vars: 3, Threads: [][]api.Instr{{load(0, 3)}}}, 8},
		"no such mutex":             {api.Prog{Mutexes: 1, Threads: [][]api.Instr{nil, {lock(1)}}}, 8},
		"no such register":          {program([]api.Instr{set(2, 0)}), 8},
		"a jump too far":            {program([]api.Instr{jump(0, 2)}), 8},
		"a number too great":        {program([]api.Instr{add(0, 128)}), 8},
		"wrong in the last, fuel 0": {program(nil, nil, nil, []api.Instr{{}}), 0},
	} {
		if s, e := state.New(c.p, c.fuel); s != nil || e != api.ErrArg {
			t.Errorf("%s: New: %v %v", name, s, e)
		}
		if s, events, e := state.Replay(c.p, c.fuel, nil); s != nil || len(events) != 0 || e != api.ErrArg {
			t.Errorf("%s: Replay of nothing: %v %v %v", name, s, events, e)
		}
		// New's error comes first, whatever the row would tell.
		if s, events, e := state.Replay(c.p, c.fuel, []int{9}); s != nil || len(events) != 0 || e != api.ErrArg {
			t.Errorf("%s: Replay of 9: %v %v %v", name, s, events, e)
		}
	}
}

func TestBeginning(t *testing.T) {
	for fuel := range 9 {
		s := begin(t, program([]api.Instr{load(0, 0)}, nil, []api.Instr{lock(1)}, []api.Instr{assert(1)}), fuel)
		if s.Threads() != 4 {
			t.Errorf("Threads: %d", s.Threads())
		}
		for x := -1; x < 6; x++ {
			if s.Var(x) != 0 || s.Holder(x) != -1 {
				t.Errorf("Var(%d): %d, Holder(%d): %d", x, s.Var(x), x, s.Holder(x))
			}
		}
		want := []int{0, 2, 3}
		if fuel == 0 {
			want = nil
		}
		if all := s.All(); !slices.Equal(all, want) {
			t.Errorf("fuel %d: All: %v, not %v", fuel, all, want)
		}
	}
}

func TestThreads(t *testing.T) {
	for n := 1; n <= 4; n++ {
		s := begin(t, program(slices.Repeat([][]api.Instr{{set(0, 1)}}, n)...), 1)
		if s.Threads() != n || len(s.All()) != n {
			t.Errorf("%d threads: %d, All: %v", n, s.Threads(), s.All())
		}
		steps(t, s, n-1)
		refuses(t, s, n, api.ErrRange)
		if s.Threads() != n {
			t.Errorf("%d threads: %d behind a step", n, s.Threads())
		}
	}
}

// What each kind of instruction is, at a beginning, as thread 2.
func TestNextOfEachKind(t *testing.T) {
	for _, c := range []struct {
		in   api.Instr
		want api.Event
	}{
		{load(0, 0), of(2, api.ERead, 0)},
		{load(1, 3), of(2, api.ERead, 3)},
		{store(0, 0), of(2, api.EWrite, 0)},
		{store(1, 3), of(2, api.EWrite, 3)},
		{set(0, 5), local(2)},
		{set(1, 0), local(2)},
		{add(0, -1), local(2)},
		{lock(0), of(2, api.ELock, 0)},
		{lock(1), of(2, api.ELock, 1)},
		{unlock(0), fails(2)},
		{unlock(1), fails(2)},
		{jump(0, 0), local(2)},
		{jump(1, 1), local(2)}, // X of a jump is no object
		{assert(0), fails(2)},
		{assert(1), fails(2)},
	} {
		s := begin(t, program(nil, nil, []api.Instr{c.in}), 1)
		if next, ok := s.Next(2); next != c.want || !ok || !s.Enabled(2) {
			t.Errorf("%+v: Next: %+v %v", c.in, next, ok)
		}
		if all := s.All(); !slices.Equal(all, []int{2}) {
			t.Errorf("%+v: All: %v", c.in, all)
		}
		if got, e := s.Step(2); got != c.want || e != api.OK {
			t.Errorf("%+v: Step: %+v %v", c.in, got, e)
		}
		nothing(t, s, 2)
	}
}

// nothing: the thread does nothing next.
func nothing(t *testing.T, s *state.State, thread int) {
	t.Helper()
	if next, ok := s.Next(thread); ok || next != (api.Event{}) {
		t.Errorf("Next(%d): %+v %v", thread, next, ok)
	}
	if s.Enabled(thread) || slices.Contains(s.All(), thread) {
		t.Errorf("%d may do nothing: %v", thread, s.All())
	}
	refuses(t, s, thread, api.ErrNone)
}

func TestThreadsThatThereAreNot(t *testing.T) {
	s := begin(t, program([]api.Instr{lock(0), set(0, 1)}, []api.Instr{lock(0)}), 8)
	for range 2 {
		for _, thread := range []int{-1, 2, 3, 4, 5, 255, 256, math.MinInt, math.MaxInt} {
			if next, ok := s.Next(thread); ok || next != (api.Event{}) || s.Enabled(thread) {
				t.Errorf("Next(%d): %+v %v", thread, next, ok)
			}
			refuses(t, s, thread, api.ErrRange)
		}
		steps(t, s, 0)
	}
}

func TestVariablesThatThereAreNot(t *testing.T) {
	p := api.Prog{Vars: 2, Mutexes: 1, Threads: [][]api.Instr{{set(0, 7), store(0, 0), store(0, 1), lock(0)}}}
	s := begin(t, p, 8)
	steps(t, s, 0, 0, 0, 0)
	for x, want := range map[int]int64{-1: 0, 0: 7, 1: 7, 2: 0, 3: 0, 4: 0, math.MinInt: 0, math.MaxInt: 0} {
		if got := s.Var(x); got != want {
			t.Errorf("Var(%d): %d, not %d", x, got, want)
		}
	}
	for m, want := range map[int]int{-1: -1, 0: 0, 1: -1, 2: -1, math.MinInt: -1, math.MaxInt: -1} {
		if got := s.Holder(m); got != want {
			t.Errorf("Holder(%d): %d, not %d", m, got, want)
		}
	}
}

func TestNilState(t *testing.T) {
	var s *state.State
	for _, i := range []int{-1, 0, 1, 4} {
		if next, ok := s.Next(i); ok || next != (api.Event{}) || s.Enabled(i) {
			t.Errorf("Next(%d): %+v %v", i, next, ok)
		}
		if got, e := s.Step(i); got != (api.Event{}) || e != api.ErrNil {
			t.Errorf("Step(%d): %+v %v", i, got, e)
		}
		if s.Var(i) != 0 || s.Holder(i) != -1 {
			t.Errorf("Var(%d): %d, Holder(%d): %d", i, s.Var(i), i, s.Holder(i))
		}
	}
	if len(s.All()) != 0 || s.Threads() != 0 || s.Copy() != nil {
		t.Errorf("%v %d %v", s.All(), s.Threads(), s.Copy())
	}
}

// A State that New didn't make has no threads, no variables, no mutexes.
func TestZeroState(t *testing.T) {
	var s state.State
	for _, i := range []int{-1, 0, 1, 4} {
		if next, ok := s.Next(i); ok || next != (api.Event{}) || s.Enabled(i) {
			t.Errorf("Next(%d): %+v %v", i, next, ok)
		}
		refuses(t, &s, i, api.ErrRange)
		if s.Var(i) != 0 || s.Holder(i) != -1 {
			t.Errorf("Var(%d): %d, Holder(%d): %d", i, s.Var(i), i, s.Holder(i))
		}
	}
	if len(s.All()) != 0 || s.Threads() != 0 || s.Copy() == nil || s.Copy().Threads() != 0 {
		t.Errorf("%v %d %v", s.All(), s.Threads(), s.Copy())
	}
}

func TestCopy(t *testing.T) {
	p := program(
		[]api.Instr{set(0, 3), store(0, 1), lock(0), assert(0), unlock(0)},
		[]api.Instr{load(1, 1), lock(0), jump(1, 0), assert(1)})
	for n := range 5 {
		first := begin(t, p, 8)
		steps(t, first, slices.Repeat([]int{0}, n)...)
		want := ends(first)
		like := first.Copy()
		if got := ends(like); !reflect.DeepEqual(got, want) {
			t.Errorf("behind %d: %+v, not %+v", n, got, want)
		}
		steps(t, first, 0)
		if got := ends(like); !reflect.DeepEqual(got, want) {
			t.Errorf("behind %d: the copy felt the first one's step", n)
		}
		want = ends(first)
		steps(t, like, 1, 0)
		if got := ends(first); !reflect.DeepEqual(got, want) {
			t.Errorf("behind %d: the first one felt the copy's step", n)
		}
	}
}

func TestAllIsNewMemory(t *testing.T) {
	s := begin(t, program([]api.Instr{set(0, 1)}, nil, []api.Instr{set(0, 1)}, []api.Instr{lock(0)}), 8)
	first := s.All()
	_ = append(first[:0], 9, 9, 9, 9)
	if got := s.All(); !slices.Equal(got, []int{0, 2, 3}) {
		t.Errorf("All: %v", got)
	}
}

// spare: lists with room behind their ends, that nobody may touch.
func spare() [][]api.Instr {
	bad := api.Instr{Kind: 99, R: 99, X: 99, N: 99}
	return [][]api.Instr{{set(0, 1), store(0, 0), bad}, {load(0, 0), jump(0, 0), bad}, {bad}}
}

// roomy: a program made of such lists.
func roomy(lists [][]api.Instr) api.Prog {
	lists[0], lists[1] = lists[0][:2], lists[1][:2]
	return program(lists[:2]...)
}

func TestProgramStaysAsItIs(t *testing.T) {
	lists, want := spare(), spare()
	p := roomy(lists)
	row := []int{0, 0, 1, 1, 1, 99, 99}
	s := begin(t, p, 8)
	steps(t, s, row[:5]...)
	if _, _, e := state.Replay(p, 8, row[:5]); e != api.OK {
		t.Error(e)
	}
	state.New(p, 9)
	state.Replay(p, 8, row[:6])
	for i := range lists {
		if got := lists[i][:len(want[i])]; !slices.Equal(got, want[i]) {
			t.Errorf("thread %d: %+v, not %+v", i, got, want[i])
		}
	}
	if p.Vars != 4 || p.Mutexes != 2 || len(p.Threads) != 2 || !slices.Equal(row, []int{0, 0, 1, 1, 1, 99, 99}) {
		t.Errorf("%+v %v", p, row)
	}
}

func TestProgramIsNotKept(t *testing.T) {
	p := roomy(spare())
	row := []int{0, 1, 0}
	s := begin(t, p, 8)
	u, _, _ := state.Replay(p, 8, row)
	wantS, wantU := ends(s), ends(u)
	for i := range p.Threads {
		for j := range p.Threads[i] {
			p.Threads[i][j] = lock(1)
		}
		p.Threads[i] = nil
	}
	row[0], row[1], row[2] = 9, 9, 9
	if !reflect.DeepEqual(ends(s), wantS) || !reflect.DeepEqual(ends(u), wantU) {
		t.Error("a state feels what becomes of its program")
	}
}
