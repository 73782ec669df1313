package race_test

import (
	"math/rand"
	"slices"
	"testing"

	"sinnet/api"
	"sinnet/race"
	"sinnet/state"
)

func ev(thread, kind, obj int) api.Event { return api.Event{Thread: thread, Kind: kind, Obj: obj} }
func local(thread int) api.Event         { return ev(thread, api.ELocal, 0) }
func fails(thread int) api.Event         { return api.Event{Thread: thread, Kind: api.ELocal, Fail: true} }
func read(thread, x int) api.Event       { return ev(thread, api.ERead, x) }
func write(thread, x int) api.Event      { return ev(thread, api.EWrite, x) }
func lock(thread, m int) api.Event       { return ev(thread, api.ELock, m) }
func unlock(thread, m int) api.Event     { return ev(thread, api.EUnlock, m) }

// events: a row.
func events(list ...api.Event) []api.Event { return list }

// ofThread: the events of a thread that may be.
func ofThread(thread int) []api.Event {
	list := events(local(thread), fails(thread))
	for x := range api.MaxVars {
		list = append(list, read(thread, x), write(thread, x))
	}
	for m := range api.MaxMutexes {
		list = append(list, lock(thread, m), unlock(thread, m))
	}
	return list
}

// rightEvents: all events that may be.
func rightEvents() []api.Event {
	return slices.Concat(ofThread(0), ofThread(1), ofThread(2), ofThread(3))
}

// wrongEvents: some that may not be, each for one reason.
func wrongEvents() []api.Event {
	return events(
		api.Event{}, local(-1), local(4), ev(0, 6, 0), ev(0, -1, 0), ev(0, api.ELocal, 1), read(1, 4), write(1, -1),
		lock(2, 2), unlock(3, 3), api.Event{Thread: 1, Kind: api.EWrite, Fail: true}, api.Event{Kind: api.ELock, Fail: true},
	)
}

// drawn: a row of events of those given.
func drawn(r *rand.Rand, of []api.Event, size int) []api.Event {
	row := make([]api.Event, size)
	for i := range row {
		row[i] = of[r.Intn(len(of))]
	}
	return row
}

// depends is layer 3's words again, of events that may be.
func depends(a, b api.Event) bool {
	variables := (a.Kind == api.ERead || a.Kind == api.EWrite) && (b.Kind == api.ERead || b.Kind == api.EWrite)
	mutexes := (a.Kind == api.ELock || a.Kind == api.EUnlock) && (b.Kind == api.ELock || b.Kind == api.EUnlock)
	switch {
	case a.Thread == b.Thread:
		return true
	case variables && a.Obj == b.Obj:
		return a.Kind == api.EWrite || b.Kind == api.EWrite
	}
	return mutexes && a.Obj == b.Obj
}

// relation is layer 4's words again, pair by pair: does the event i happen before the event k?
func relation(row []api.Event) [][]bool {
	before := make([][]bool, len(row))
	for i := range row {
		before[i] = make([]bool, len(row))
		before[i][i] = true
	}
	for k := range row {
		// From the back, for what is between has to be known ahead of what is in front of it.
		for i := k - 1; i >= 0; i-- {
			before[i][k] = depends(row[i], row[k])
			for between := i + 1; between < k; between++ {
				before[i][k] = before[i][k] || before[i][between] && before[between][k]
			}
		}
	}
	return before
}

// racing is the chapter's words: each place of the row that races with next.
func racing(row []api.Event, before [][]bool, next api.Event) []race.Race {
	last := -1
	for i, e := range row {
		if e.Thread == next.Thread {
			last = i
		}
	}
	var list []race.Race
	for i, e := range row {
		if depends(e, next) && e.Thread != next.Thread && (last < 0 || !before[i][last]) {
			list = append(list, race.Race{At: i, Thread: next.Thread})
		}
	}
	return list
}

// racesOf is P7.1, of a row that may be.
func racesOf(s *state.State, row []api.Event) []race.Race {
	var list []race.Race
	before := relation(row)
	for thread := range api.MaxThreads {
		if next, ok := s.Next(thread); ok {
			list = append(list, racing(row, before, next)...)
		}
	}
	return list
}

// reversibleOf is P7.2, of a row that may be.
func reversibleOf(row []api.Event) []race.Race {
	var list []race.Race
	before := relation(row)
	for k := range row {
		list = append(list, racing(row[:k], before, row[k])...)
	}
	return list
}

// checkRow holds Reversible of a row that may be against the chapter's words.
func checkRow(t *testing.T, row []api.Event) {
	t.Helper()
	if got, want := race.Reversible(row), reversibleOf(row); !slices.Equal(got, want) {
		t.Fatalf("Reversible(%+v): %v, not %v", row, got, want)
	}
}

// checkState holds Races of a state and a row that may be against the chapter's words.
func checkState(t *testing.T, s *state.State, row []api.Event) {
	t.Helper()
	if got, want := race.Races(s, row), racesOf(s, row); !slices.Equal(got, want) {
		t.Fatalf("Races(%+v, %+v): %v, not %v", s, row, got, want)
	}
}

// checkNothing: neither call tells a race.
func checkNothing(t *testing.T, s *state.State, row []api.Event) {
	t.Helper()
	if got := race.Races(s, row); len(got) != 0 {
		t.Errorf("Races(%+v, %+v): %v", s, row, got)
	}
	if got := race.Reversible(row); len(got) != 0 {
		t.Errorf("Reversible(%+v): %v", row, got)
	}
}

// at: the state behind a row of threads' steps, and the events.
func at(t testing.TB, p api.Prog, fuel int, row ...int) (*state.State, []api.Event) {
	t.Helper()
	s, list, e := state.Replay(p, fuel, row)
	if e != api.OK {
		t.Fatalf("Replay(%+v, %d, %v): %v", p, fuel, row, e)
	}
	return s, list
}

// about: a state at which just the thread of next would do something, and it would do next.
func about(t testing.TB, next api.Event) *state.State {
	t.Helper()
	p := program(nil, nil, nil, nil)
	p.Vars = api.MaxVars
	switch next.Kind {
	case api.ELocal:
		p.Threads[next.Thread] = code(set(0, 1))
		if next.Fail {
			p.Threads[next.Thread] = code(assert(0))
		}
	case api.ERead:
		p.Threads[next.Thread] = code(load(0, next.Obj))
	case api.EWrite:
		p.Threads[next.Thread] = code(store(0, next.Obj))
	case api.ELock:
		p.Threads[next.Thread] = code(take(next.Obj))
	case api.EUnlock:
		p.Threads[next.Thread] = code(take(next.Obj), give(next.Obj))
		s, _ := at(t, p, 8, next.Thread)
		return s
	}
	s, _ := at(t, p, 8)
	return s
}

func set(r int, n int64) api.Instr { return api.Instr{Kind: api.OSet, R: r, N: n} }
func load(r, x int) api.Instr      { return api.Instr{Kind: api.OLoad, R: r, X: x} }
func store(r, x int) api.Instr     { return api.Instr{Kind: api.OStore, R: r, X: x} }
func take(m int) api.Instr         { return api.Instr{Kind: api.OLock, X: m} }
func give(m int) api.Instr         { return api.Instr{Kind: api.OUnlock, X: m} }
func jump(r, x int) api.Instr      { return api.Instr{Kind: api.OJump, R: r, X: x} }
func assert(r int) api.Instr       { return api.Instr{Kind: api.OAssert, R: r} }

// code: a thread's instructions.
func code(list ...api.Instr) []api.Instr { return list }

// program: threads over two variables and two mutexes.
func program(threads ...[]api.Instr) api.Prog {
	return api.Prog{Vars: 2, Mutexes: 2, Threads: threads}
}

// anyProgram: a drawn one that may be, of few objects, so that its threads meet often.
func anyProgram(r *rand.Rand) api.Prog {
	p := api.Prog{Vars: 1 + r.Intn(2), Mutexes: 1 + r.Intn(2), Threads: make([][]api.Instr, 1+r.Intn(4))}
	for i := range p.Threads {
		size := r.Intn(9)
		for range size {
			p.Threads[i] = append(p.Threads[i], anyInstr(r, p, size))
		}
	}
	return p
}

func anyInstr(r *rand.Rand, p api.Prog, size int) api.Instr {
	switch reg := r.Intn(2); r.Intn(9) {
	case 0:
		return load(reg, r.Intn(p.Vars))
	case 1, 2:
		return store(reg, r.Intn(p.Vars))
	case 3, 4:
		return take(r.Intn(p.Mutexes))
	case 5, 6:
		return give(r.Intn(p.Mutexes))
	case 7:
		return jump(reg, r.Intn(size+1))
	default:
		return set(reg, int64(r.Intn(3)-1))
	}
}
