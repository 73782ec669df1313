package clock_test

import (
	"math"
	"math/rand"
	"slices"
	"testing"

	"sinnet/api"
	"sinnet/clock"
	"sinnet/event"
	"sinnet/state"
)

// example is a row, with its clocks as the chapter's words give them.
type example struct {
	row  []api.Event
	want []stamp
}

func examples() []example {
	return []example{
		{nil, nil},
		{[]api.Event{local(2)}, []stamp{{0, 0, 1, 0}}},
		{[]api.Event{write(0, 0), write(1, 0)}, []stamp{{1, 0, 0, 0}, {1, 1, 0, 0}}},
		{[]api.Event{write(1, 0), write(0, 0)}, []stamp{{0, 1, 0, 0}, {1, 1, 0, 0}}},
		{[]api.Event{read(0, 0), read(1, 0)}, []stamp{{1, 0, 0, 0}, {0, 1, 0, 0}}},
		{[]api.Event{write(0, 0), write(1, 1)}, []stamp{{1, 0, 0, 0}, {0, 1, 0, 0}}},
		{[]api.Event{write(0, 1), lock(1, 1)}, []stamp{{1, 0, 0, 0}, {0, 1, 0, 0}}},
		{[]api.Event{local(0), fails(0), local(1), fails(0)}, []stamp{{1, 0, 0, 0}, {2, 0, 0, 0}, {0, 1, 0, 0}, {3, 0, 0, 0}}},
		// Both reads happen before the write; the one behind it knows of them by the write alone.
		{[]api.Event{read(0, 3), read(1, 3), write(2, 3), read(3, 3)}, []stamp{{1, 0, 0, 0}, {0, 1, 0, 0}, {1, 1, 1, 0}, {1, 1, 1, 1}}},
		// A mutex goes from hand to hand, and carries along what was done under it.
		{[]api.Event{lock(0, 1), write(0, 2), unlock(0, 1), lock(3, 1), read(3, 0)},
			[]stamp{{1, 0, 0, 0}, {2, 0, 0, 0}, {3, 0, 0, 0}, {3, 0, 0, 1}, {3, 0, 0, 2}}},
		// By a third one between: 0's write comes ahead of 2's local step by 1 alone.
		{[]api.Event{write(0, 0), read(1, 0), write(1, 1), read(2, 1), local(2)},
			[]stamp{{1, 0, 0, 0}, {1, 1, 0, 0}, {1, 2, 0, 0}, {1, 2, 1, 0}, {1, 2, 2, 0}}},
		// The same event twice: the first one doesn't hide the second one, nor the other way round.
		{[]api.Event{write(0, 0), read(1, 0), write(0, 0), read(1, 0), read(2, 0)},
			[]stamp{{1, 0, 0, 0}, {1, 1, 0, 0}, {2, 1, 0, 0}, {2, 2, 0, 0}, {2, 1, 1, 0}}},
	}
}

func TestClocksByExamples(t *testing.T) {
	for _, c := range examples() {
		if got := clock.Clocks(c.row); !slices.Equal(got, c.want) {
			t.Errorf("Clocks(%+v): %v, not %v", c.row, got, c.want)
		}
		checkRow(t, c.row)
	}
}

func TestOfEveryTwoEvents(t *testing.T) {
	for _, a := range rightEvents() {
		for _, b := range rightEvents() {
			checkRow(t, []api.Event{a, b})
		}
	}
}

func TestOfDrawnRows(t *testing.T) {
	r := rand.New(rand.NewSource(4))
	few := []api.Event{read(0, 0), write(0, 0), local(0), read(1, 0), write(1, 1), lock(1, 0), read(2, 1), write(2, 0), unlock(2, 0), write(3, 1), read(3, 0)}
	for range 300 {
		checkRow(t, anyRow(r, rightEvents(), r.Intn(33)))
		checkRow(t, anyRow(r, few, r.Intn(25)))
	}
}

// Real executions are rows, too: three threads that write, read and lock, stepped in drawn orders.
func TestOfExecutions(t *testing.T) {
	p := api.Prog{Vars: 2, Mutexes: 1, Threads: [][]api.Instr{
		{{Kind: api.OLock}, {Kind: api.OStore}, {Kind: api.OUnlock}, {Kind: api.OLoad, X: 1}},
		{{Kind: api.OLock}, {Kind: api.OLoad}, {Kind: api.OUnlock}, {Kind: api.OStore, X: 1}},
		{{Kind: api.OAssert}, {Kind: api.OLoad}, {Kind: api.OUnlock}, {Kind: api.OStore, X: 1}},
	}}
	r := rand.New(rand.NewSource(40))
	for range 200 {
		s, e := state.New(p, api.MaxFuel)
		if e != api.OK {
			t.Fatalf("New: %v", e)
		}
		var row []api.Event
		for all := s.All(); len(all) > 0; all = s.All() {
			next, _ := s.Step(all[r.Intn(len(all))])
			row = append(row, next)
		}
		checkRow(t, row)
	}
}

// noPlace: places that a row of that size hasn't.
func noPlace(size int) []int {
	return []int{math.MinInt, -size, -size - 1, -2, -1, size, size + 1, 2*size + 9, math.MaxInt}
}

func TestPlacesThatAreNotThere(t *testing.T) {
	row := []api.Event{write(0, 0), write(1, 0), write(0, 0), local(3)}
	for _, no := range noPlace(len(row)) {
		if n := clock.Number(row, no); n != 0 {
			t.Errorf("Number of %d: %d", no, n)
		}
		for i := range row {
			if clock.Before(row, i, no) || clock.Before(row, no, i) {
				t.Errorf("Before of %d and %d", i, no)
			}
		}
		for _, other := range noPlace(len(row)) {
			if clock.Before(row, no, other) {
				t.Errorf("Before of %d and %d", no, other)
			}
		}
	}
}

func TestThreadsThatHaveNoEvent(t *testing.T) {
	row := []api.Event{write(0, 0), write(2, 0), read(0, 0)}
	for thread, want := range map[int]stamp{0: {2, 0, 1, 0}, 2: {1, 0, 1, 0}} {
		if got := clock.Last(row, thread); got != want {
			t.Errorf("Last of %d: %v", thread, got)
		}
	}
	for _, thread := range []int{math.MinInt, -1, 1, 3, 4, 5, math.MaxInt} {
		if got := clock.Last(row, thread); got != (stamp{}) {
			t.Errorf("Last of %d: %v", thread, got)
		}
	}
}

func TestRowsThatAreEmpty(t *testing.T) {
	for _, row := range [][]api.Event{nil, {}, []api.Event{local(0)}[:0]} {
		for _, i := range []int{math.MinInt, -1, 0, 1, math.MaxInt} {
			for _, thread := range []int{math.MinInt, -1, 0, 3, 4} {
				checkNothing(t, row, i, i, thread)
			}
		}
		if !clock.Same(row, nil) || !clock.Same(nil, row) || !clock.Same(row, row) || !clock.Same(row, []api.Event{}) {
			t.Error("empty rows are not the same")
		}
		if clock.Same(row, []api.Event{local(0)}) || clock.Same([]api.Event{local(0)}, row) {
			t.Error("an empty row is the same as one that isn't")
		}
	}
}

// One event that may not be, wherever it stands, and whatever is asked of the others.
func TestRowsWithAnEventThatMayNotBe(t *testing.T) {
	right := []api.Event{write(0, 0), read(1, 0), fails(2), unlock(3, 1)}
	for _, wrong := range wrongEvents() {
		for at := range len(right) + 1 {
			row := slices.Insert(slices.Clone(right), at, wrong)
			for i := range row {
				for k := range row {
					checkNothing(t, row, i, k, i-1)
				}
			}
			if clock.Same(row, row) || clock.Same(row, right) || clock.Same(right, row) || clock.Same(row, nil) || clock.Same(nil, row) {
				t.Errorf("Same of a row with %+v at %d", wrong, at)
			}
		}
		checkNothing(t, []api.Event{wrong}, 0, 0, wrong.Thread)
		if one := []api.Event{wrong}; clock.Same(one, one) {
			t.Errorf("Same of %+v alone", wrong)
		}
	}
}

// A long row: each of 0 to 2 writes a variable of all in turn, 3 a variable of its own.
func TestLongRows(t *testing.T) {
	const rounds = 50000
	row := slices.Repeat([]api.Event{write(0, 0), write(1, 0), write(2, 0), write(3, 1)}, rounds)
	clocks := clock.Clocks(row)
	if len(clocks) != len(row) {
		t.Fatalf("%d clocks", len(clocks))
	}
	for n := range rounds {
		want := [4]stamp{{n + 1, n, n, 0}, {n + 1, n + 1, n, 0}, {n + 1, n + 1, n + 1, 0}, {0, 0, 0, n + 1}}
		if got := [4]stamp(clocks[4*n : 4*n+4]); got != want {
			t.Fatalf("round %d: %v", n, got)
		}
	}
	end := len(row) - 1
	if clock.Number(row, end) != rounds || clock.Last(row, 2) != (stamp{rounds, rounds, rounds, 0}) {
		t.Error("the end of a long row")
	}
	if !clock.Before(row, 0, end-1) || clock.Before(row, 0, end) || !clock.Before(row, 3, end) {
		t.Error("from the beginning of a long row to its end")
	}
	// 3's events all come ahead of the others': still the same.
	moved := slices.Concat(slices.Repeat([]api.Event{write(3, 1)}, rounds), slices.Repeat([]api.Event{write(0, 0), write(1, 0), write(2, 0)}, rounds))
	if !clock.Same(row, moved) {
		t.Error("long rows that are the same")
	}
	moved[end], moved[end-1] = moved[end-1], moved[end]
	if clock.Same(row, moved) || clock.Same(row, row[1:]) || clock.Same(row[:end], row) {
		t.Error("long rows that are not the same")
	}
	if len(clock.Clocks(append(row, api.Event{}))) != 0 {
		t.Error("a long row with a wrong end")
	}
}

// Rule 5: what is handed in stays, its spare room too, and no answer is its memory, or another answer's.
func TestWhatIsHandedInStays(t *testing.T) {
	whole := append(rightEvents(), write(0, 0), api.Event{Thread: 9})
	want := slices.Clone(whole)
	row := whole[: len(whole)-2 : len(whole)]
	other := slices.Clone(row)
	slices.Reverse(other)
	first := clock.Clocks(row)
	for i := range row {
		clock.Number(row, i)
		clock.Before(row, 0, i)
		clock.Last(row, i)
	}
	clock.Same(row, other)
	clock.Same(other, row)
	clock.Clocks(whole)
	if !slices.Equal(whole, want) {
		t.Errorf("changed: %+v", whole)
	}
	again := clock.Clocks(row)
	for i := range first {
		first[i] = stamp{9, 9, 9, 9}
	}
	if !slices.Equal(again, clocksOf(row)) {
		t.Error("two answers share memory")
	}
}

// checkBytes: any bytes that are events are a row; all others are looked at as they come.
func checkBytes(t *testing.T, s string, i, k, thread int) {
	t.Helper()
	if len(s) > 100 { // the pairs of a longer row would take too long
		s = s[:100]
	}
	row, e := event.Read(s)
	if e == api.OK {
		checkRow(t, row)
		return
	}
	for n := range len(s) {
		b := int(s[n])
		row = append(row, api.Event{Thread: b % 4, Kind: b % 32 / 4, Obj: b % 128 / 32, Fail: b >= 128})
	}
	checkNothing(t, row, i, k, thread)
	if clock.Same(row, row) {
		t.Errorf("Same of %+v", row)
	}
}

func FuzzClocks(f *testing.F) {
	f.Add("\x0c\x0d\x0e\x0f", 0, 1, 2)
	f.Add("\x10\x2d\x2a\x14\x11\x11\x86", 1, 1, 3)
	f.Add("\x0c\x00\x0c", 0, 2, 0)
	f.Fuzz(checkBytes)
}
