package clock_test

import (
	"math/rand"
	"slices"
	"testing"

	"sinnet/api"
	"sinnet/clock"
	"sinnet/event"
)

func TestSameByExamples(t *testing.T) {
	for _, c := range []struct {
		a, b []api.Event
		want bool
	}{
		{[]api.Event{local(0)}, []api.Event{local(0)}, true},
		{[]api.Event{local(0), local(1)}, []api.Event{local(1), local(0)}, true},
		{[]api.Event{read(0, 0), read(1, 0)}, []api.Event{read(1, 0), read(0, 0)}, true},
		{[]api.Event{write(0, 0), write(1, 0)}, []api.Event{write(1, 0), write(0, 0)}, false},
		{[]api.Event{read(0, 0), write(1, 0)}, []api.Event{write(1, 0), read(0, 0)}, false},
		{[]api.Event{lock(0, 0), lock(1, 0)}, []api.Event{lock(1, 0), lock(0, 0)}, false},
		{[]api.Event{lock(0, 0), lock(1, 1)}, []api.Event{lock(1, 1), lock(0, 0)}, true},
		{[]api.Event{write(0, 1), unlock(1, 1)}, []api.Event{unlock(1, 1), write(0, 1)}, true},
		// A thread's own order, and each of its events, count.
		{[]api.Event{local(0), fails(0)}, []api.Event{fails(0), local(0)}, false},
		{[]api.Event{local(0)}, []api.Event{fails(0)}, false},
		{[]api.Event{local(0)}, []api.Event{local(1)}, false},
		{[]api.Event{read(0, 1)}, []api.Event{read(0, 2)}, false},
		{[]api.Event{read(0, 1)}, []api.Event{write(0, 1)}, false},
		{[]api.Event{local(0)}, []api.Event{local(0), local(0)}, false},
		{[]api.Event{local(0), local(1)}, []api.Event{local(0)}, false},
		{[]api.Event{local(1)}, []api.Event{local(0), local(1)}, false},
		// Every event has as many ahead of it, but of another thread.
		{[]api.Event{write(0, 0), local(1), read(2, 0)}, []api.Event{local(1), write(0, 0), read(2, 0)}, true},
		{[]api.Event{read(0, 0), write(1, 0), read(2, 0)}, []api.Event{read(2, 0), write(1, 0), read(0, 0)}, false},
		// The neighbours could be swapped, but what stands between could not.
		{[]api.Event{write(0, 0), write(1, 0), write(1, 1), read(2, 1)}, []api.Event{write(0, 0), read(2, 1), write(1, 0), write(1, 1)}, false},
		{[]api.Event{write(0, 0), write(1, 1), read(2, 0), read(3, 1)}, []api.Event{write(1, 1), read(3, 1), write(0, 0), read(2, 0)}, true},
	} {
		if clock.Same(c.a, c.b) != c.want || clock.Same(c.b, c.a) != c.want {
			t.Errorf("%+v and %+v: not %v", c.a, c.b, c.want)
		}
	}
}

// swapped: all rows that a row is made by swapping neighbours that don't depend on one another, itself among them.
// They stand as event.Print's bytes.
func swapped(row []api.Event) map[string]int {
	found := map[string]int{event.Print(row): 0}
	todo := [][]api.Event{row}
	for len(todo) > 0 {
		now := todo[0]
		todo = todo[1:]
		for i := 1; i < len(now); i++ {
			if event.Depends(now[i-1], now[i]) {
				continue
			}
			next := slices.Clone(now)
			next[i-1], next[i] = next[i], next[i-1]
			s := event.Print(next)
			if _, ok := found[s]; !ok {
				found[s] = len(found)
				todo = append(todo, next)
			}
		}
	}
	return found
}

// rowsOf: all rows of these events, of this size.
func rowsOf(of []api.Event, size int) [][]api.Event {
	rows := [][]api.Event{nil}
	for range size {
		var longer [][]api.Event
		for _, row := range rows {
			for _, e := range of {
				longer = append(longer, append(slices.Clone(row), e))
			}
		}
		rows = longer
	}
	return rows
}

// checkSame holds a against each of rows: the swaps tell, and so do all pairs.
func checkSame(t *testing.T, a []api.Event, rows [][]api.Event) int {
	t.Helper()
	found := swapped(a)
	for _, b := range rows {
		_, want := found[event.Print(b)]
		if got := clock.Same(a, b); got != want {
			t.Fatalf("Same(%+v, %+v): %v", a, b, got)
		}
	}
	return len(found)
}

// P4.2's first half, of all short rows of a few events: each with each.
func TestSameIsMadeBySwaps(t *testing.T) {
	for _, of := range [][]api.Event{
		{write(0, 0), read(1, 0), read(2, 0), local(3)},
		{read(0, 0), write(1, 0), write(1, 1), read(2, 1)},
		{lock(0, 0), unlock(0, 0), lock(1, 0), fails(1)},
		{write(0, 1), lock(0, 1), write(2, 1), unlock(3, 1)},
	} {
		rows := rowsOf(of, 4)
		for _, a := range rows {
			checkSame(t, a, rows)
		}
	}
}

// shuffled: the same events in a drawn order, each thread's own order kept or not.
func shuffled(r *rand.Rand, row []api.Event, keep bool) []api.Event {
	other := slices.Clone(row)
	r.Shuffle(len(other), func(i, k int) { other[i], other[k] = other[k], other[i] })
	if !keep {
		return other
	}
	var own [api.MaxThreads][]api.Event
	for _, e := range row {
		own[e.Thread] = append(own[e.Thread], e)
	}
	for i, e := range other {
		other[i] = own[e.Thread][0]
		own[e.Thread] = own[e.Thread][1:]
	}
	return other
}

// Longer rows, in drawn orders of the same events: those that swaps come to, and those that they don't.
func TestSameOfDrawnRows(t *testing.T) {
	r := rand.New(rand.NewSource(42))
	var same, unlike int
	for range 400 {
		row := anyRow(r, rightEvents(), 7)
		rows := [][]api.Event{row, row[1:], anyRow(r, rightEvents(), 7)}
		for range 20 {
			rows = append(rows, shuffled(r, row, true), shuffled(r, row, false))
		}
		checkSame(t, row, rows)
		for _, b := range rows {
			if clock.Same(row, b) {
				same++
			} else {
				unlike++
			}
		}
	}
	if same < 1000 || unlike < 1000 {
		t.Errorf("%d are the same, %d are not: too few", same, unlike)
	}
}

// P4.2's second half, of rows too long for all swaps.
func TestSameTellsByPairs(t *testing.T) {
	r := rand.New(rand.NewSource(43))
	var same, unlike int
	for range 400 {
		row := anyRow(r, rightEvents(), 2+r.Intn(20))
		other := slices.Clone(row)
		for range 3 * len(row) {
			if i := 1 + r.Intn(len(row)-1); !event.Depends(other[i-1], other[i]) {
				other[i-1], other[i] = other[i], other[i-1]
			}
		}
		if !sameByPairs(row, other) || !clock.Same(row, other) {
			t.Fatalf("swapped, but not the same: %+v and %+v", row, other)
		}
		i, k := r.Intn(len(row)), r.Intn(len(row))
		other[i], other[k] = other[k], other[i]
		want := sameByPairs(row, other)
		if clock.Same(row, other) != want || clock.Same(other, row) != want {
			t.Fatalf("Same(%+v, %+v): not %v", row, other, want)
		}
		if want {
			same++
		} else {
			unlike++
		}
	}
	if same < 50 || unlike < 50 {
		t.Errorf("%d are the same, %d are not: too few", same, unlike)
	}
}
