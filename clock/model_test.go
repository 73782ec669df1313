package clock_test

import (
	"math/rand"
	"slices"
	"testing"

	"sinnet/api"
	"sinnet/clock"
	"sinnet/event"
)

type stamp = [api.MaxThreads]int

func ev(thread, kind, obj int) api.Event { return api.Event{Thread: thread, Kind: kind, Obj: obj} }
func local(thread int) api.Event         { return ev(thread, api.ELocal, 0) }
func fails(thread int) api.Event         { return api.Event{Thread: thread, Kind: api.ELocal, Fail: true} }
func read(thread, x int) api.Event       { return ev(thread, api.ERead, x) }
func write(thread, x int) api.Event      { return ev(thread, api.EWrite, x) }
func lock(thread, m int) api.Event       { return ev(thread, api.ELock, m) }
func unlock(thread, m int) api.Event     { return ev(thread, api.EUnlock, m) }

// ofThread: the events of a thread that may be.
func ofThread(thread int) []api.Event {
	list := []api.Event{local(thread), fails(thread)}
	for x := range api.MaxVars {
		list = append(list, read(thread, x), write(thread, x))
	}
	for m := range api.MaxMutexes {
		list = append(list, lock(thread, m), unlock(thread, m))
	}
	return list
}

// rightEvents: all events that may be.
func rightEvents() []api.Event {
	return slices.Concat(ofThread(0), ofThread(1), ofThread(2), ofThread(3))
}

// wrongEvents: some that may not be, each for one reason.
func wrongEvents() []api.Event {
	return []api.Event{
		{}, local(-1), local(4), ev(0, 6, 0), ev(0, -1, 0), ev(0, api.ELocal, 1), read(1, 4), write(1, -1),
		lock(2, 2), unlock(3, 3), {Thread: 1, Kind: api.EWrite, Fail: true}, {Kind: api.ELock, Fail: true},
	}
}

// anyRow: a drawn row of events of those given.
func anyRow(r *rand.Rand, of []api.Event, size int) []api.Event {
	row := make([]api.Event, size)
	for i := range row {
		row[i] = of[r.Intn(len(of))]
	}
	return row
}

// relation is the chapter's first sentence, worked out pair by pair: does the event i happen before the event k?
func relation(list []api.Event) [][]bool {
	before := make([][]bool, len(list))
	for i := range list {
		before[i] = make([]bool, len(list))
		before[i][i] = true
	}
	for k := range list {
		// From the back, for what is between has to be known ahead of what is in front of it.
		for i := k - 1; i >= 0; i-- {
			before[i][k] = event.Depends(list[i], list[k])
			for between := i + 1; between < k; between++ {
				before[i][k] = before[i][k] || before[i][between] && before[between][k]
			}
		}
	}
	return before
}

// clocksOf: the chapter's second sentence, counted.
func clocksOf(list []api.Event) []stamp {
	clocks := make([]stamp, len(list))
	before := relation(list)
	for k := range list {
		for i := range list {
			if before[i][k] {
				clocks[k][list[i].Thread]++
			}
		}
	}
	return clocks
}

func numberOf(list []api.Event, i int) int {
	count := 0
	for _, e := range list[:i+1] {
		if e.Thread == list[i].Thread {
			count++
		}
	}
	return count
}

// name is a row's event by its thread and its number; in another row of the same events it is elsewhere.
type name [2]int

func names(list []api.Event) map[name]int {
	places := map[name]int{}
	for i, e := range list {
		places[name{e.Thread, numberOf(list, i)}] = i
	}
	return places
}

// sameByPairs is P4.2's second half: each thread's events, and all pairs of them.
func sameByPairs(a, b []api.Event) bool {
	here, there := names(a), names(b)
	if len(a) != len(b) {
		return false
	}
	for n, i := range here {
		k, ok := there[n]
		if !ok || a[i] != b[k] {
			return false
		}
	}
	first, second := relation(a), relation(b)
	for m, i := range here {
		for n, k := range here {
			if first[i][k] != second[there[m]][there[n]] {
				return false
			}
		}
	}
	return true
}

// checkRow holds what is told of one row that may be against the chapter's words.
func checkRow(t *testing.T, list []api.Event) {
	t.Helper()
	want, before := clocksOf(list), relation(list)
	got := clock.Clocks(list)
	if !slices.Equal(got, want) {
		t.Fatalf("Clocks(%+v): %v, not %v", list, got, want)
	}
	var lasts [api.MaxThreads]stamp
	for k, e := range list {
		lasts[e.Thread] = want[k]
		if n := clock.Number(list, k); n != numberOf(list, k) {
			t.Fatalf("Number(%+v, %d): %d", list, k, n)
		}
		for i, d := range list {
			if got := clock.Before(list, i, k); got != before[i][k] {
				t.Fatalf("Before(%+v, %d, %d): %v", list, i, k, got)
			}
			// P4.3, by what the package itself tells.
			if before[i][k] != (clock.Number(list, i) <= got[k][d.Thread]) {
				t.Fatalf("%+v: the number of %d and the clock of %d don't tell whether it happens before", list, i, k)
			}
		}
	}
	for thread := range api.MaxThreads {
		if got := clock.Last(list, thread); got != lasts[thread] {
			t.Fatalf("Last(%+v, %d): %v, not %v", list, thread, got, lasts[thread])
		}
	}
	if !clock.Same(list, list) {
		t.Fatalf("%+v is not the same as itself", list)
	}
}

// checkNothing: what is told of a row that may not be, or that is empty, at a place and of a thread.
func checkNothing(t *testing.T, list []api.Event, i, k, thread int) {
	t.Helper()
	if got := clock.Clocks(list); len(got) != 0 {
		t.Errorf("Clocks(%+v): %v", list, got)
	}
	if n := clock.Number(list, i); n != 0 {
		t.Errorf("Number(%+v, %d): %d", list, i, n)
	}
	if clock.Before(list, i, k) {
		t.Errorf("Before(%+v, %d, %d)", list, i, k)
	}
	if got := clock.Last(list, thread); got != (stamp{}) {
		t.Errorf("Last(%+v, %d): %v", list, thread, got)
	}
}
