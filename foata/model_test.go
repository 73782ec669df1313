package foata_test

import (
	"math/rand"
	"slices"
	"testing"

	"sinnet/api"
	"sinnet/clock"
	"sinnet/event"
	"sinnet/foata"
)

func ev(thread, kind, obj int) api.Event { return api.Event{Thread: thread, Kind: kind, Obj: obj} }
func local(thread int) api.Event         { return ev(thread, api.ELocal, 0) }
func fails(thread int) api.Event         { return api.Event{Thread: thread, Kind: api.ELocal, Fail: true} }
func read(thread, x int) api.Event       { return ev(thread, api.ERead, x) }
func write(thread, x int) api.Event      { return ev(thread, api.EWrite, x) }
func lock(thread, m int) api.Event       { return ev(thread, api.ELock, m) }
func unlock(thread, m int) api.Event     { return ev(thread, api.EUnlock, m) }

// row and levels: short words for what the tables are full of.
type row = []api.Event
type levels = [][]api.Event

// ofThread: the events of a thread that may be.
func ofThread(thread int) row {
	list := row{local(thread), fails(thread)}
	for x := range api.MaxVars {
		list = append(list, read(thread, x), write(thread, x))
	}
	for m := range api.MaxMutexes {
		list = append(list, lock(thread, m), unlock(thread, m))
	}
	return list
}

// rightEvents: all events that may be.
func rightEvents() row {
	return slices.Concat(ofThread(0), ofThread(1), ofThread(2), ofThread(3))
}

// wrongEvents: some that may not be, each for one reason.
func wrongEvents() row {
	return row{
		{}, local(-1), local(4), ev(0, 6, 0), ev(0, -1, 0), ev(0, api.ELocal, 1), read(1, 4), write(1, -1),
		lock(2, 2), unlock(3, 3), {Thread: 1, Kind: api.EWrite, Fail: true}, {Kind: api.ELock, Fail: true},
	}
}

// anyRow: a drawn row of events of those given.
func anyRow(r *rand.Rand, of row, size int) row {
	list := make(row, size)
	for i := range list {
		list[i] = of[r.Intn(len(of))]
	}
	return list
}

// rowsOf: all rows of these events, of this size.
func rowsOf(of row, size int) []row {
	rows := []row{nil}
	for range size {
		var longer []row
		for _, list := range rows {
			for _, e := range of {
				longer = append(longer, append(slices.Clone(list), e))
			}
		}
		rows = longer
	}
	return rows
}

// levelsOf: the chapter's words, event by event; of a row that may be.
func levelsOf(list row) levels {
	level := make([]int, len(list))
	var all levels
	for k, e := range list {
		for i := range k {
			if event.Depends(list[i], e) {
				level[k] = max(level[k], level[i]+1)
			}
		}
		for len(all) <= level[k] {
			all = append(all, nil)
		}
		all[level[k]] = append(all[level[k]], e)
	}
	for _, events := range all {
		slices.SortFunc(events, func(a, b api.Event) int { return a.Thread - b.Thread })
	}
	return all
}

// bytesOf: the chapter's words.
func bytesOf(all levels) string {
	s := ""
	for _, events := range all {
		s += string([]byte{byte(len(events))}) + event.Print(events)
	}
	return s + "\x00"
}

func sameLevels(a, b levels) bool { return slices.EqualFunc(a, b, slices.Equal) }

// checkRow holds all calls of a row that may be against the chapter's words.
func checkRow(t *testing.T, list row) {
	t.Helper()
	want := levelsOf(list)
	key := bytesOf(want)
	got := foata.Levels(list)
	if !sameLevels(got, want) {
		t.Fatalf("Levels(%+v): %+v, not %+v", list, got, want)
	}
	if s := foata.Key(list); s != key {
		t.Fatalf("Key(%+v): %x, not %x", list, s, key)
	}
	if s := foata.Print(got); s != key {
		t.Fatalf("Print(%+v): %x, not %x", got, s, key)
	}
	if back, e := foata.Read(key); e != api.OK || !sameLevels(back, want) {
		t.Fatalf("Read(%x): %+v %v, not %+v", key, back, e, want)
	}
	one := foata.Row(got)
	if !slices.Equal(one, slices.Concat(want...)) {
		t.Fatalf("Row(%+v): %+v", got, one)
	}
	if !clock.Same(one, list) || foata.Key(one) != key {
		t.Fatalf("%+v is not the same as %+v", one, list)
	}
}

// checkNone: a row that has no levels.
func checkNone(t *testing.T, list row) {
	t.Helper()
	if got := foata.Levels(list); len(got) != 0 {
		t.Errorf("Levels of a row of %d that has none: %+v", len(list), got)
	}
	if s := foata.Key(list); s != "" {
		t.Errorf("Key of a row of %d that has none: %x", len(list), s)
	}
}

// checkForm: bytes that are no row's Key.
func checkForm(t *testing.T, s string) {
	t.Helper()
	if got, e := foata.Read(s); e != api.ErrForm || len(got) != 0 {
		t.Errorf("Read(%x): %+v %v", s, got, e)
	}
}

// checkNoPrint: levels that are no row's.
func checkNoPrint(t *testing.T, all levels) {
	t.Helper()
	if s := foata.Print(all); s != "" {
		t.Errorf("Print(%+v): %x", all, s)
	}
}
