package event_test

import (
	"math"
	"slices"
	"testing"

	"sinnet/api"
	"sinnet/event"
)

func ev(thread, kind, obj int) api.Event {
	return api.Event{Thread: thread, Kind: kind, Obj: obj}
}

func fails(thread int) api.Event {
	return api.Event{Thread: thread, Kind: api.ELocal, Fail: true}
}

// objects: how many things the events of a kind can be of; the chapter's section Words as a table.
func objects() map[int]int {
	return map[int]int{1: 1, 2: 4, 3: 4, 4: 2, 5: 2}
}

// rightEvents: all events that may be.
func rightEvents() []api.Event {
	var list []api.Event
	for thread := range 4 {
		list = append(list, fails(thread))
		for kind := 1; kind <= 5; kind++ {
			for obj := range objects()[kind] {
				list = append(list, ev(thread, kind, obj))
			}
		}
	}
	return list
}

// wrongEvents: each is one step beyond what may be, or far beyond it, or one whose byte, cut off, would be another event's.
func wrongEvents() []api.Event {
	list := []api.Event{
		{},
		ev(-1, api.ELocal, 0), ev(4, api.ELocal, 0), ev(256, api.ELocal, 0), ev(math.MinInt, api.ELocal, 0), ev(math.MaxInt, api.ELocal, 0),
		ev(-1, api.EWrite, 3), ev(4, api.EWrite, 3), ev(4, api.ELock, 1), ev(-1, api.EUnlock, 0),
		ev(0, 0, 0), ev(0, -1, 0), ev(0, 6, 0), ev(0, 7, 0), ev(3, 8, 0), ev(3, 65, 0), ev(0, math.MinInt, 0), ev(0, math.MaxInt, 0),
		ev(0, api.ELocal, 1), ev(0, api.ELocal, -1), ev(0, api.ELocal, 4), ev(0, api.ELocal, 8),
		ev(0, api.ERead, 4), ev(0, api.ERead, -1), ev(0, api.EWrite, 4), ev(0, api.EWrite, 8), ev(0, api.EWrite, math.MinInt),
		ev(0, api.ELock, 2), ev(0, api.ELock, 3), ev(0, api.ELock, -1), ev(0, api.EUnlock, 2), ev(0, api.EUnlock, 8),
		{Thread: 4, Kind: api.ELocal, Fail: true}, {Kind: api.ELocal, Obj: 1, Fail: true}, {Fail: true},
	}
	for kind := 2; kind <= 6; kind++ {
		list = append(list, api.Event{Thread: 1, Kind: kind, Fail: true})
	}
	return list
}

// odd: numbers at the edges of each field, and far beyond them.
func odd() []int {
	return []int{math.MinInt, -256, -1, 0, 1, 2, 3, 4, 5, 6, 7, 8, 32, 256, 257, math.MaxInt}
}

// oddEvents: events of all these numbers, most of which may not be.
func oddEvents() []api.Event {
	var list []api.Event
	for _, thread := range odd() {
		for _, kind := range odd() {
			for _, obj := range odd() {
				list = append(list, ev(thread, kind, obj), api.Event{Thread: thread, Kind: kind, Obj: obj, Fail: true})
			}
		}
	}
	return list
}

func TestRight(t *testing.T) {
	right := rightEvents()
	if len(right) != 56 {
		t.Fatalf("%d events", len(right))
	}
	for _, e := range right {
		if !event.Right(e) {
			t.Errorf("%+v: not Right", e)
		}
	}
	for _, e := range wrongEvents() {
		if event.Right(e) {
			t.Errorf("%+v: Right", e)
		}
	}
	for _, e := range oddEvents() {
		if got := event.Right(e); got != slices.Contains(right, e) {
			t.Errorf("%+v: %v", e, got)
		}
	}
}

func TestDependsByExamples(t *testing.T) {
	for _, c := range []struct {
		a, b api.Event
		want bool
	}{
		{ev(0, api.ERead, 0), ev(1, api.EWrite, 0), true},
		{ev(0, api.ERead, 0), ev(1, api.ERead, 0), false},
		{ev(0, api.EWrite, 3), ev(3, api.EWrite, 3), true},
		{ev(0, api.EWrite, 3), ev(3, api.EWrite, 2), false},
		{ev(2, api.ERead, 1), ev(3, api.EWrite, 2), false},
		{ev(0, api.ELock, 1), ev(1, api.ELock, 1), true},
		{ev(0, api.ELock, 1), ev(1, api.EUnlock, 1), true},
		{ev(0, api.EUnlock, 1), ev(1, api.EUnlock, 1), true},
		{ev(0, api.EUnlock, 0), ev(1, api.EUnlock, 1), false},
		{ev(0, api.ELock, 0), ev(1, api.EUnlock, 1), false},
		{ev(0, api.EWrite, 1), ev(1, api.ELock, 1), false}, // one number, but a variable and a mutex
		{ev(0, api.EUnlock, 0), ev(1, api.ERead, 0), false},
		{ev(0, api.ELocal, 0), ev(1, api.ELocal, 0), false},
		{ev(0, api.ELocal, 0), ev(1, api.EWrite, 0), false},
		{ev(0, api.ELocal, 0), ev(1, api.ELock, 0), false},
		{fails(0), fails(1), false},
		{fails(0), ev(1, api.EWrite, 0), false},
		{ev(2, api.ELocal, 0), ev(2, api.ELocal, 0), true},
		{fails(2), ev(2, api.ERead, 3), true},
		{ev(3, api.ERead, 0), ev(3, api.ERead, 1), true},
		{ev(3, api.EWrite, 0), ev(3, api.ELock, 1), true},
	} {
		if event.Depends(c.a, c.b) != c.want || event.Depends(c.b, c.a) != c.want {
			t.Errorf("%+v %+v: not %v", c.a, c.b, c.want)
		}
	}
}

// touching: pairs of kinds that depend on one another, if both are of one object.
func touching() map[[2]int]int {
	return map[[2]int]int{
		{2, 3}: 1, {3, 2}: 1, {3, 3}: 1,
		{4, 4}: 1, {4, 5}: 1, {5, 4}: 1, {5, 5}: 1,
	}
}

// checkDepends holds a pair of any events against the chapter's words.
func checkDepends(t *testing.T, a, b api.Event) {
	t.Helper()
	_, touch := touching()[[2]int{a.Kind, b.Kind}]
	want := a.Thread == b.Thread || touch && a.Obj == b.Obj
	if got := event.Depends(a, b); got != want {
		t.Errorf("Depends(%+v, %+v): %v", a, b, got)
	}
	if event.Depends(b, a) != event.Depends(a, b) {
		t.Errorf("Depends(%+v, %+v) is another one the other way", a, b)
	}
}

func TestDependsOfAllThatMayBe(t *testing.T) {
	for _, a := range rightEvents() {
		for _, b := range rightEvents() {
			checkDepends(t, a, b)
		}
	}
}

// Depends is of any events: those that may not be have threads, kinds and objects, too.
func TestDependsOfAnyEvents(t *testing.T) {
	odd := oddEvents()
	few := append(rightEvents(), wrongEvents()...)
	for _, a := range few {
		for _, b := range odd {
			checkDepends(t, a, b)
			checkDepends(t, b, a)
		}
	}
	for _, kind := range []int{0, 1, 2, 3, 4, 5, 6} {
		for _, other := range []int{0, 1, 2, 3, 4, 5, 6} {
			for _, obj := range []int{math.MinInt, -1, 2, 4, 99, math.MaxInt} {
				checkDepends(t, ev(-5, kind, obj), ev(77, other, obj))
				checkDepends(t, ev(77, kind, obj), ev(77, other, obj+1))
			}
		}
	}
}

func TestThreads(t *testing.T) {
	for _, c := range []struct {
		list []api.Event
		want []int
	}{
		{nil, nil},
		{[]api.Event{}, nil},
		{[]api.Event{ev(3, api.ELocal, 0)}, []int{3}},
		{[]api.Event{ev(2, api.EWrite, 1), ev(0, api.ERead, 1), fails(2), ev(2, api.EWrite, 1), ev(1, api.ELock, 0)}, []int{2, 0, 2, 2, 1}},
		{[]api.Event{{}, {}, ev(-7, 0, 9), ev(4, 99, -1), ev(math.MaxInt, 1, 0), ev(1, 1, 0)}, []int{0, 0, -7, 4, math.MaxInt, 1}},
	} {
		if got := event.Threads(c.list); !slices.Equal(got, c.want) {
			t.Errorf("Threads(%+v): %v, not %v", c.list, got, c.want)
		}
	}
	long := slices.Repeat(rightEvents(), 1000)
	got := event.Threads(long)
	if len(got) != len(long) {
		t.Fatalf("%d threads of %d events", len(got), len(long))
	}
	for i, e := range long {
		if got[i] != e.Thread {
			t.Fatalf("place %d: %d, not %d", i, got[i], e.Thread)
		}
	}
}

// Rule 5: what is handed in stays, its spare room too, and no answer is its memory.
func TestWhatIsHandedInStays(t *testing.T) {
	for _, tail := range []api.Event{ev(1, api.ELock, 1), ev(9, 9, 9)} {
		whole := append(rightEvents(), tail, tail)
		want := slices.Clone(whole)
		list := whole[: len(whole)-2 : len(whole)]
		event.Print(list)
		event.Print(whole)
		threads := event.Threads(list)
		_ = append(threads, 5, 5)
		again := event.Threads(list)
		for i := range threads {
			threads[i] = 99
		}
		if !slices.Equal(whole, want) {
			t.Errorf("changed: %+v", whole)
		}
		if slices.Contains(again, 99) {
			t.Error("two answers share memory")
		}
	}
}
