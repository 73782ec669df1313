package foata_test

import (
	"math/rand"
	"slices"
	"testing"

	"sinnet/api"
	"sinnet/clock"
	"sinnet/event"
	"sinnet/foata"
)

// checkForms holds two rows' Keys against whether they are the same.
func checkForms(t *testing.T, a, b row) bool {
	t.Helper()
	same := clock.Same(a, b)
	if (foata.Key(a) == foata.Key(b)) != same {
		t.Fatalf("%+v and %+v: Keys %x and %x, but Same: %v", a, b, foata.Key(a), foata.Key(b), same)
	}
	return same
}

// P5.2 of all short rows of a few events: each with each.
func TestOneFormOfShortRows(t *testing.T) {
	for _, of := range []row{
		{write(0, 0), read(1, 0), read(2, 0), local(3)},
		{read(0, 0), write(1, 0), write(1, 1), read(2, 1)},
		{lock(0, 0), unlock(0, 0), lock(1, 0), fails(1)},
		{write(0, 1), lock(0, 1), write(2, 1), unlock(3, 1)},
	} {
		rows := slices.Concat(rowsOf(of, 0), rowsOf(of, 1), rowsOf(of, 2), rowsOf(of, 3), rowsOf(of, 4))
		for _, a := range rows {
			checkRow(t, a)
			for _, b := range rows {
				checkForms(t, a, b)
			}
		}
	}
}

// swap swaps drawn neighbours that don't depend on one another, often.
func swap(r *rand.Rand, list row) row {
	other := slices.Clone(list)
	for range 3 * len(list) {
		if i := 1 + r.Intn(len(list)-1); !event.Depends(other[i-1], other[i]) {
			other[i-1], other[i] = other[i], other[i-1]
		}
	}
	return other
}

// Longer rows: those that swaps of neighbours come to have one Key; ones in any order just if they are the same.
func TestOneFormOfDrawnRows(t *testing.T) {
	r := rand.New(rand.NewSource(52))
	var same, unlike int
	for range 1500 {
		list := anyRow(r, rightEvents(), 2+r.Intn(20))
		other := swap(r, list)
		if foata.Key(other) != foata.Key(list) || !sameLevels(foata.Levels(other), foata.Levels(list)) {
			t.Fatalf("swapped, but not of one form: %+v and %+v", list, other)
		}
		i, k := r.Intn(len(list)), r.Intn(len(list))
		other[i], other[k] = other[k], other[i]
		if checkForms(t, list, other) {
			same++
		} else {
			unlike++
		}
		other[i] = rightEvents()[r.Intn(56)]
		checkForms(t, list, other)
		checkForms(t, list, other[:len(other)-1])
	}
	if same < 100 || unlike < 100 {
		t.Errorf("%d are the same, %d are not: too few", same, unlike)
	}
}

// The longest rows: one form, too, and the last event counts.
func TestOneFormOfLongRows(t *testing.T) {
	r := rand.New(rand.NewSource(53))
	for range 20 {
		list := anyRow(r, rightEvents(), 200)
		other := swap(r, list)
		if !checkForms(t, list, other) {
			t.Fatal("swapped, but not the same")
		}
		for _, e := range rightEvents() {
			other[199] = e
			checkForms(t, list, other)
		}
	}
}

// What an event is, who did it, and whether it failed: all of it counts.
func TestUnlikeRowsHaveUnlikeKeys(t *testing.T) {
	keys := map[string]api.Event{"\x00": {}}
	for _, e := range rightEvents() {
		s := foata.Key(row{e})
		if other, ok := keys[s]; ok {
			t.Errorf("%+v and %+v: one Key", e, other)
		}
		keys[s] = e
	}
}
