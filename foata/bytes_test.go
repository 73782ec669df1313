package foata_test

import (
	"maps"
	"math/rand"
	"slices"
	"strings"
	"testing"

	"sinnet/api"
	"sinnet/event"
	"sinnet/foata"
)

// keysOf: the bytes of all rows of these events with at most so many of them, by the chapter's words.
func keysOf(of row, most int) map[string]levels {
	keys := map[string]levels{}
	for size := range most + 1 {
		for _, list := range rowsOf(of, size) {
			all := levelsOf(list)
			keys[bytesOf(all)] = all
		}
	}
	return keys
}

// checkBytes holds Read of any bytes against the Keys that there are.
func checkBytes(t *testing.T, s string, keys map[string]levels) bool {
	t.Helper()
	want, ok := keys[s]
	if !ok {
		checkForm(t, s)
		return false
	}
	if got, e := foata.Read(s); e != api.OK || !sameLevels(got, want) {
		t.Errorf("Read(%x): %+v %v, not %+v", s, got, e, want)
	}
	return true
}

// All bytes of a few letters, up to six of them: every Key so short is among them, and all that comes near to one.
func TestReadOfAllBytesOfAFewLetters(t *testing.T) {
	letters := "\x00\x01\x02\x03\x04\x05\x0c\x0d\xff"
	keys := keysOf(row{local(0), local(1), write(0, 0), write(1, 0)}, 3)
	maps.DeleteFunc(keys, func(s string, _ levels) bool { return len(s) > 6 })
	seen := 0
	words := []string{""}
	for range 7 {
		var longer []string
		for _, s := range words {
			if checkBytes(t, s, keys) {
				seen++
			}
			for i := range len(letters) {
				longer = append(longer, s+letters[i:i+1])
			}
		}
		words = longer
	}
	if seen != len(keys) {
		t.Errorf("%d of %d keys read", seen, len(keys))
	}
}

func TestReadOfThreeBytes(t *testing.T) {
	keys := keysOf(rightEvents(), 1)
	for n := range 1 << 16 {
		s := string([]byte{byte(n >> 8), byte(n)})
		checkForm(t, s)
		checkBytes(t, s+"\x00", keys)
	}
}

// Cut off anywhere, going on behind the last 0, or with one byte changed into any other.
func TestReadOfBytesThatAreNearlyKeys(t *testing.T) {
	for _, c := range examples() {
		for i := range len(c.key) {
			checkForm(t, c.key[:i])
		}
		for _, more := range []string{"\x00", "\x01", "\x01\x04\x00", "\xff", c.key} {
			checkForm(t, c.key+more)
		}
		for i := range len(c.key) {
			for b := range 256 {
				s := c.key[:i] + string([]byte{byte(b)}) + c.key[i+1:]
				checkAny(t, s)
			}
		}
	}
}

func TestReadOfBytesThatAreNoKey(t *testing.T) {
	for _, s := range []string{
		"", "\x01", "\x04", "\x01\x04", "\x02\x04\x05", "\x00\x00", "\x00\x01\x04\x00", // cut off, or more than there is
		"\x02\x05\x04\x00", "\x02\x04\x04\x00", "\x02\x0c\x0d\x00", "\x02\x08\x0d\x00", // two that depend, or stand the wrong way
		"\x01\x04\x01\x05\x00", "\x01\x0c\x02\x0d\x2e\x00", "\x01\x0c\x01\x2d\x01\x0e\x00", // one that would be of a level ahead
		"\x01\x00\x00", "\x01\x03\x00", "\x01\x88\x00", "\x02\x04\x19\x00", "\x02\xff\x04\x00", // none that may be
		"\x05\x04\x05\x06\x07\x08\x00", "\x02\x04\x00", "\x03\x04\x05\x00", "\xff\x04\x05\x00", // more than there are
		strings.Repeat("\x01\x04", 201) + "\x00", strings.Repeat("\x04\x04\x05\x06\x07", 51) + "\x00", // more than 200
		strings.Repeat("\x01\x04", 200), strings.Repeat("\x00", 300), strings.Repeat("\x01", 70000), strings.Repeat("\xff", 70000),
	} {
		checkForm(t, s)
	}
}

// variants: levels of some row, and ones near to them; none of these may be empty.
func variants(r *rand.Rand, all levels) []levels {
	at := r.Intn(len(all))
	copied := func() levels {
		to := slices.Clone(all)
		to[at] = slices.Clone(all[at])
		return to
	}
	empty := slices.Insert(slices.Clone(all), at, nil)
	twice := slices.Insert(slices.Clone(all), at, all[at])
	gone := slices.Delete(slices.Clone(all), at, at+1)
	turned := copied()
	slices.Reverse(turned[at])
	doubled := copied()
	doubled[at] = append(doubled[at], doubled[at][0])
	joined := slices.Delete(copied(), 0, 1)
	if len(joined) > 0 {
		joined[0] = slices.Concat(all[0], all[1])
	}
	cut := slices.Insert(copied(), at+1, all[at][:1])
	cut[at] = all[at][1:]
	changed := copied()
	changed[at][r.Intn(len(changed[at]))] = rightEvents()[r.Intn(56)]
	return []levels{all, empty, append(empty, nil), twice, gone, turned, doubled, joined, cut, changed}
}

// isOfSomeRow: are they the levels of the row that they come to, level by level?
func isOfSomeRow(all levels) bool {
	list := slices.Concat(all...)
	for _, e := range list {
		if !event.Right(e) {
			return false
		}
	}
	return len(list) <= 200 && sameLevels(levelsOf(list), all)
}

func TestPrintOfLevelsNearToSomeRows(t *testing.T) {
	r := rand.New(rand.NewSource(51))
	few := row{read(0, 0), write(0, 1), read(1, 0), write(1, 1), write(2, 0), local(2), lock(3, 1), local(3)}
	var some, none int
	for range 1000 {
		for _, all := range variants(r, levelsOf(anyRow(r, few, 1+r.Intn(9)))) {
			if isOfSomeRow(all) {
				some++
				if s := foata.Print(all); s != bytesOf(all) {
					t.Fatalf("Print(%+v): %x", all, s)
				}
				continue
			}
			none++
			checkNoPrint(t, all)
		}
	}
	if some < 1000 || none < 3000 {
		t.Errorf("%d of some row, %d of none: too few", some, none)
	}
}

// cuts: all ways to cut a row into levels, the empty ones too where there is one.
func cuts(list row) []levels {
	all := []levels{nil, {nil}}
	for i, e := range list {
		var longer []levels
		for _, part := range all {
			end := len(part) - 1
			if i > 0 || end == 0 {
				longer = append(longer, append(slices.Clone(part[:end]), append(slices.Clone(part[end]), e)))
			}
			longer = append(longer, append(slices.Clone(part), row{e}))
		}
		all = longer
	}
	return all
}

// All levels of up to four events: just those print that are some row's.
func TestPrintOfAllShortLevels(t *testing.T) {
	of := row{local(0), write(0, 0), read(1, 0), write(2, 0)}
	keys := keysOf(of, 4)
	seen := map[string]int{}
	for size := range 5 {
		for _, list := range rowsOf(of, size) {
			for _, all := range cuts(list) {
				s := foata.Print(all)
				if want, ok := keys[bytesOf(all)]; ok && sameLevels(all, want) {
					seen[bytesOf(all)]++
					if s != bytesOf(all) {
						t.Fatalf("Print(%+v): %x", all, s)
					}
				} else if s != "" {
					t.Fatalf("Print(%+v): %x", all, s)
				}
			}
		}
	}
	if len(seen) != len(keys) {
		t.Errorf("%d of %d keys seen", len(seen), len(keys))
	}
}

func TestPrintOfLevelsThatAreNoRows(t *testing.T) {
	for _, all := range []levels{
		{nil}, {{}}, {nil, nil}, // a level has an event
		{nil, {local(0)}}, {{local(0)}, {}}, {{local(0)}, nil, {local(0)}},
		{{local(1), local(0)}}, {{local(0), local(0)}}, {{read(2, 0), read(0, 0), read(1, 0)}}, // by rising threads
		{{write(0, 0), write(1, 0)}}, {{write(0, 0), read(1, 0)}}, {{lock(0, 0), unlock(1, 0)}}, // they depend on one another
		{{local(0)}, {local(1)}}, {{write(0, 0)}, {write(1, 1)}}, {{read(0, 0)}, {read(1, 0)}}, // it could be ahead
		{{write(0, 0)}, {write(1, 0), write(2, 1)}}, {{write(0, 0)}, {write(1, 0)}, {write(0, 0), write(2, 1)}},
		slices.Repeat(levels{{local(0)}}, 201), slices.Repeat(levels{{local(0), local(1)}}, 101), make(levels, 300),
	} {
		checkNoPrint(t, all)
	}
	right := levels{{write(0, 0), fails(2)}, {read(1, 0)}}
	for _, wrong := range wrongEvents() {
		checkNoPrint(t, levels{{wrong}})
		for at := range right {
			for place := range len(right[at]) + 1 {
				all := slices.Clone(right)
				all[at] = slices.Insert(slices.Clone(right[at]), place, wrong)
				checkNoPrint(t, all)
			}
			checkNoPrint(t, slices.Insert(slices.Clone(right), at, row{wrong}))
		}
		checkNoPrint(t, append(slices.Clone(right), row{wrong}))
	}
}

// checkAny: what holds of any bytes.
func checkAny(t *testing.T, s string) {
	t.Helper()
	all, e := foata.Read(s)
	if e != api.OK {
		checkForm(t, s)
	} else if list := slices.Concat(all...); len(list) > 200 || event.Print(list) == "" && len(list) > 0 || s != bytesOf(all) || !sameLevels(all, levelsOf(list)) {
		t.Errorf("Read(%x): %+v", s, all)
	} else if foata.Print(all) != s || foata.Key(list) != s {
		t.Errorf("Read(%x): %+v, which is another's", s, all)
	}
	// The same bytes, as a row of events.
	if list, e := event.Read(s); e == api.OK && len(list) <= 200 {
		checkRow(t, list)
	}
}

func FuzzRead(f *testing.F) {
	for _, c := range examples() {
		f.Add(c.key)
		f.Add(event.Print(c.list))
	}
	f.Fuzz(checkAny)
}
