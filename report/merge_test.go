package report_test

import (
	"math/rand"
	"slices"
	"strings"
	"testing"
	"unsafe"

	"sinnet/api"
	"sinnet/report"
)

// list: a short word for what the tables are full of.
func list(keys ...string) []string { return keys }

// P15.1: worked out by hand.
func TestMergeByExamples(t *testing.T) {
	a, b, c, d := "\x00", "\x01\x04\x00", "\x01\x04\x01\x04\x00", "\x01\x05\x00"
	for _, x := range []struct {
		name  string
		lists [][]string
		want  []string
	}{
		{"no list", nil, nil},
		{"no list, empty", [][]string{}, nil},
		{"nil", [][]string{nil}, nil},
		{"empty", [][]string{{}}, nil},
		{"nil and empty ones", [][]string{nil, {}, nil, {}}, nil},
		{"one key", [][]string{{a}}, list(a)},
		{"one key, nil around", [][]string{nil, {b}, {}}, list(b)},
		{"rising", [][]string{{a, b, c, d}}, list(a, b, c, d)},
		{"falling", [][]string{{d, c, b, a}}, list(a, b, c, d)},
		{"in any order", [][]string{{c, a, d, b}}, list(a, b, c, d)},
		{"twice in one list", [][]string{{a, a, b, b}}, list(a, b)},
		{"twice, apart", [][]string{{b, a, d, b, a, d, d}}, list(a, b, d)},
		{"the same one alone", [][]string{{c, c, c, c, c}}, list(c)},
		{"in several lists", [][]string{{a, b}, {b, c}, {a, c}}, list(a, b, c)},
		{"the same list", [][]string{{a, d}, {a, d}, {a, d}}, list(a, d)},
		{"one each", [][]string{{d}, {b}, {c}, {a}}, list(a, b, c, d)},
		{"between", [][]string{{a, c}, nil, {b, d}}, list(a, b, c, d)},
		{"the first one lasts", [][]string{{d, c}, {}, {b}, {a, a}}, list(a, b, c, d)},
		{"no Keys", [][]string{{"b", "", "ab"}, {"a", "abc", ""}}, list("", "a", "ab", "abc", "b")},
		{"bytes without a sign", [][]string{{"\xff", "\x80", "\x7f"}, {"\x00", "", "\xff\x00"}}, list("", "\x00", "\x7f", "\x80", "\xff", "\xff\x00")},
		{"bytes that are no rune", [][]string{{"\xef\xbf\xbd", "\xf0", "\xc3\xa9"}, {"\xc3", "\xef", "\xc3\xa9"}}, list("\xc3", "\xc3\xa9", "\xef", "\xef\xbf\xbd", "\xf0")},
		{"unlike, but for their cases", [][]string{{"a", "A"}, {"B", "b"}}, list("A", "B", "a", "b")},
	} {
		for _, complete := range []bool{false, true} {
			got := report.Merge(complete, x.lists...)
			if !same(got, report.Report{Keys: x.want, Complete: complete}) {
				t.Errorf("%s: %+v, not %x", x.name, got, x.want)
			}
			checkMerge(t, complete, x.lists...)
		}
	}
}

// Texts that begin with one another are each one of its own; the shorter one comes first.
func TestMergeOfBeginnings(t *testing.T) {
	for _, whole := range []string{strings.Repeat("\x01\x04", 30) + "\x00", strings.Repeat("\x00", 40), strings.Repeat("\xff", 40)} {
		var odd, even, want []string
		for size := range len(whole) + 1 {
			want = append(want, whole[:size])
			if size%2 == 0 {
				even = append(even, whole[:size])
			} else {
				odd = slices.Insert(odd, 0, whole[:size])
			}
		}
		if got := report.Merge(true, odd, even, odd); !slices.Equal(got.Keys, want) {
			t.Errorf("%x", got.Keys)
		}
		checkMerge(t, true, even, odd)
	}
}

// orders: a list in each of its orders.
func orders(all []string) [][]string {
	if len(all) == 0 {
		return [][]string{nil}
	}
	var rows [][]string
	for i, first := range all {
		rest := slices.Delete(slices.Clone(all), i, i+1)
		for _, order := range orders(rest) {
			rows = append(rows, append([]string{first}, order...))
		}
	}
	return rows
}

// P15.2: five keys in each order, cut into lists in each way: the same bytes.
func TestSameKeysSameBytes(t *testing.T) {
	const want = "\x01\x00\x05\x00\x01\x00\x00\x03\x01\x04\x00\x00\x05\x01\x04\x01\x04\x00\x00\x03\x01\x05\x00\x00\x04\x02\x04\x05\x00"
	for _, order := range orders(list("\x00", "\x01\x04\x00", "\x01\x04\x01\x04\x00", "\x01\x05\x00", "\x02\x04\x05\x00")) {
		for cuts := range 1 << 4 {
			lists := [][]string{nil}
			for i, key := range order {
				last := len(lists) - 1
				lists[last] = append(lists[last], key)
				if cuts>>i&1 == 1 {
					lists = append(lists, nil)
				}
			}
			if s := report.Print(report.Merge(true, lists...)); s != want {
				t.Fatalf("%x: %x", lists, s)
			}
			// Once more, some of them twice.
			lists = append(lists, order[:cuts%6], nil, order[cuts%5:])
			if s := report.Print(report.Merge(true, lists...)); s != want {
				t.Fatalf("%x: %x", lists, s)
			}
		}
	}
}

// P15.2: all sets of ten keys, Complete and not: unlike bytes, each of which is read back.
func TestUnlikeSetsUnlikeBytes(t *testing.T) {
	keys := list("\x02\x04\x05\x00", "\x00", "\x01\x04\x01\x04\x00", "\x01\x05\x00", "\x01\x0d\x01\x0c\x00", "\x01\x0c\x01\x0d\x00", "\x01\x04\x00", "\x03\x04\x05\x06\x00", "\x01\x84\x00", strings.Repeat("\x01\x04", 130)+"\x00")
	seen := map[string]int{}
	for set := range 1 << len(keys) {
		var some []string
		for i, key := range keys {
			if set>>i&1 == 1 {
				some = append(some, key)
			}
		}
		for i, complete := range []bool{false, true} {
			r := checkMerge(t, complete, some)
			s := report.Print(r)
			if other, ok := seen[s]; ok || s == "" {
				t.Fatalf("the sets %d and %d: %x", other, set, s)
			}
			seen[s] = 2*set + i
			if back, e := report.Read(s); e != api.OK || !same(back, r) {
				t.Fatalf("Read(%x): %+v %v", s, back, e)
			}
		}
	}
	if len(seen) != 2<<len(keys) {
		t.Errorf("%d texts", len(seen))
	}
}

// P15.2: drawn keys, dealt to lists in drawn ways.
func TestDrawnLists(t *testing.T) {
	r := rand.New(rand.NewSource(15))
	twice := 0
	for range 2000 {
		keys := make([]string, r.Intn(30))
		for i := range keys {
			keys[i] = anyKey(r, 1+r.Intn(8))
		}
		complete := r.Intn(2) == 0
		first := checkMerge(t, complete, keys)
		if len(first.Keys) < len(keys) {
			twice++
		}
		for range 5 {
			r.Shuffle(len(keys), func(i, k int) { keys[i], keys[k] = keys[k], keys[i] })
			lists := make([][]string, 1+r.Intn(8))
			for _, key := range keys {
				for range 1 + r.Intn(2) {
					at := r.Intn(len(lists))
					lists[at] = append(lists[at], key)
				}
			}
			if got := checkMerge(t, complete, lists...); report.Print(got) != report.Print(first) || report.Print(got) == "" {
				t.Fatalf("%x: %x, not %x", lists, got.Keys, first.Keys)
			}
		}
	}
	if twice < 300 {
		t.Errorf("%d with keys that stand twice: too few", twice)
	}
}

// Merging a report's keys once more, alone and with another one's.
func TestMergeAgain(t *testing.T) {
	r := rand.New(rand.NewSource(16))
	for range 500 {
		var a, b []string
		for range r.Intn(12) {
			a = append(a, anyKey(r, 4))
			b = append(b, anyKey(r, 4))
		}
		one, two := checkMerge(t, true, a), checkMerge(t, false, b)
		if again := report.Merge(true, one.Keys); !same(again, one) {
			t.Fatalf("%+v, not %+v", again, one)
		}
		if again := report.Merge(false, one.Keys); !same(again, report.Report{Keys: one.Keys}) {
			t.Fatalf("%+v", again)
		}
		both := checkMerge(t, true, a, b)
		for _, again := range []report.Report{report.Merge(true, one.Keys, two.Keys), report.Merge(true, two.Keys, one.Keys), report.Merge(true, two.Keys, a), report.Merge(true, both.Keys, b, one.Keys)} {
			if !same(again, both) {
				t.Fatalf("%+v, not %+v", again, both)
			}
		}
	}
}

// As many keys as may be, in 64 lists that share many of them.
func TestMergeOfManyLists(t *testing.T) {
	keys := many(0, 65535)
	lists := make([][]string, 64)
	for i, key := range keys {
		for _, worker := range []int{i % 64, i / 3 % 64, 63 - i%7} {
			lists[worker] = append(lists[worker], key)
		}
	}
	for _, falls := range lists {
		slices.Reverse(falls)
	}
	got := report.Merge(true, lists...)
	if !same(got, report.Report{Keys: keys, Complete: true}) || !report.Right(got) {
		t.Errorf("%d keys, %v", len(got.Keys), report.Right(got))
	}
	slices.Reverse(lists)
	if again := report.Merge(true, lists...); report.Print(again) != report.Print(got) || report.Print(got) == "" {
		t.Error("other bytes")
	}
}

// room: that list, with spare room behind it, that is filled.
func room(keys []string) []string {
	return append(slices.Clone(keys), "spare", "room")[:len(keys)]
}

// Rule 5: what is handed in stays as it is, its spare room too.
func TestWhatIsHandedInStays(t *testing.T) {
	for _, c := range [][][]string{
		{{"b", "a", "b"}}, {{"\x00"}}, {{}}, {nil, {"c"}, {"a", "c"}}, {{"\x01\x05\x00", "\x01\x04\x00"}, {"\x00", "\x00"}},
	} {
		var lists, was [][]string
		for _, keys := range c {
			lists = append(lists, room(keys))
			was = append(was, append(slices.Clone(keys), "spare", "room"))
		}
		spare := list("behind")
		all := append(slices.Clone(lists), spare, spare)
		report.Merge(true, all[:len(lists)]...)
		for i, keys := range all[:len(lists)] {
			if !slices.Equal(keys[:len(was[i])], was[i]) || len(keys) != len(c[i]) {
				t.Errorf("Merge(%x): the list %d is %x", c, i, keys[:len(was[i])])
			}
		}
		if len(all) != len(lists)+2 || !slices.Equal(all[len(lists)], list("behind")) || !slices.Equal(all[len(lists)+1], list("behind")) {
			t.Errorf("Merge(%x): changed", c)
		}
	}
	for _, c := range examples() {
		for _, keys := range [][]string{c.r.Keys, append(slices.Clone(c.r.Keys), "", "wrong")} {
			r := report.Report{Keys: room(keys), Complete: c.r.Complete}
			report.Right(r)
			report.Print(r)
			if !slices.Equal(r.Keys[:len(keys)+2], append(slices.Clone(keys), "spare", "room")) {
				t.Errorf("%s: changed", c.name)
			}
		}
	}
}

// Rule 5: what was answered is the caller's: writing to it, or to what was handed in, changes nothing else.
func TestAnswersAreNewMemory(t *testing.T) {
	for _, c := range examples() {
		handed := slices.Clone(c.r.Keys)
		one := report.Merge(c.r.Complete, handed)
		two := report.Merge(c.r.Complete, nil, handed)
		three, _ := report.Read(c.s)
		four, _ := report.Read(c.s)
		again := report.Merge(c.r.Complete, one.Keys)
		clear(handed)
		clear(one.Keys[:cap(one.Keys)])
		clear(three.Keys[:cap(three.Keys)])
		for i, r := range []report.Report{two, four, again} {
			if !same(r, c.r) {
				t.Errorf("%s: the answer %d is %x", c.name, i, r.Keys)
			}
		}
		handed = slices.Clone(c.r.Keys)
		one = report.Merge(c.r.Complete, handed)
		clear(one.Keys[:cap(one.Keys)])
		if !slices.Equal(handed, c.r.Keys) {
			t.Errorf("%s: what was handed in is %x", c.name, handed)
		}
	}
}

// Rule 5: what is answered keeps no piece of a text that was handed in.
func TestTextsAreNotKept(t *testing.T) {
	for _, c := range examples() {
		whole := []byte(c.s)
		r, e := report.Read(unsafe.String(&whole[0], len(whole)))
		s := report.Print(r)
		clear(whole)
		if e != api.OK || !same(r, c.r) || s != c.s {
			t.Errorf("%s: Read keeps its text: %x", c.name, r.Keys)
		}
		var handed []string
		var texts [][]byte
		for _, key := range c.r.Keys {
			text := []byte(key)
			texts = append(texts, text)
			handed = append(handed, unsafe.String(&text[0], len(text)))
		}
		merged := report.Merge(c.r.Complete, handed, handed)
		s = report.Print(report.Report{Keys: handed, Complete: c.r.Complete})
		for _, text := range texts {
			clear(text)
		}
		if !same(merged, c.r) || s != c.s {
			t.Errorf("%s: Merge or Print keeps a text: %x", c.name, merged.Keys)
		}
	}
}
