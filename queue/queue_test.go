package queue_test

import (
	"math/rand"
	"slices"
	"strings"
	"testing"
	"unsafe"

	"sinnet/queue"
)

// falling is prefixes of which each one comes ahead of all that follow it, worked out by hand.
func falling() []string {
	return []string{
		strings.Repeat("\x00", 300),
		strings.Repeat("\xff", 33),
		strings.Repeat("\x01", 31) + "\x00",
		strings.Repeat("\x01", 31) + "\xff",
		strings.Repeat("\x03", 31),
		"\x00\x00\x00",
		"\x00\x00\x01",
		"\x00\x00\x7f",
		"\x00\x00\x80",
		"\x00\x00\xff",
		"\x00\x01\x00",
		"\x00\xff\x00",
		"\x01\x00\x00",
		"\x7f\xff\xff",
		"\x80\x00\x00",
		"\xc3\xa9\x00", // a letter of two bytes, and a byte: what they are as runes doesn't matter
		"\xef\xbf\xbd", // what bytes that are no rune are read as
		"\xfe\xff\xff",
		"\xff\x00\x00",
		"\xff\xff\xff",
		"ab",
		"ba",
		"\xff\x00",
		"\x00",
		"\x01",
		"A",
		"a",
		"b",
		"\x7f",
		"\x80",
		"\xff",
		"",
	}
}

// mixed: a list in a drawn order.
func mixed(r *rand.Rand, list []string) []string {
	list = slices.Clone(list)
	r.Shuffle(len(list), func(i, k int) { list[i], list[k] = list[k], list[i] })
	return list
}

// filled: a queue of those prefixes.
func filled(prefixes ...string) *queue.Queue {
	q := queue.New()
	for _, prefix := range prefixes {
		q.Push(prefix)
	}
	return q
}

// all: what a call takes, till it tells that there is none.
func all(take func() (string, bool)) []string {
	var list []string
	for {
		one, ok := take()
		if !ok {
			return list
		}
		list = append(list, one)
	}
}

// check: those prefixes, in that order.
func check(t *testing.T, what string, got, want []string) {
	t.Helper()
	if !slices.Equal(got, want) {
		t.Fatalf("%s: %q, not %q", what, got, want)
	}
}

func TestChapterExample(t *testing.T) {
	q := filled("", "a", "ab")
	checkTaken(t, "Pop", q.Pop, "ab", true)
	checkTaken(t, "Steal", q.Steal, "", true)
	checkTaken(t, "Pop", q.Pop, "a", true)
	checkEmpty(t, q)
}

// What comes ahead of what, each two of them pushed in both orders.
func TestEachTwoPrefixes(t *testing.T) {
	list := falling()
	for i, ahead := range list {
		for _, behind := range list[i+1:] {
			for _, two := range [][]string{{ahead, behind}, {behind, ahead}} {
				check(t, "Pop", all(filled(two...).Pop), []string{ahead, behind})
				check(t, "Steal", all(filled(two...).Steal), []string{behind, ahead})
				q := filled(two...)
				checkTaken(t, "Pop", q.Pop, ahead, true)
				checkTaken(t, "Steal", q.Steal, behind, true)
				checkEmpty(t, q)
				q = filled(two...)
				checkTaken(t, "Steal", q.Steal, behind, true)
				checkTaken(t, "Pop", q.Pop, ahead, true)
				checkEmpty(t, q)
			}
		}
	}
}

// Pops alone fall, steals alone rise, in whatever order they were pushed.
func TestPopsFallAndStealsRise(t *testing.T) {
	r := rand.New(rand.NewSource(1))
	list := falling()
	back := slices.Clone(list)
	slices.Reverse(back)
	for range 200 {
		in := mixed(r, list)
		check(t, "Pop", all(filled(in...).Pop), list)
		check(t, "Steal", all(filled(in...).Steal), back)
	}
	for _, in := range [][]string{list, back} {
		check(t, "Pop", all(filled(in...).Pop), list)
		check(t, "Steal", all(filled(in...).Steal), back)
	}
}

// Prefixes that begin with one another: the longest one is popped, the shortest one stolen.
func TestBeginningsOfOneAnother(t *testing.T) {
	r := rand.New(rand.NewSource(2))
	for _, whole := range []string{strings.Repeat("\x00", 40), strings.Repeat("\x03\x02\x01\x00", 8), strings.Repeat("\xff", 32)} {
		var begins []string
		for n := range len(whole) + 1 {
			begins = append(begins, whole[:n])
		}
		q := filled(mixed(r, begins)...)
		for len(begins) > 1 {
			checkTaken(t, "Pop", q.Pop, begins[len(begins)-1], true)
			checkTaken(t, "Steal", q.Steal, begins[0], true)
			begins = begins[1 : len(begins)-1]
		}
		check(t, "Pop", all(q.Pop), begins)
		checkEmpty(t, q)
	}
}

// The same prefix may be there more often, and is taken as often.
func TestSamePrefixMoreOften(t *testing.T) {
	for _, one := range []string{"", "\x00", "a", "\xff\x80", strings.Repeat("\x02", 32)} {
		for n := range 9 {
			same := slices.Repeat([]string{one}, n)
			check(t, "Pop", all(filled(same...).Pop), same)
			check(t, "Steal", all(filled(same...).Steal), same)
		}
	}
	check(t, "Pop", all(filled("b", "", "ba", "b", "", "ba", "a", "").Pop), []string{"ba", "ba", "a", "b", "b", "", "", ""})
	check(t, "Steal", all(filled("b", "", "ba", "b", "", "ba", "a", "").Steal), []string{"", "", "", "b", "b", "a", "ba", "ba"})
	q := filled("ab", "c", "ab", "c")
	checkTaken(t, "Steal", q.Steal, "c", true)
	q.Push("c")
	q.Push("c")
	checkTaken(t, "Pop", q.Pop, "ab", true)
	checkTaken(t, "Pop", q.Pop, "ab", true)
	check(t, "Steal", all(q.Steal), []string{"c", "c", "c"})
}

// One prefix is both the first and the last one.
func TestOnePrefix(t *testing.T) {
	for _, one := range falling() {
		q := filled(one)
		checkTaken(t, "Pop", q.Pop, one, true)
		checkEmpty(t, q)
		q = filled(one)
		checkTaken(t, "Steal", q.Steal, one, true)
		checkEmpty(t, q)
	}
}

// A queue that was never filled, one that was emptied, and one that New did not make.
func TestNoneThere(t *testing.T) {
	checkEmpty(t, queue.New())
	for _, q := range []*queue.Queue{queue.New(), new(queue.Queue)} {
		for range 3 {
			checkEmpty(t, q)
			for _, prefix := range []string{"ab", "", "b", "a"} {
				q.Push(prefix)
			}
			checkTaken(t, "Steal", q.Steal, "", true)
			checkTaken(t, "Pop", q.Pop, "ab", true)
			checkTaken(t, "Steal", q.Steal, "b", true)
			checkTaken(t, "Pop", q.Pop, "a", true)
			checkEmpty(t, q)
			q.Push("")
			checkTaken(t, "Pop", q.Pop, "", true) // an empty prefix, that is there
		}
	}
}

func TestNilQueue(t *testing.T) {
	var q *queue.Queue
	for range 3 {
		checkEmpty(t, q)
		for _, prefix := range falling() {
			q.Push(prefix)
		}
	}
	checkEmpty(t, q)
	if filled("a"); q.Len() != 0 {
		t.Error("another queue's prefix")
	}
}

// What is done to one queue touches no other one.
func TestTwoQueues(t *testing.T) {
	one, two := filled("a", "bb", ""), filled("bb", "c")
	checkTaken(t, "Pop", one.Pop, "bb", true)
	checkTaken(t, "Steal", one.Steal, "", true)
	if one.Len() != 1 || two.Len() != 2 {
		t.Fatalf("Len: %d and %d", one.Len(), two.Len())
	}
	two.Push("a")
	one.Push("ddd")
	check(t, "Pop", all(one.Pop), []string{"ddd", "a"})
	check(t, "Pop", all(two.Pop), []string{"bb", "a", "c"})
	checkEmpty(t, one)
	two.Push("e")
	checkEmpty(t, one)
	checkTaken(t, "Steal", two.Steal, "e", true)
}

// Rule 5: what is handed in is not kept, though it is a piece of a longer text.
func TestPrefixIsNotKept(t *testing.T) {
	text := []byte("a long text that is the caller's")
	handed := unsafe.String(&text[2], 4)
	q := filled(handed)
	clear(text)
	checkTaken(t, "Pop", q.Pop, "long", true)
}

// So many that a call that looked at all of them would not come to an end.
func TestManyPrefixes(t *testing.T) {
	const many = 1 << 18
	r := rand.New(rand.NewSource(3))
	for _, pops := range []int{0, 1, 2} { // of each two calls
		q := queue.New()
		for _, n := range r.Perm(many) {
			q.Push(string([]byte{byte(n >> 16), byte(n >> 8), byte(n)}))
		}
		low, high := 0, many // those that are there still
		for i := range many {
			n, take, name := low, q.Pop, "Pop"
			if i%2 >= pops {
				high--
				n, take, name = high, q.Steal, "Steal"
			} else {
				low++
			}
			checkTaken(t, name, take, string([]byte{byte(n >> 16), byte(n >> 8), byte(n)}), true)
			if q.Len() != high-low {
				t.Fatalf("Len: %d, not %d", q.Len(), high-low)
			}
		}
		checkEmpty(t, q)
	}
}
