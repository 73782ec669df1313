package queue_test

import (
	"slices"
	"testing"

	"sinnet/queue"
)

// model is the chapter's words again: all prefixes in a row, in the order in which they were pushed, each held against each other one.
type model []string

// comesAhead: is a longer than b, or of its length and less, byte by byte?
func comesAhead(a, b string) bool {
	if len(a) != len(b) {
		return len(a) > len(b)
	}
	for i := range len(a) {
		if int(a[i]) != int(b[i]) {
			return int(a[i]) < int(b[i])
		}
	}
	return false
}

// first: where the one is that comes ahead of all others; -1, if there is none.
func (m model) first() int {
	return slices.IndexFunc(m, func(one string) bool {
		return !slices.ContainsFunc(m, func(other string) bool { return comesAhead(other, one) })
	})
}

// last: where the one is that comes ahead of no other one; -1, if there is none.
func (m model) last() int {
	return slices.IndexFunc(m, func(one string) bool {
		return !slices.ContainsFunc(m, func(other string) bool { return comesAhead(one, other) })
	})
}

// remove: that one is gone; empty, false for -1.
func (m *model) remove(at int) (string, bool) {
	if at < 0 {
		return "", false
	}
	one := (*m)[at]
	*m = slices.Delete(*m, at, at+1)
	return one, true
}

// pair is a queue and what it should be.
type pair struct {
	q *queue.Queue
	m *model
}

// begin: a queue that New made, of those prefixes.
func begin(prefixes ...string) pair {
	b := pair{queue.New(), &model{}}
	for _, prefix := range prefixes {
		b.q.Push(prefix)
		*b.m = append(*b.m, prefix)
	}
	return b
}

// checkLen: there are as many as there should be.
func (b pair) checkLen(t *testing.T) {
	t.Helper()
	if b.q.Len() != len(*b.m) {
		t.Fatalf("Len: %d, not %d", b.q.Len(), len(*b.m))
	}
}

// push, pop and steal do it with both, and hold what they answer against each other.
func (b pair) push(t *testing.T, prefix string) {
	t.Helper()
	b.q.Push(prefix)
	*b.m = append(*b.m, prefix)
	b.checkLen(t)
}

func (b pair) pop(t *testing.T) (string, bool) {
	t.Helper()
	want, ok := b.m.remove(b.m.first())
	checkTaken(t, "Pop", b.q.Pop, want, ok)
	b.checkLen(t)
	return want, ok
}

func (b pair) steal(t *testing.T) (string, bool) {
	t.Helper()
	want, ok := b.m.remove(b.m.last())
	checkTaken(t, "Steal", b.q.Steal, want, ok)
	b.checkLen(t)
	return want, ok
}

// checkTaken: a call takes that one, or there is none.
func checkTaken(t *testing.T, name string, take func() (string, bool), want string, wantOK bool) {
	t.Helper()
	if one, ok := take(); one != want || ok != wantOK {
		t.Fatalf("%s: %q %v, not %q %v", name, one, ok, want, wantOK)
	}
}

// checkEmpty: there is none.
func checkEmpty(t *testing.T, q *queue.Queue) {
	t.Helper()
	for range 3 {
		checkTaken(t, "Pop", q.Pop, "", false)
		checkTaken(t, "Steal", q.Steal, "", false)
		if q.Len() != 0 {
			t.Fatalf("Len: %d", q.Len())
		}
	}
}
