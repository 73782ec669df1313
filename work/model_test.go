package work_test

import (
	"math"
	"slices"
	"testing"

	"sinnet/api"
	"sinnet/work"
)

// nobody is who has a prefix that none has.
const nobody = -1

// noWorkers: numbers that are none of that many workers.
func noWorkers(workers int) []int {
	return []int{-1, workers, -2, workers + 1, -workers, 2 * workers, 1 << 32, -1 << 32, 1<<32 + workers - 1, math.MinInt, math.MinInt + workers, math.MaxInt}
}

// had is a prefix of the model, with who has it.
type had struct {
	worker int
	prefix string
}

// model is the chapters' words again: all prefixes in one row, whoever has them, each held against each other one.
type model struct {
	workers int
	row     []had
}

// comesAhead: is a longer than b, or of its length and less, byte by byte?
func comesAhead(a, b string) bool {
	if len(a) != len(b) {
		return len(a) > len(b)
	}
	for i := range len(a) {
		if int(a[i]) != int(b[i]) {
			return int(a[i]) < int(b[i])
		}
	}
	return false
}

// is: is there that worker?
func (m *model) is(worker int) bool {
	for one := range m.workers {
		if one == worker {
			return true
		}
	}
	return false
}

// owner: who has that prefix; nobody, if none has.
func (m *model) owner(prefix string) int {
	for _, one := range m.row {
		if one.prefix == prefix {
			return one.worker
		}
	}
	return nobody
}

// len: how many that worker has.
func (m *model) len(worker int) int {
	n := 0
	for _, one := range m.row {
		if one.worker == worker {
			n++
		}
	}
	return n
}

// end: where the prefix of that worker's is that is at that end of all of them, as ahead tells of two; -1, if it has none.
func (m *model) end(worker int, ahead func(a, b string) bool) int {
	return slices.IndexFunc(m.row, func(one had) bool {
		return one.worker == worker && !slices.ContainsFunc(m.row, func(other had) bool {
			return other.worker == worker && ahead(other.prefix, one.prefix)
		})
	})
}

// push: it has the prefix, if there is that worker, and nobody has it.
func (m *model) push(worker int, prefix string) bool {
	if !m.is(worker) || m.owner(prefix) != nobody {
		return false
	}
	m.row = append(m.row, had{worker, prefix})
	return true
}

// pop: the one that comes ahead of all others that the worker has; nobody has it then.
func (m *model) pop(worker int) (string, bool) {
	at := m.end(worker, comesAhead)
	if at < 0 {
		return "", false
	}
	prefix := m.row[at].prefix
	m.row = slices.Delete(m.row, at, at+1)
	return prefix, true
}

// steal: the one that comes ahead of no other one that the victim has; the worker has it then.
func (m *model) steal(worker, victim int) (string, bool) {
	at := m.end(victim, func(a, b string) bool { return comesAhead(b, a) })
	if at < 0 || !m.is(worker) || worker == victim {
		return "", false
	}
	m.row[at].worker = worker
	return m.row[at].prefix, true
}

// pair is work and what it should be, with all prefixes that it was asked to push.
type pair struct {
	w    *work.Work
	m    *model
	seen map[string]bool
}

// begin: work that New made.
func begin(t *testing.T, workers int) pair {
	t.Helper()
	w, e := work.New(workers)
	if w == nil || e != api.OK {
		t.Fatalf("New(%d): %v %v", workers, w, e)
	}
	return pair{w, &model{workers: workers}, map[string]bool{"": true, "\x00": true, "never pushed": true}}
}

// push, pop and steal do it with both, and hold against each other what they answer, and what there is then.
func (b pair) push(t *testing.T, worker int, prefix string) bool {
	t.Helper()
	b.seen[prefix] = true
	want := b.m.push(worker, prefix)
	checkPush(t, b.w, worker, prefix, want)
	b.check(t)
	return want
}

func (b pair) pop(t *testing.T, worker int) (string, bool) {
	t.Helper()
	want, ok := b.m.pop(worker)
	checkPop(t, b.w, worker, want, ok)
	b.check(t)
	return want, ok
}

func (b pair) steal(t *testing.T, worker, victim int) (string, bool) {
	t.Helper()
	want, ok := b.m.steal(worker, victim)
	checkSteal(t, b.w, worker, victim, want, ok)
	b.check(t)
	return want, ok
}

// fill pushes all those prefixes, that nobody has, to that worker.
func (b pair) fill(t *testing.T, worker int, prefixes ...string) {
	t.Helper()
	for _, prefix := range prefixes {
		if !b.push(t, worker, prefix) {
			t.Fatalf("%.80q is had", prefix)
		}
	}
}

// drain pops all that is there still, each worker's in turn, and what there isn't.
func (b pair) drain(t *testing.T) {
	t.Helper()
	for len(b.m.row) > 0 {
		for worker := range b.m.workers {
			b.pop(t, worker)
		}
	}
	b.checkEmpty(t)
}

// check: each worker has as many as it should, one that there is not has none, all together are as many as they should be, and just those are had that should be.
func (b pair) check(t *testing.T) {
	t.Helper()
	for worker := range b.m.workers {
		if got, want := b.w.Len(worker), b.m.len(worker); got != want {
			t.Fatalf("Len(%d): %d, not %d", worker, got, want)
		}
	}
	for _, worker := range noWorkers(b.m.workers) {
		if got := b.w.Len(worker); got != 0 {
			t.Fatalf("Len(%d) of %d workers: %d", worker, b.m.workers, got)
		}
	}
	if got, want := b.w.Total(), len(b.m.row); got != want {
		t.Fatalf("Total: %d, not %d", got, want)
	}
	for prefix := range b.seen {
		if got, want := b.w.Has(prefix), b.m.owner(prefix) != nobody; got != want {
			t.Fatalf("Has(%.80q): %v, not %v", prefix, got, want)
		}
	}
}

// checkEmpty: there is none, of nobody, to be popped or to be stolen.
func (b pair) checkEmpty(t *testing.T) {
	t.Helper()
	all := noWorkers(b.m.workers)
	for worker := range b.m.workers {
		all = append(all, worker)
	}
	for _, worker := range all {
		checkPop(t, b.w, worker, "", false)
		checkSteal(t, b.w, worker, 0, "", false)
		checkSteal(t, b.w, 0, worker, "", false)
	}
	b.check(t)
	if b.w.Total() != 0 {
		t.Fatalf("Total: %d", b.w.Total())
	}
}

// checkPush, checkPop and checkSteal: it answers that.
func checkPush(t *testing.T, w *work.Work, worker int, prefix string, want bool) {
	t.Helper()
	if got := w.Push(worker, prefix); got != want {
		t.Fatalf("Push(%d, %.80q): %v, not %v", worker, prefix, got, want)
	}
}

func checkPop(t *testing.T, w *work.Work, worker int, want string, wantOK bool) {
	t.Helper()
	if got, ok := w.Pop(worker); got != want || ok != wantOK {
		t.Fatalf("Pop(%d): %.80q %v, not %.80q %v", worker, got, ok, want, wantOK)
	}
}

func checkSteal(t *testing.T, w *work.Work, worker, victim int, want string, wantOK bool) {
	t.Helper()
	if got, ok := w.Steal(worker, victim); got != want || ok != wantOK {
		t.Fatalf("Steal(%d, %d): %.80q %v, not %.80q %v", worker, victim, got, ok, want, wantOK)
	}
}

// checkHas: just those of both lists that should be had are.
func checkHas(t *testing.T, w *work.Work, those, notThose []string) {
	t.Helper()
	for _, prefix := range those {
		if !w.Has(prefix) {
			t.Fatalf("Has(%.80q): false", prefix)
		}
	}
	for _, prefix := range notThose {
		if w.Has(prefix) {
			t.Fatalf("Has(%.80q): true", prefix)
		}
	}
}
