package mail_test

import (
	"math"
	"testing"

	"sinnet/api"
	"sinnet/mail"
)

// noWorkers: numbers that are none of that many workers.
func noWorkers(workers int) []int {
	return []int{-1, workers, -2, workers + 1, -workers, 2 * workers, 1 << 32, -1 << 32, 1<<32 + workers - 1, math.MinInt, math.MinInt + workers, math.MaxInt}
}

// sent is a letter of the model, with whom it is for.
type sent struct {
	to     int
	letter mail.Letter
}

// model is the chapter's words again: all letters in one row, as they were sent, whoever they are for.
type model struct {
	workers int
	row     []sent
}

// is: is there that worker?
func (m *model) is(worker int) bool {
	for one := range m.workers {
		if one == worker {
			return true
		}
	}
	return false
}

// send: ErrRange, unless there is that worker.
func (m *model) send(to int, l mail.Letter) api.Errno {
	if !m.is(to) {
		return api.ErrRange
	}
	m.row = append(m.row, sent{to, l})
	return api.OK
}

// take: the first one that is for that worker.
func (m *model) take(worker int) (mail.Letter, bool) {
	for i, one := range m.row {
		if one.to == worker {
			rest := append([]sent{}, m.row[:i]...)
			m.row = append(rest, m.row[i+1:]...)
			return one.letter, true
		}
	}
	return mail.Letter{}, false
}

// len: how many are for that worker.
func (m *model) len(worker int) int {
	n := 0
	for _, one := range m.row {
		if one.to == worker {
			n++
		}
	}
	return n
}

// pair is boxes and what they should be.
type pair struct {
	b *mail.Boxes
	m *model
}

// begin: boxes that New made.
func begin(t *testing.T, workers int) pair {
	t.Helper()
	return pair{boxes(t, workers), &model{workers: workers}}
}

// boxes: those that New made.
func boxes(t *testing.T, workers int) *mail.Boxes {
	t.Helper()
	b, e := mail.New(workers)
	if b == nil || e != api.OK {
		t.Fatalf("New(%d): %v %v", workers, b, e)
	}
	return b
}

// checkLens: each worker has as many as it should, one that there is not has none, and all together are as many as they should be.
func (p pair) checkLens(t *testing.T) {
	t.Helper()
	for worker := range p.m.workers {
		if got, want := p.b.Len(worker), p.m.len(worker); got != want {
			t.Fatalf("Len(%d): %d, not %d", worker, got, want)
		}
	}
	for _, worker := range noWorkers(p.m.workers) {
		if got := p.b.Len(worker); got != 0 {
			t.Fatalf("Len(%d) of %d workers: %d", worker, p.m.workers, got)
		}
	}
	if got, want := p.b.Total(), len(p.m.row); got != want {
		t.Fatalf("Total: %d, not %d", got, want)
	}
}

// send and take do it with both, and hold what they answer against each other.
func (p pair) send(t *testing.T, to int, l mail.Letter) api.Errno {
	t.Helper()
	want := p.m.send(to, l)
	checkSend(t, p.b, to, l, want)
	p.checkLens(t)
	return want
}

func (p pair) take(t *testing.T, worker int) (mail.Letter, bool) {
	t.Helper()
	want, ok := p.m.take(worker)
	checkTake(t, p.b, worker, want, ok)
	p.checkLens(t)
	return want, ok
}

// drain takes all that is there still, each worker's in turn, and what there isn't.
func (p pair) drain(t *testing.T) {
	t.Helper()
	for len(p.m.row) > 0 {
		for worker := range p.m.workers {
			p.take(t, worker)
		}
	}
	p.checkEmpty(t)
}

// checkEmpty: there is none, of nobody.
func (p pair) checkEmpty(t *testing.T) {
	t.Helper()
	for range 2 {
		for worker := range p.m.workers {
			checkTake(t, p.b, worker, mail.Letter{}, false)
		}
		for _, worker := range noWorkers(p.m.workers) {
			checkTake(t, p.b, worker, mail.Letter{}, false)
		}
		p.checkLens(t)
	}
	if p.b.Total() != 0 {
		t.Fatalf("Total: %d", p.b.Total())
	}
}

// checkSend: it answers that.
func checkSend(t *testing.T, b *mail.Boxes, to int, l mail.Letter, want api.Errno) {
	t.Helper()
	if e := b.Send(to, l); e != want {
		t.Fatalf("Send(%d, %q): %v, not %v", to, l, e, want)
	}
}

// checkTake: it takes that one, or there is none.
func checkTake(t *testing.T, b *mail.Boxes, worker int, want mail.Letter, wantOK bool) {
	t.Helper()
	if l, ok := b.Take(worker); l != want || ok != wantOK {
		t.Fatalf("Take(%d): %q %v, not %q %v", worker, l, ok, want, wantOK)
	}
}
