package mail_test

import (
	"math/rand"
	"testing"

	"sinnet/api"
	"sinnet/mail"
	"sinnet/sleep"
)

// Few workers, and each row of few deeds: sent to one of them, or taken by one.
func TestEachRowOfDeeds(t *testing.T) {
	for _, c := range []struct{ workers, deeds int }{{1, 10}, {2, 6}, {3, 4}} {
		kinds := 2 * c.workers
		rows := 1
		for range c.deeds {
			rows *= kinds
		}
		for row := range rows {
			p := begin(t, c.workers)
			left := row
			for n := range c.deeds {
				deed := left % kinds
				left /= kinds
				if deed < c.workers {
					p.send(t, deed, text(n))
				} else {
					p.take(t, deed-c.workers)
				}
			}
			p.drain(t)
		}
	}
}

// anyLetter draws one, mostly of few bytes, so that the same one comes more often.
func anyLetter(r *rand.Rand) mail.Letter {
	few := []byte{0, 1, 127, 128, 255}
	prefix := make([]byte, r.Intn(4))
	for i := range prefix {
		prefix[i] = few[r.Intn(len(few))]
	}
	sets := []sleep.Set{0, 1, 128, 255, sleep.Set(r.Intn(256))}
	return mail.Letter{Prefix: string(prefix), Set: sets[r.Intn(len(sets))]}
}

// anyWorker draws one, and sometimes one that there is not.
func anyWorker(r *rand.Rand, workers int) int {
	if none := noWorkers(workers); r.Intn(10) == 0 {
		return none[r.Intn(len(none))]
	}
	return r.Intn(workers)
}

// P12.2: drawn deeds, and then all that is left: each letter comes once, to its own, in order.
func TestDrawnDeeds(t *testing.T) {
	r := rand.New(rand.NewSource(1))
	none, wrong := 0, 0
	for range 1000 {
		p := begin(t, 1+r.Intn(64))
		if r.Intn(2) == 0 {
			p = begin(t, 1+r.Intn(4))
		}
		sends, got := 1+r.Intn(9), 0
		in := map[int][]mail.Letter{}
		out := map[int][]mail.Letter{}
		take := func(worker int) {
			if l, ok := p.take(t, worker); ok {
				out[worker] = append(out[worker], l)
				got++
			} else {
				none++
			}
		}
		for range r.Intn(100) {
			worker := anyWorker(r, p.m.workers)
			if r.Intn(10) >= sends {
				take(worker)
			} else if l := anyLetter(r); p.send(t, worker, l) == api.OK {
				in[worker] = append(in[worker], l)
			} else {
				wrong++
			}
		}
		for p.b.Total() > 0 {
			take(r.Intn(p.m.workers))
		}
		p.checkEmpty(t)
		checkAll(t, in, out)
	}
	if none < 500 || wrong < 500 {
		t.Errorf("%d taken of an empty box, %d sent to nobody: too few", none, wrong)
	}
}

// checkAll: each worker took what was sent to it, in that order.
func checkAll(t *testing.T, in, out map[int][]mail.Letter) {
	t.Helper()
	if len(in) != len(out) {
		t.Fatalf("sent to %d workers, taken by %d", len(in), len(out))
	}
	for worker, want := range in {
		got := out[worker]
		if len(got) != len(want) {
			t.Fatalf("%d sent to %d, %d taken", len(want), worker, len(got))
		}
		for i := range want {
			if got[i] != want[i] {
				t.Fatalf("letter %d to %d: %q, not %q", i, worker, got[i], want[i])
			}
		}
	}
}

// Boxes side by side: each are what their own letters make of them.
func TestDrawnBoxesSideBySide(t *testing.T) {
	r := rand.New(rand.NewSource(2))
	for range 200 {
		pairs := []pair{begin(t, 2), begin(t, 2), begin(t, 1+r.Intn(5))}
		for range 100 {
			p := pairs[r.Intn(len(pairs))]
			if worker := anyWorker(r, p.m.workers); r.Intn(2) == 0 {
				p.send(t, worker, anyLetter(r))
			} else {
				p.take(t, worker)
			}
			for _, other := range pairs {
				other.checkLens(t)
			}
		}
		for _, p := range pairs {
			p.drain(t)
		}
	}
}

// FuzzMail: any bytes as deeds: the first one says how many workers; then one says what, one who, and of a letter one the set, and the bytes that follow are the prefix, as many as the first of the three says.
func FuzzMail(f *testing.F) {
	f.Add([]byte("\x01\x03\x01\x05a\x03\x01\x06b\x00\x01\x00\x00\x00\x01"))
	f.Add([]byte("\x3f\x01\x3f\xff\x07\x40\x01\x80\xff\x00\x40\x00\x3f\x00\xff"))
	f.Add([]byte("\x02\x01\x00\x00\x01\x00\x00\x01\x01\x00\x00\x00\x00\x01\x00\x00\x00\x02"))
	f.Fuzz(func(t *testing.T, deeds []byte) {
		next := func() int {
			if len(deeds) == 0 {
				return 0
			}
			one := deeds[0]
			deeds = deeds[1:]
			return int(one)
		}
		p := begin(t, 1+next()%64)
		for range 200 {
			if len(deeds) == 0 {
				break
			}
			deed, worker := next(), int(int8(next()))
			if deed%2 == 0 {
				p.take(t, worker)
				continue
			}
			l := mail.Letter{Set: sleep.Set(next())}
			n := min(deed/2%40, len(deeds))
			l.Prefix, deeds = string(deeds[:n]), deeds[n:]
			p.send(t, worker, l)
		}
		p.drain(t)
	})
}
