package work_test

import (
	"math/rand"
	"testing"
)

// deed does that one of all pushes of some prefixes, pops and steals of the workers there are, which are counted by deeds.
func (b pair) deed(t *testing.T, n int, prefixes []string) {
	t.Helper()
	pushes, pops := b.m.workers*len(prefixes), b.m.workers
	if n < pushes {
		b.push(t, n%b.m.workers, prefixes[n/b.m.workers])
		return
	}
	if n -= pushes; n < pops {
		b.pop(t, n)
		return
	}
	n -= pops
	b.steal(t, n%b.m.workers, n/b.m.workers)
}

// deeds: how many there are.
func deeds(workers int, prefixes []string) int {
	return workers*len(prefixes) + workers + workers*workers
}

// Few workers, few prefixes, and each row of few deeds.
func TestEachRowOfDeeds(t *testing.T) {
	for _, c := range []struct {
		workers, deeds int
		prefixes       []string
	}{
		{1, 5, []string{"", "\x00", "\xff"}},
		{2, 5, []string{"", "a"}},
		{2, 4, []string{"", "\x7f", "\x80"}},
		{3, 3, []string{"", "a", "ab"}},
		{3, 4, []string{""}},
	} {
		kinds := deeds(c.workers, c.prefixes)
		rows := 1
		for range c.deeds {
			rows *= kinds
		}
		for row := range rows {
			b := begin(t, c.workers)
			left := row
			for range c.deeds {
				b.deed(t, left%kinds, c.prefixes)
				left /= kinds
			}
			b.drain(t)
		}
	}
}

// anyPrefix draws one of few bytes, mostly, so that the same one comes more often.
func anyPrefix(r *rand.Rand) string {
	few := []byte{0, 1, 127, 128, 255}
	prefix := make([]byte, r.Intn(4))
	if r.Intn(20) == 0 {
		prefix = make([]byte, r.Intn(33))
	}
	for i := range prefix {
		prefix[i] = few[r.Intn(len(few))]
	}
	return string(prefix)
}

// anyWorker draws one, and sometimes one that there is not.
func anyWorker(r *rand.Rand, workers int) int {
	if none := noWorkers(workers); r.Intn(12) == 0 {
		return none[r.Intn(len(none))]
	}
	return r.Intn(workers)
}

// count is how often calls answered true, and false.
type count struct {
	yes, no int
}

func (c *count) add(ok bool) {
	if ok {
		c.yes++
	} else {
		c.no++
	}
}

// P13.2: drawn deeds: each prefix is had by one at most, and is there from its push to its pop, once for each push.
func TestDrawnDeeds(t *testing.T) {
	r := rand.New(rand.NewSource(1))
	var pushes, pops, steals count
	for range 600 {
		b := begin(t, 1+r.Intn(4))
		if r.Intn(4) == 0 {
			b = begin(t, 1+r.Intn(64))
		}
		some, greedy := 1+r.Intn(9), 1+r.Intn(9)
		there := map[string]bool{}
		push := func(prefix string) {
			ok := b.push(t, anyWorker(r, b.m.workers), prefix)
			pushes.add(ok)
			if ok && there[prefix] {
				t.Fatalf("%q pushed twice", prefix)
			}
			if ok {
				there[prefix] = true
			}
		}
		pop := func(worker int) {
			prefix, ok := b.pop(t, worker)
			pops.add(ok)
			if ok && !there[prefix] {
				t.Fatalf("%q popped twice", prefix)
			}
			if ok {
				delete(there, prefix)
			}
		}
		for range r.Intn(80) {
			if r.Intn(10) < some {
				push(anyPrefix(r))
			} else if r.Intn(10) < greedy {
				_, ok := b.steal(t, anyWorker(r, b.m.workers), anyWorker(r, b.m.workers))
				steals.add(ok)
			} else {
				pop(anyWorker(r, b.m.workers))
			}
			for prefix := range b.seen {
				if b.w.Has(prefix) != there[prefix] {
					t.Fatalf("Has(%q): %v", prefix, !there[prefix])
				}
			}
		}
		for b.w.Total() > 0 {
			pop(r.Intn(b.m.workers))
		}
		if len(there) > 0 {
			t.Fatalf("%d never popped", len(there))
		}
		b.checkEmpty(t)
	}
	for _, c := range []count{pushes, pops, steals} {
		if c.yes < 500 || c.no < 500 {
			t.Errorf("%+v %+v %+v: too few", pushes, pops, steals)
		}
	}
}

// Works side by side: each is what its own deeds make of it.
func TestDrawnWorksSideBySide(t *testing.T) {
	r := rand.New(rand.NewSource(2))
	prefixes := []string{"", "\x00", "\x80", "\x00\x00", "\xff\x00", "ab", "abc"}
	for range 200 {
		pairs := []pair{begin(t, 2), begin(t, 2), begin(t, 1+r.Intn(5))}
		for range 80 {
			b := pairs[r.Intn(len(pairs))]
			b.deed(t, r.Intn(deeds(b.m.workers, prefixes)), prefixes)
			for _, other := range pairs {
				other.check(t)
			}
		}
		for _, b := range pairs {
			b.drain(t)
		}
	}
}

// FuzzWork: any bytes as deeds: the first one says how many workers; then one says what, one who, and of a push the bytes that follow are the prefix, as many as the first of the two says, of a steal the next one says the victim.
func FuzzWork(f *testing.F) {
	f.Add([]byte("\x02\x00\x00\x08\x00a\x02\x01\x00\x02\x02\x01\x01\x00\x01\x02"))
	f.Add([]byte("\x3f\x08\x3f\xff\x08\x00\xff\x02\x00\x3f\x01\x00\x02\x40\x00\x02\x00\xff"))
	f.Add([]byte("\x01\x10\x00ab\x08\x01\x80\x10\x01ab\x08\x00b\x02\x01\x00\x02\x01\x00\x02\x01\x01\x02\x00\x00\x01\x00\x01\x01"))
	f.Fuzz(func(t *testing.T, deeds []byte) {
		next := func() int {
			if len(deeds) == 0 {
				return 0
			}
			one := deeds[0]
			deeds = deeds[1:]
			return int(one)
		}
		b := begin(t, 1+next()%64)
		for range 100 {
			if len(deeds) == 0 {
				break
			}
			deed, worker := next(), int(int8(next()))
			switch deed % 8 {
			case 1:
				b.pop(t, worker)
			case 2:
				b.steal(t, worker, int(int8(next())))
			default:
				n := min(deed/8, len(deeds))
				b.push(t, worker, string(deeds[:n]))
				deeds = deeds[n:]
			}
		}
		b.drain(t)
	})
}
