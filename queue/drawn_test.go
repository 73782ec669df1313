package queue_test

import (
	"math/rand"
	"slices"
	"testing"
)

// orders: a list in each of its orders.
func orders(list []string) [][]string {
	if len(list) == 0 {
		return [][]string{nil}
	}
	var all [][]string
	for i, first := range list {
		rest := slices.Delete(slices.Clone(list), i, i+1)
		for _, order := range orders(rest) {
			all = append(all, append([]string{first}, order...))
		}
	}
	return all
}

// Few prefixes, the same one among them, in each order, and each row of pops and steals.
func TestEachOrderOfPushesAndTakes(t *testing.T) {
	for _, list := range [][]string{
		{"", "a", "b", "ab", "ba"},
		{"\x00\x01", "\x00\xff", "\x80", "\x7f", "\x00"},
		{"a", "a", "b", "b", "ab"},
		{"", "", "\xff", "\xff", "\xff"},
		{"aaa", "aab", "aba", "baa", "aa\x80"},
	} {
		for _, order := range orders(list) {
			for rows := range 1 << len(list) {
				b := begin(order...)
				for i := range list {
					b.take(t, rows>>i&1 == 0)
				}
				checkEmpty(t, b.q)
			}
		}
	}
}

// take pops or steals.
func (b pair) take(t *testing.T, pop bool) (string, bool) {
	t.Helper()
	if pop {
		return b.pop(t)
	}
	return b.steal(t)
}

// anyPrefix draws one, mostly short, of few bytes or of all of them.
func anyPrefix(r *rand.Rand) string {
	few := []byte{0, 1, 2, 3, 127, 128, 255}
	text := make([]byte, r.Intn(5))
	if r.Intn(20) == 0 {
		text = make([]byte, r.Intn(40))
	}
	for i := range text {
		text[i] = few[r.Intn(len(few))]
		if r.Intn(10) == 0 {
			text[i] = byte(r.Intn(256))
		}
	}
	return string(text)
}

// P11.2: drawn pushes, pops and steals, and then both till nothing is left: each pushed one is taken once.
func TestDrawnDeeds(t *testing.T) {
	r := rand.New(rand.NewSource(4))
	empty, again := 0, 0
	for range 1000 {
		b := begin()
		var in, out []string
		pushes := 1 + r.Intn(9)
		for range r.Intn(120) {
			if r.Intn(10) < pushes {
				prefix := anyPrefix(r)
				if slices.Contains(*b.m, prefix) {
					again++
				}
				in = append(in, prefix)
				b.push(t, prefix)
			} else if one, ok := b.take(t, r.Intn(2) == 0); ok {
				out = append(out, one)
			} else {
				empty++
			}
		}
		for b.q.Len() > 0 {
			one, _ := b.take(t, r.Intn(2) == 0)
			out = append(out, one)
		}
		checkEmpty(t, b.q)
		slices.Sort(in)
		slices.Sort(out)
		check(t, "taken", out, in)
	}
	if empty < 500 || again < 500 {
		t.Errorf("%d of an empty queue, %d pushed again: too few", empty, again)
	}
}

// Two queues side by side: each is what its own pushes and takes make of it.
func TestDrawnQueuesSideBySide(t *testing.T) {
	r := rand.New(rand.NewSource(5))
	for range 300 {
		pairs := []pair{begin(), begin(), begin("", "\x00")}
		for range 100 {
			b := pairs[r.Intn(len(pairs))]
			if r.Intn(2) == 0 {
				b.push(t, anyPrefix(r))
			} else {
				b.take(t, r.Intn(2) == 0)
			}
			for _, other := range pairs {
				other.checkLen(t)
			}
		}
	}
}

// FuzzQueue: any bytes as deeds: a byte says what, and of a push how many of the bytes that follow are the prefix.
func FuzzQueue(f *testing.F) {
	f.Add("\x00\x04a\x08ab\x01\x02\x01\x01")
	f.Add("\x08\x80\x00\x08\x7f\xff\x04\xff\x04\x00\x02\x01\x02\x01\x02")
	f.Add("\x04b\x00\x08ba\x04a\x08ab\x0cabc\x04a\x01\x02\x01\x02\x02\x01\x01\x01")
	f.Fuzz(func(t *testing.T, deeds string) {
		b := begin()
		for range 400 {
			if deeds == "" {
				break
			}
			deed := int(deeds[0])
			deeds = deeds[1:]
			switch deed % 4 {
			case 1:
				b.pop(t)
			case 2:
				b.steal(t)
			default:
				n := min(deed/4, len(deeds))
				b.push(t, deeds[:n])
				deeds = deeds[n:]
			}
		}
		for len(*b.m) > 0 {
			b.take(t, len(*b.m)%3 == 0)
		}
		checkEmpty(t, b.q)
	})
}
