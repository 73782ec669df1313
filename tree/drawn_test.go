package tree_test

import (
	"math/rand"
	"slices"
	"strconv"
	"testing"

	"sinnet/api"
	"sinnet/foata"
	"sinnet/prog"
	"sinnet/sleep"
	"sinnet/walk"
)

func TestDrawnTrees(t *testing.T) {
	r := rand.New(rand.NewSource(10))
	var a told
	for range 1500 {
		b := begin(t, anyProgram(r), r.Intn(9))
		b.make(t, "", sleep.Set(r.Intn(256)&r.Intn(256)), anyDraw(r))
		for range 60 {
			b.anyDeed(t, r, &a)
			b.check(t, b.anyPrefix(r), b.anyPrefix(r))
		}
		for range 5 {
			b.checkAt(t, b.anyPrefix(r))
		}
	}
	if min(a.made, a.once, a.orphans, a.wrong, a.marks, a.claims, a.over, a.sleepers, a.handed) < 500 {
		t.Errorf("%+v: too few", a)
	}
}

// explored is what a whole exploration came to.
type explored struct {
	claims map[string]int // how often a thread of a node was gone into
	keys   []string       // of all ends
}

// explore makes, marks and claims in a drawn order till nobody is left anywhere; all who may are marked. Behind a claim sleeps who the tree tells, or nobody.
func explore(t *testing.T, r *rand.Rand, b pair, sleepy bool) explored {
	t.Helper()
	w := explored{claims: map[string]int{}}
	made := []string{""}
	b.x.Make("", 0, 0)
	b.x.Mark("", 255)
	for len(made) > 0 {
		at := r.Intn(len(made))
		prefix := made[at]
		thread, child, e := b.x.Claim(prefix, r.Int())
		if e != api.OK {
			made = slices.Delete(made, at, at+1)
			w.end(b, prefix)
			continue
		}
		w.claims[prefix+"|"+strconv.Itoa(thread)]++
		if !sleepy {
			child = 0
		}
		next := prefix + string([]byte{byte(thread)})
		if e := b.x.Make(next, child, r.Int()); e != api.OK {
			t.Fatalf("Make(%q): %v", next, e)
		}
		if e := b.x.Make(next, 0, 0); e != api.ErrOnce {
			t.Fatalf("Make(%q) again: %v", next, e)
		}
		b.x.Mark(next, 255)
		made = append(made, next)
	}
	return w
}

// end keeps a prefix's Key, if nobody may behind it.
func (w *explored) end(b pair, prefix string) {
	x, row, _ := b.x.At(prefix)
	if len(x.All()) == 0 {
		w.keys = append(w.keys, foata.Key(row))
	}
}

// P10.3: in whatever order, with all who may marked, each thread of a node is gone into once; where nobody sleeps, each prefix is a node. Where they sleep whom the claims tell, each class ends once.
func TestWholeTrees(t *testing.T) {
	r := rand.New(rand.NewSource(11))
	several, fewer := 0, 0
	for range 2500 {
		p, fuel := anyProgram(r), r.Intn(9)
		sum, e := walk.All(p, fuel, 500)
		if e != api.OK {
			continue
		}
		for _, sleepy := range []bool{false, true} {
			b := begin(t, p, fuel)
			w := explore(t, r, b, sleepy)
			for deed, n := range w.claims {
				if n != 1 {
					t.Fatalf("%+v: %q: %d times", p, deed, n)
				}
			}
			if b.x.Claims() != len(w.claims) || b.x.Len() != len(w.claims)+1 {
				t.Fatalf("%+v: %d claims, %d nodes, not %d", p, b.x.Claims(), b.x.Len(), len(w.claims))
			}
			slices.Sort(w.keys)
			if !sleepy && (b.x.Len() != sum.Prefixes || len(w.keys) != sum.Runs) || sleepy && !slices.Equal(w.keys, sum.Keys) {
				t.Fatalf("%+v, fuel %d, sleepy %v: %d nodes, %x, not %d, %x", p, fuel, sleepy, b.x.Len(), w.keys, sum.Prefixes, sum.Keys)
			}
			if sleepy && b.x.Len() < sum.Prefixes {
				fewer++
			}
		}
		if len(sum.Keys) > 1 {
			several++
		}
	}
	if several < 200 || fewer < 300 {
		t.Errorf("%d of several classes, %d that need fewer nodes: too few", several, fewer)
	}
}

// Deeds at unlike nodes come to the same in any order.
func TestOrderOfNodesDoesNotMatter(t *testing.T) {
	r := rand.New(rand.NewSource(12))
	local := code(set(0, 1), store(0, 0))
	p := program(local, local, local, local)
	prefixes := []string{"", "\x00", "\x01", "\x02", "\x03", "\x00\x01", "\x00\x02", "\x03\x02"}
	for range 300 {
		seed := r.Int63()
		one, two := begin(t, p, 8), begin(t, p, 8)
		for _, b := range []pair{one, two} {
			for _, prefix := range prefixes {
				b.grow(t, prefix)
			}
			order := r.Perm(len(prefixes))
			for _, at := range order {
				draws := rand.New(rand.NewSource(seed + int64(at)))
				for range draws.Intn(5) {
					b.mark(t, prefixes[at], sleep.Set(draws.Intn(16)))
					b.claim(t, prefixes[at], draws.Int())
					b.hand(t, prefixes[at], draws.Int())
				}
			}
			b.check(t)
		}
		for _, prefix := range prefixes {
			if !slices.Equal(one.x.Left(prefix), two.x.Left(prefix)) || one.x.Owner(prefix) != two.x.Owner(prefix) {
				t.Fatalf("%q: %v of %d, and %v of %d", prefix, one.x.Left(prefix), one.x.Owner(prefix), two.x.Left(prefix), two.x.Owner(prefix))
			}
		}
		if one.x.Claims() != two.x.Claims() {
			t.Fatalf("%d and %d claims", one.x.Claims(), two.x.Claims())
		}
	}
}

// FuzzTree: any bytes as a program, and as deeds: of each three bytes the first one says what, the second one where, the third one with what.
func FuzzTree(f *testing.F) {
	for _, c := range claimExamples() {
		text, _ := prog.Print(c.p)
		f.Add(text, 8, "\x00\x00\x00\x01\x00\xff\x02\x00\x01\x00\x01\x00\x02\x00\xfe\x03\x00\x07")
		f.Add(text, 1, "\x00\x00\x01\x01\x00\x0f\x02\x00\x03\x00\x04\x00\x01\x01\xff\x02\x01\x00\x00\x06\x02")
	}
	f.Fuzz(func(t *testing.T, text string, fuel int, deeds string) {
		p, e := prog.Read(text)
		if e != api.OK || fuel < 0 || fuel > api.MaxFuel {
			checkRefused(t, p, min(fuel, -1))
			return
		}
		b := begin(t, p, fuel)
		prefixes := []string{""}
		for ; len(deeds) >= 3 && len(prefixes) < 200; deeds = deeds[3:] {
			prefix, n := prefixes[int(deeds[1])%len(prefixes)], int(int8(deeds[2]))
			switch deeds[0] % 4 {
			case 0:
				b.make(t, prefix, sleep.Set(deeds[2]), n)
				prefixes = append(prefixes, prefix+deeds[2:3], prefix+string([]byte{deeds[2] % 4}))
			case 1:
				b.mark(t, prefix, sleep.Set(deeds[2]))
			case 2:
				b.claim(t, prefix, n)
			case 3:
				b.hand(t, prefix, n)
			}
			b.checkAt(t, prefix)
			b.check(t, prefixes...)
		}
		b.checkAt(t, deeds)
		b.make(t, deeds, 0, 0)
	})
}
