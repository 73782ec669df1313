package tree_test

import (
	"math/rand"
	"reflect"
	"slices"
	"testing"

	"sinnet/api"
	"sinnet/sleep"
	"sinnet/state"
	"sinnet/tree"
)

// pair is a tree, and the model that does the same.
type pair struct {
	x *tree.Tree
	m *model
}

// begin: a program's tree without nodes, that there must be.
func begin(t testing.TB, p api.Prog, fuel int) pair {
	t.Helper()
	x, e := tree.New(p, fuel)
	if x == nil || e != api.OK {
		t.Fatalf("New(%+v, %d): %v %v", p, fuel, x, e)
	}
	return pair{x, &model{p: p, fuel: fuel}}
}

// make, mark, claim, hand do it by both, and hold the answers against each other.
func (b pair) make(t testing.TB, prefix string, asleep sleep.Set, owner int) api.Errno {
	t.Helper()
	want := b.m.make(prefix, asleep, owner)
	if e := b.x.Make(prefix, asleep, owner); e != want {
		t.Fatalf("%+v: Make(%.80q, %v, %d): %v, not %v", b.m.p, prefix, asleep.All(), owner, e, want)
	}
	return want
}

func (b pair) mark(t testing.TB, prefix string, set sleep.Set) api.Errno {
	t.Helper()
	want := b.m.mark(prefix, set)
	if e := b.x.Mark(prefix, set); e != want {
		t.Fatalf("%+v: Mark(%.80q, %v): %v, not %v", b.m.p, prefix, set.All(), e, want)
	}
	return want
}

func (b pair) claim(t testing.TB, prefix string, draw int) (int, sleep.Set, api.Errno) {
	t.Helper()
	thread, child, want := b.m.claim(prefix, draw)
	if got, asleep, e := b.x.Claim(prefix, draw); got != thread || asleep != child || e != want {
		t.Fatalf("%+v: Claim(%.80q, %d): %d %v %v, not %d %v %v", b.m.p, prefix, draw, got, asleep.All(), e, thread, child.All(), want)
	}
	return thread, child, want
}

func (b pair) hand(t testing.TB, prefix string, owner int) api.Errno {
	t.Helper()
	want := b.m.hand(prefix, owner)
	if e := b.x.Hand(prefix, owner); e != want {
		t.Fatalf("%+v: Hand(%.80q, %d): %v, not %v", b.m.p, prefix, owner, e, want)
	}
	return want
}

// grow makes the node of a prefix whose steps all may be done, and those of all its beginnings that are not there, where nobody sleeps.
func (b pair) grow(t testing.TB, prefix string) {
	t.Helper()
	for size := range len(prefix) + 1 {
		if b.m.find(prefix[:size]) != nil {
			continue
		}
		if size > 0 {
			ahead, thread := prefix[:size-1], int(prefix[size-1])
			b.mark(t, ahead, sleep.Of(thread))
			b.claim(t, ahead, slices.Index(b.x.Left(ahead), thread))
		}
		if e := b.make(t, prefix[:size], 0, size); e != api.OK {
			t.Fatalf("Make(%.80q): %v", prefix[:size], e)
		}
	}
}

// check holds all that a tree tells of its nodes, and of other prefixes, against the model.
func (b pair) check(t testing.TB, others ...string) {
	t.Helper()
	if n, claims := b.x.Len(), b.x.Claims(); n != len(b.m.nodes) || claims != b.m.claims {
		t.Fatalf("%+v: Len %d, Claims %d, not %d, %d", b.m.p, n, claims, len(b.m.nodes), b.m.claims)
	}
	for _, n := range b.m.nodes {
		b.checkTold(t, n.prefix, n.left(), n.owner, n.asleep.set())
	}
	for _, prefix := range others {
		if b.m.find(prefix) == nil {
			b.checkTold(t, prefix, nil, -1, 0)
		}
	}
}

func (b pair) checkTold(t testing.TB, prefix string, left []int, owner int, asleep sleep.Set) {
	t.Helper()
	if got := b.x.Left(prefix); !slices.Equal(got, left) {
		t.Fatalf("%+v: Left(%.80q): %v, not %v", b.m.p, prefix, got, left)
	}
	if got := b.x.Owner(prefix); got != owner {
		t.Fatalf("%+v: Owner(%.80q): %d, not %d", b.m.p, prefix, got, owner)
	}
	if got := b.x.Asleep(prefix); got != asleep {
		t.Fatalf("%+v: Asleep(%.80q): %v, not %v", b.m.p, prefix, got.All(), asleep.All())
	}
}

// checkAt holds At of any prefix against the words, and against Replay of its threads; it answers the error.
func (b pair) checkAt(t testing.TB, prefix string) api.Errno {
	t.Helper()
	w, row, want := b.m.at(prefix)
	x, events, e := b.x.At(prefix)
	if e != want || !slices.Equal(events, row) || (x == nil) != (want != api.OK) {
		t.Fatalf("%+v: At(%.80q): %+v %v %v, not %v %v", b.m.p, prefix, x, events, e, row, want)
	}
	if want == api.OK {
		checkState(t, x, w)
	}
	var threads []int
	for _, thread := range []byte(prefix) {
		threads = append(threads, int(thread))
	}
	like, _, e := state.Replay(b.m.p, b.m.fuel, threads)
	if e != want || !reflect.DeepEqual(x, like) {
		t.Fatalf("%+v: At(%.80q): %+v, not %+v %v", b.m.p, prefix, x, like, e)
	}
	return want
}

// checkState holds what a state tells against the words.
func checkState(t testing.TB, x *state.State, w *run) {
	t.Helper()
	if x.Threads() != len(w.p.Threads) {
		t.Fatalf("%d threads, not %d", x.Threads(), len(w.p.Threads))
	}
	for thread := range x.Threads() {
		want, does := w.next(thread)
		if next, ok := x.Next(thread); next != want || ok != does || x.Enabled(thread) != w.may(thread) {
			t.Fatalf("%+v: %d does %+v %v, not %+v %v", w, thread, next, ok, want, does)
		}
	}
	for object, value := range w.vars {
		if got := x.Var(object); got != value {
			t.Fatalf("%+v: variable %d is %d", w, object, got)
		}
	}
	for m, holder := range w.holder {
		if got := x.Holder(m); got != holder {
			t.Fatalf("%+v: %d has the mutex %d", w, got, m)
		}
	}
}

// told is what a drawn tree came to.
type told struct{ made, once, orphans, wrong, marks, claims, over, sleepers, handed int }

// count: one more, if it is so.
func count(n *int, is bool) {
	if is {
		*n++
	}
}

// anyPrefix: of a node, behind one by a drawn byte, ahead of one, or any at all.
func (b pair) anyPrefix(r *rand.Rand) string {
	if len(b.m.nodes) == 0 || r.Intn(12) == 0 {
		list := make([]byte, r.Intn(5))
		for i := range list {
			list[i] = byte(r.Intn(5))
		}
		return string(list)
	}
	prefix := b.m.nodes[r.Intn(len(b.m.nodes))].prefix
	switch r.Intn(6) {
	case 0:
		return prefix + string([]byte{byte(r.Intn(5))})
	case 1:
		return prefix + string([]byte{byte(r.Intn(256))})
	case 2:
		return prefix[:r.Intn(len(prefix)+1)]
	}
	return prefix
}

// anyDraw: a small one, or any number.
func anyDraw(r *rand.Rand) int {
	if r.Intn(2) == 0 {
		return r.Intn(5)
	}
	return int(r.Uint64())
}

// anyDeed does a drawn thing at a drawn prefix; what was claimed is mostly made soon.
func (b pair) anyDeed(t *testing.T, r *rand.Rand, a *told) {
	t.Helper()
	prefix := b.anyPrefix(r)
	switch r.Intn(7) {
	case 0:
		e := b.make(t, prefix, sleep.Set(r.Intn(256)), anyDraw(r))
		_, _, at := b.m.at(prefix)
		count(&a.wrong, at != api.OK)
		count(&a.once, e == api.ErrOnce)
		count(&a.orphans, at == api.OK && e == api.ErrNone)
	case 1, 2, 3:
		count(&a.marks, b.mark(t, prefix, sleep.Set(r.Intn(256))) == api.OK)
	case 4, 5:
		thread, child, e := b.claim(t, prefix, anyDraw(r))
		count(&a.claims, e == api.OK)
		count(&a.over, e != api.OK)
		count(&a.sleepers, child != 0)
		if e == api.OK && r.Intn(4) > 0 {
			e = b.make(t, prefix+string([]byte{byte(thread)}), child, anyDraw(r))
			count(&a.made, e == api.OK)
		}
	default:
		count(&a.handed, b.hand(t, prefix, anyDraw(r)) == api.OK)
	}
}
