package tree_test

import (
	"math"
	"reflect"
	"slices"
	"testing"

	"sinnet/api"
	"sinnet/prog"
	"sinnet/sleep"
	"sinnet/state"
	"sinnet/tree"
)

// checkRefused: that error, and nothing else.
func checkRefused(t *testing.T, p api.Prog, fuel int) {
	t.Helper()
	if x, e := tree.New(p, fuel); x != nil || e != api.ErrArg {
		t.Errorf("New(%+v, %d): %v %v", p, fuel, x, e)
	}
}

func TestWhatNewRefuses(t *testing.T) {
	right := program(code(set(0, 1)), code(store(0, 0)))
	for _, fuel := range []int{-1, 9, math.MinInt, math.MaxInt, 256, 1 << 32} {
		checkRefused(t, right, fuel)
		checkRefused(t, api.Prog{}, fuel)
	}
	for fuel := range api.MaxFuel + 1 {
		begin(t, right, fuel)
		for _, wrong := range []api.Prog{
			{},
			{Vars: 2, Mutexes: 2},
			{Vars: -1, Threads: [][]api.Instr{nil}},
			{Vars: 5, Threads: right.Threads},
			{Vars: 2, Mutexes: 3, Threads: right.Threads},
			{Vars: 2, Mutexes: -1, Threads: right.Threads},
			program(nil, nil, nil, nil, nil),
			program(slices.Repeat(code(set(0, 1)), 9)),
			program(nil, code(api.Instr{})),
			program(code(api.Instr{Kind: 9})),
			program(code(load(0, 2))),
			program(code(store(2, 0))),
			program(code(lock(2))),
			program(code(unlock(-1))),
			program(code(jump(0, 2))),
			program(code(set(0, 128))),
			program(code(add(0, -129))),
			program(code(assert(-1))),
		} {
			checkRefused(t, wrong, fuel)
		}
	}
}

// A nil tree, and one that New did not make, which has a program that may not be.
func TestTreesThatThereAreNoneOf(t *testing.T) {
	var none *tree.Tree
	checkNothing(t, none, api.ErrNil, api.ErrNil)
	checkNothing(t, &tree.Tree{}, api.ErrArg, api.ErrNone)
}

// checkNothing: all calls tell those errors, and nothing else; none of them does anything.
func checkNothing(t *testing.T, x *tree.Tree, noState, noNode api.Errno) {
	t.Helper()
	for _, prefix := range []string{"", "\x00", "\x00\x01", "\xff", deep + deep} {
		for _, n := range []int{0, 1, -1, 255, math.MaxInt, math.MinInt} {
			if e := x.Make(prefix, sleep.Set(n&255), n); e != noState {
				t.Errorf("Make(%q): %v", prefix, e)
			}
			if e := x.Mark(prefix, sleep.Set(n&255)); e != noNode {
				t.Errorf("Mark(%q): %v", prefix, e)
			}
			if thread, child, e := x.Claim(prefix, n); thread != 0 || child != 0 || e != noNode {
				t.Errorf("Claim(%q, %d): %d %v %v", prefix, n, thread, child.All(), e)
			}
			if e := x.Hand(prefix, n); e != noNode {
				t.Errorf("Hand(%q, %d): %v", prefix, n, e)
			}
		}
		if s, row, e := x.At(prefix); s != nil || len(row) != 0 || e != noState {
			t.Errorf("At(%q): %v %v %v", prefix, s, row, e)
		}
		if left, owner, asleep := x.Left(prefix), x.Owner(prefix), x.Asleep(prefix); len(left) != 0 || owner != -1 || asleep != 0 {
			t.Errorf("%q: %v are left, of %d, %v sleep", prefix, left, owner, asleep.All())
		}
	}
	if x.Len() != 0 || x.Claims() != 0 {
		t.Errorf("%d nodes, %d claims", x.Len(), x.Claims())
	}
}

// someNodes: a pair with nodes of which some threads are left, were gone into, and sleep.
func someNodes(t *testing.T) pair {
	t.Helper()
	b := begin(t, program(code(lock(0), store(0, 0), unlock(0)), code(lock(0), load(0, 0)), code(set(0, 1), store(0, 1))), 8)
	b.grow(t, "\x00\x00")
	b.grow(t, "\x02")
	b.mark(t, "", 7)
	b.mark(t, "\x00", 7)
	b.claim(t, "\x00", 1)
	b.make(t, "\x00\x02", 2, 4)
	b.mark(t, "\x00\x02", 5)
	return b
}

// nodesOf: the prefixes of someNodes.
func nodesOf(b pair) []string {
	var list []string
	for _, n := range b.m.nodes {
		list = append(list, n.prefix)
	}
	return list
}

// Rule 3: what answers an error has changed nothing.
func TestErrorsChangeNothing(t *testing.T) {
	b := someNodes(t)
	for range 3 {
		for _, prefix := range []string{"\x00\x01", "\x03", "\xff", "\x01", "\x01\x00", "\x00\x00\x00\x00\x00", "", "\x00", "\x00\x02"} {
			if e := b.x.Make(prefix, 255, 99); e == api.OK {
				t.Errorf("Make(%q)", prefix)
			}
			b.check(t, prefix)
		}
		for _, prefix := range []string{"\x00\x01", "\xff", "\x01", "\x00\x00\x00"} {
			b.checkNone(t, prefix)
		}
		for _, prefix := range []string{"\x00", "\x00\x00", "\x02"} {
			if _, _, e := b.x.Claim(prefix, 1); e != api.ErrNone {
				t.Errorf("Claim(%q): %v", prefix, e)
			}
			b.check(t)
		}
	}
}

// What a tree answers is the caller's: spoiling it changes nothing that the tree tells.
func TestAnswersAreNewMemory(t *testing.T) {
	b := someNodes(t)
	for range 3 {
		for _, prefix := range nodesOf(b) {
			left := b.x.Left(prefix)
			for i := range left[:cap(left)] {
				left[:cap(left)][i] = 3
			}
			b.check(t)
			x, row, e := b.x.At(prefix)
			if e != api.OK {
				t.Fatalf("At(%q): %v", prefix, e)
			}
			for _, thread := range []int{0, 2, 0, 0, 1, 1, 2} {
				x.Step(thread)
			}
			clear(row[:cap(row)])
			b.checkAt(t, prefix)
			b.check(t)
		}
	}
	// And nothing of what is claimed behind all that.
	for _, prefix := range nodesOf(b) {
		for range 4 {
			b.claim(t, prefix, 1)
		}
	}
	b.check(t)
}

// Two answers of one call share no memory.
func TestAnswersAreApart(t *testing.T) {
	b := someNodes(t)
	one, two := b.x.Left(""), b.x.Left("")
	one[0] = 7
	if two[0] == 7 {
		t.Error("lists of those who are left share memory")
	}
	x, row, _ := b.x.At("\x00")
	y, like, _ := b.x.At("\x00")
	x.Step(0)
	row[0].Fail = true
	if y.Var(0) != 0 || like[0].Fail || !reflect.DeepEqual(y, at(t, b, "\x00")) {
		t.Error("states or events share memory")
	}
}

// at: the state of a prefix, that there must be.
func at(t *testing.T, b pair, prefix string) *state.State {
	t.Helper()
	x, _, e := b.x.At(prefix)
	if e != api.OK {
		t.Fatalf("At(%q): %v", prefix, e)
	}
	return x
}

// Rule 5: the program that is handed in stays as it is, its spare room too, and is not kept.
func TestProgramIsNotKept(t *testing.T) {
	spare := code(store(0, 0), load(1, 1), set(1, 99), set(1, 98))
	threads := [][]api.Instr{spare[:2], code(load(0, 0)), code(set(1, 97))}
	p := program(threads[:2]...)
	like := prog.Copy(p)
	x, e := tree.New(p, 8)
	if e != api.OK {
		t.Fatal(e)
	}
	b := pair{x, &model{p: like, fuel: 8}}
	b.grow(t, "\x01\x00")
	b.checkAt(t, "\x01\x00\x00")
	if !prog.Same(p, like) || !slices.Equal(spare[2:], code(set(1, 99), set(1, 98))) || threads[2][0] != set(1, 97) {
		t.Error("changed")
	}
	clear(spare)
	threads[1][0] = lock(0)
	threads[0] = nil
	for _, prefix := range []string{"", "\x00", "\x00\x00", "\x01", "\x01\x00", "\x01\x00\x00"} {
		b.checkAt(t, prefix)
	}
	b.grow(t, "\x00\x01\x00")
	b.mark(t, "\x01", 255)
	b.claim(t, "\x01", 0)
	b.check(t)
}
