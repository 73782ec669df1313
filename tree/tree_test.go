package tree_test

import (
	"math"
	"slices"
	"strings"
	"testing"

	"sinnet/api"
	"sinnet/sleep"
)

// claimed is what a claim is to answer.
type claimed struct {
	draw, thread int
	child        []int
}

// claims of a node, one behind the other, worked out by hand; behind them nobody is left there.
type claims struct {
	p              api.Prog
	prefix         string
	asleep, marked []int
	want           []claimed
}

func claimExamples() map[string]claims {
	w, r, local := code(store(0, 0)), code(load(0, 0)), code(set(0, 1))
	four := program(w, r, r, local)
	section := program(code(lock(0), unlock(0)), code(lock(0)), w)
	all := []int{0, 1, 2, 3, 4, 5, 6, 7}
	return map[string]claims{
		"the chapter's":           {program(w), "", nil, []int{0}, []claimed{{0, 0, nil}}},
		"nobody is marked":        {four, "", nil, nil, nil},
		"rising":                  {four, "", nil, all, []claimed{{0, 0, nil}, {0, 1, nil}, {0, 2, []int{1}}, {0, 3, []int{0, 1, 2}}}},
		"falling":                 {four, "", nil, all, []claimed{{3, 3, nil}, {2, 2, []int{3}}, {1, 1, []int{2, 3}}, {0, 0, []int{3}}}},
		"by draws":                {four, "", nil, all, []claimed{{3, 3, nil}, {3, 0, []int{3}}, {1, 2, []int{3}}, {0, 1, []int{2, 3}}}},
		"two of them":             {four, "", nil, []int{1, 3}, []claimed{{1, 3, nil}, {1, 1, []int{3}}}},
		"one sleeps":              {four, "", []int{3}, all, []claimed{{1, 1, []int{3}}, {1, 2, []int{1, 3}}, {9, 0, []int{3}}}},
		"one that wakes":          {four, "", []int{0}, all, []claimed{{0, 1, nil}, {1, 3, []int{0, 1}}, {0, 2, []int{1, 3}}}},
		"just one that sleeps":    {four, "", []int{2}, []int{2}, nil},
		"all sleep":               {four, "", all, all, nil},
		"others sleep":            {four, "", []int{4, 5, 7}, []int{0, 4, 5, 6}, []claimed{{5, 0, nil}}},
		"one waits":               {section, "\x00", nil, all, []claimed{{1, 2, nil}, {1, 0, []int{2}}}},
		"one waits, and sleeps":   {section, "\x00", []int{1}, all, []claimed{{1, 2, []int{1}}, {1, 0, []int{2}}}},
		"given back":              {section, "\x00\x00", nil, all, []claimed{{1, 2, nil}, {1, 1, []int{2}}}},
		"given back, and taken":   {section, "\x00\x00\x01", nil, all, []claimed{{7, 2, nil}}},
		"one has ended":           {program(w, r, local), "\x01", []int{1}, all, []claimed{{1, 2, nil}, {1, 0, []int{2}}}},
		"all have ended":          {program(w, r), "\x01\x00", nil, all, nil},
		"all wait":                {program(code(lock(0), lock(1)), code(lock(1), lock(0))), "\x00\x01", nil, all, nil},
		"it waits for itself":     {program(code(lock(1), lock(1)), local), "\x00", nil, all, []claimed{{0, 1, nil}}},
		"those of the state":      {program(local, local), "", nil, all, []claimed{{3, 1, nil}, {3, 0, []int{1}}}},
		"those the state has not": {program(local, local), "", nil, []int{2, 3, 4, 5, 6, 7}, nil},
		"no instructions":         {program(nil, nil), "", nil, all, nil},
	}
}

// nodeOf: a pair with the node of that prefix, where these sleep.
func nodeOf(t testing.TB, p api.Prog, fuel int, prefix string, asleep sleep.Set) pair {
	t.Helper()
	b := begin(t, p, fuel)
	if last := len(prefix) - 1; last >= 0 {
		b.grow(t, prefix[:last])
		b.mark(t, prefix[:last], 255)
		b.claim(t, prefix[:last], slices.Index(b.x.Left(prefix[:last]), int(prefix[last])))
	}
	if e := b.make(t, prefix, asleep, 5); e != api.OK {
		t.Fatalf("Make(%.80q): %v", prefix, e)
	}
	return b
}

func TestClaimsByExamples(t *testing.T) {
	for name, c := range claimExamples() {
		t.Run(name, func(t *testing.T) {
			b := nodeOf(t, c.p, 8, c.prefix, sleep.Of(c.asleep...))
			b.mark(t, c.prefix, sleep.Of(c.marked...))
			before := b.x.Claims()
			var left []int
			for _, want := range c.want {
				left = append(left, want.thread)
			}
			for i, want := range c.want {
				if got := b.x.Left(c.prefix); !slices.Equal(got, slices.Sorted(slices.Values(left[i:]))) {
					t.Errorf("ahead of claim %d: %v are left", i, got)
				}
				thread, child, e := b.x.Claim(c.prefix, want.draw)
				if thread != want.thread || !slices.Equal(child.All(), want.child) || e != api.OK {
					t.Errorf("claim %d: %d %v %v, not %+v", i, thread, child.All(), e, want)
				}
			}
			thread, child, e := b.x.Claim(c.prefix, 0)
			if thread != 0 || child != 0 || e != api.ErrNone || len(b.x.Left(c.prefix)) != 0 || b.x.Claims() != before+len(c.want) {
				t.Errorf("behind all: %d %v %v, %v are left, %d claims", thread, child.All(), e, b.x.Left(c.prefix), b.x.Claims())
			}
		})
	}
}

// Of one to four who are left, the one that each draw means; a draw has 64 bits without a sign.
func TestDraws(t *testing.T) {
	local := code(set(0, 1))
	for _, c := range []struct {
		draw int
		at   [4]int // of 1, 2, 3, 4 who are left
	}{
		{0, [4]int{0, 0, 0, 0}},
		{1, [4]int{0, 1, 1, 1}},
		{2, [4]int{0, 0, 2, 2}},
		{3, [4]int{0, 1, 0, 3}},
		{4, [4]int{0, 0, 1, 0}},
		{7, [4]int{0, 1, 1, 3}},
		{255, [4]int{0, 1, 0, 3}},
		{1000000, [4]int{0, 0, 1, 0}},
		{1 << 40, [4]int{0, 0, 1, 0}},
		{math.MaxInt, [4]int{0, 1, 1, 3}},
		{math.MaxInt - 1, [4]int{0, 0, 0, 2}},
		{math.MinInt, [4]int{0, 0, 2, 0}},
		{math.MinInt + 1, [4]int{0, 1, 0, 1}},
		{-1, [4]int{0, 1, 0, 3}},
		{-2, [4]int{0, 0, 2, 2}},
		{-3, [4]int{0, 1, 1, 1}},
		{-4, [4]int{0, 0, 0, 0}},
	} {
		for i, left := range [][]int{{2}, {1, 3}, {0, 2, 3}, {0, 1, 2, 3}} {
			x := begin(t, program(local, local, local, local), 1).x
			x.Make("", ^sleep.Of(left...), 0)
			x.Mark("", 255)
			if thread, _, e := x.Claim("", c.draw); thread != left[c.at[i]] || e != api.OK {
				t.Errorf("of %v by %d: %d %v, not %d", left, c.draw, thread, e, left[c.at[i]])
			}
		}
	}
}

// deep: 32 steps, as many as there can be.
var deep = strings.Repeat("\x00\x01\x02\x03", 8)

func TestAtByExamples(t *testing.T) {
	long := slices.Repeat(code(set(0, 1)), 8)
	full := program(long, long, long, long)
	locks := program(code(lock(0), unlock(0)), code(lock(0), lock(1), lock(1)))
	for _, c := range []struct {
		p      api.Prog
		fuel   int
		prefix string
		want   api.Errno
	}{
		{locks, 8, "", api.OK},
		{locks, 8, "\x00\x00\x01\x01", api.OK},
		{locks, 8, "\x02", api.ErrRange},
		{locks, 8, "\x04", api.ErrRange},
		{locks, 8, "0", api.ErrRange},
		{locks, 8, "\xff", api.ErrRange},
		{locks, 8, "\x80\x00", api.ErrRange},
		{locks, 8, "\x00\x02", api.ErrRange},
		{locks, 8, "\x00\x01", api.ErrState},     // the other one has it
		{locks, 8, "\x01\x01\x01", api.ErrState}, // it has it itself
		{locks, 8, "\x00\x00\x00", api.ErrNone},  // behind its last instruction
		{locks, 1, "\x00\x00", api.ErrNone},      // no fuel
		{locks, 0, "\x00", api.ErrNone},          // none at all
		{locks, 0, "", api.OK},
		{program(nil, nil), 8, "\x01", api.ErrNone}, // no instructions
		{program(nil, nil), 8, "\x02", api.ErrRange},
		{locks, 8, "\x00\x01\x02", api.ErrState}, // the first error
		{locks, 8, "\x00\x02\x01", api.ErrRange},
		{locks, 8, "\x00\x00\x00\x09", api.ErrNone},
		{locks, 8, "\x00\x00\x00\x01\x01", api.ErrNone},
		{full, 8, deep, api.OK},
		{full, 8, deep[:31], api.OK},
		{full, 8, deep + "\x03", api.ErrNone},
		{full, 8, deep + "\x04", api.ErrRange},
		{full, 8, deep + "\x00\xff", api.ErrNone},
		{full, 8, deep + "\xff\x00", api.ErrRange},
		{full, 7, deep, api.ErrNone},
		{full, 8, strings.Repeat(deep, 1000), api.ErrNone},
		{full, 8, strings.Repeat("\x01", 1<<20), api.ErrNone},
		{full, 8, deep + strings.Repeat("\xff", 1<<20), api.ErrRange},
	} {
		b := begin(t, c.p, c.fuel)
		if e := b.checkAt(t, c.prefix); e != c.want {
			t.Errorf("%+v: At(%.80q): %v, not %v", c.p, c.prefix, e, c.want)
		}
		// What may not be is no node's, whatever there is; what may be isn't made without the node ahead.
		want := c.want
		if want == api.OK && c.prefix != "" {
			want = api.ErrNone
		}
		if e := b.make(t, c.prefix, 0, 0); e != want {
			t.Errorf("%+v: Make(%.80q): %v, not %v", c.p, c.prefix, e, want)
		}
		b.check(t, c.prefix)
	}
}

// At tells of prefixes whether their nodes are there or not, and makes none.
func TestAtMakesNoNodes(t *testing.T) {
	b := begin(t, program(code(store(0, 0), store(0, 1)), code(load(0, 0))), 8)
	prefixes := []string{"", "\x00", "\x01", "\x00\x00", "\x00\x01", "\x01\x00", "\x00\x00\x01", "\x01\x00\x00", "\x01\x01", "\x02"}
	for _, grown := range []string{"", "\x00", "\x01\x00"} {
		for _, prefix := range prefixes {
			b.checkAt(t, prefix)
			b.check(t, prefixes...)
		}
		b.grow(t, grown)
	}
	if b.x.Len() != 4 {
		t.Errorf("%d nodes", b.x.Len())
	}
}

// One node behind the other, as deep as there can be.
func TestTheDeepestNodes(t *testing.T) {
	long := slices.Repeat(code(store(0, 0)), 8)
	b := begin(t, program(long, long, long, long), 8)
	b.grow(t, deep)
	b.check(t, deep+"\x00", deep+"\xff")
	if b.x.Len() != 33 || b.x.Claims() != 32 || b.x.Owner(deep) != 32 {
		t.Errorf("%d nodes, %d claims, the last one of %d", b.x.Len(), b.x.Claims(), b.x.Owner(deep))
	}
	if e := b.mark(t, deep, 255); e != api.OK || len(b.x.Left(deep)) != 0 {
		t.Errorf("%v %v", e, b.x.Left(deep))
	}
	for _, last := range []string{"\x00", "\x03", "\x04", "\xff"} {
		b.make(t, deep+last, 0, 0)
	}
	b.check(t)
}

func TestMakeByExamples(t *testing.T) {
	w, r := code(store(0, 0), store(0, 0)), code(load(0, 0))
	b := begin(t, program(w, r, code(lock(0)), code(lock(0))), 8)
	for i, c := range []struct {
		prefix string
		want   api.Errno
	}{
		{"\x00", api.ErrNone}, // the node ahead is not there
		{"\x00\x00", api.ErrNone},
		{"\x00\x04", api.ErrRange}, // At's error comes first
		{"\x01\x01", api.ErrNone},
		{"\x02\x03", api.ErrState},
		{"", api.OK},
		{"", api.ErrOnce},
		{"\x00", api.ErrNone}, // it was not gone into
		{"\x04", api.ErrRange},
		{"\xff", api.ErrRange},
		{"mark and claim 0", api.OK},
		{"\x01", api.ErrNone},     // another one was gone into
		{"\x00\x00", api.ErrNone}, // the node ahead was claimed, but not made
		{"\x00", api.OK},
		{"\x00", api.ErrOnce},
		{"", api.ErrOnce},
		{"\x00\x00", api.ErrNone},     // the first byte was gone into, the last one not
		{"\x00\x00\x00", api.ErrNone}, // behind its last instruction
		{"mark and claim 2", api.OK},
		{"\x02\x03", api.ErrState},
		{"\x02", api.OK},
		{"\x02\x03", api.ErrState}, // the node ahead is there, but that one may not
		{"\x02\x02", api.ErrNone},
		{"\x02\x05", api.ErrRange},
		{"\x02\x00", api.ErrNone},
		{"\x02", api.ErrOnce},
	} {
		if thread, ok := strings.CutPrefix(c.prefix, "mark and claim "); ok {
			b.mark(t, "", sleep.Of(int(thread[0]-'0')))
			b.claim(t, "", 0)
		} else if e := b.make(t, c.prefix, sleep.Set(i%16)<<4, i); e != c.want {
			t.Errorf("%d: Make(%.80q): %v, not %v", i, c.prefix, e, c.want)
		}
		b.check(t, c.prefix)
	}
	if b.x.Len() != 3 || b.x.Claims() != 2 || b.x.Owner("") != 5 || b.x.Asleep("\x02") != 4<<4 {
		t.Errorf("%d nodes, %d claims, of %d, %v sleep", b.x.Len(), b.x.Claims(), b.x.Owner(""), b.x.Asleep("\x02").All())
	}
}

// A node is made by each of those who were gone into, in any order, long after, and by none else.
func TestMakeByEachClaim(t *testing.T) {
	local := code(set(0, 1))
	for first := range 4 {
		for second := range 4 {
			b := begin(t, program(local, local, local, local), 8)
			b.make(t, "", 0, 0)
			b.mark(t, "", sleep.Of(first, second))
			for range 4 {
				b.claim(t, "", 1)
			}
			for last := range 256 {
				want := api.ErrRange
				switch {
				case last == first || last == second:
					want = api.OK
				case last < 4:
					want = api.ErrNone
				}
				if e := b.make(t, string([]byte{byte(last)}), 0, last); e != want {
					t.Errorf("%d and %d were gone into: Make(%d): %v, not %v", first, second, last, e, want)
				}
			}
			b.check(t)
		}
	}
}

// Of any set those who may are to be gone into, but for those who sleep.
func TestMarkOfEverySet(t *testing.T) {
	w, local := code(store(0, 0)), code(set(0, 1))
	section := code(lock(0), unlock(0))
	for _, c := range []struct {
		p      api.Prog
		fuel   int
		prefix string
		may    []int
	}{
		{program(w, w, local, local), 8, "", []int{0, 1, 2, 3}},
		{program(w, local), 8, "", []int{0, 1}},
		{program(w, w, local, local), 8, "\x02\x00", []int{1, 3}},
		{program(section, section, section), 8, "\x01", []int{1}},
		{program(section, section, local), 8, "\x00\x00", []int{1, 2}},
		{program(code(lock(0), lock(0)), section, local), 8, "\x00", []int{2}},
		{program(section, section), 1, "\x00", nil},
		{program(w, w), 0, "", nil},
		{program(nil, w, nil), 8, "", []int{1}},
	} {
		for _, asleep := range []sleep.Set{0, 1, 2, 4, 8, 5, 10, 14, 15, 240, 255} {
			for set := range 256 {
				b := nodeOf(t, c.p, c.fuel, c.prefix, asleep)
				if e := b.mark(t, c.prefix, sleep.Set(set)); e != api.OK {
					t.Fatalf("Mark(%.80q, %d): %v", c.prefix, set, e)
				}
				var want []int
				for _, thread := range c.may {
					if set>>thread%2 == 1 && asleep>>thread%2 == 0 {
						want = append(want, thread)
					}
				}
				if got := b.x.Left(c.prefix); !slices.Equal(got, want) {
					t.Fatalf("%+v: at %.80q, where %v sleep, of %v: %v, not %v", c.p, c.prefix, asleep.All(), sleep.Set(set).All(), got, want)
				}
				b.check(t)
			}
		}
	}
}

// Marks add up; who was gone into isn't left again, who sleeps never is.
func TestMarksAddUp(t *testing.T) {
	local := code(set(0, 1))
	x := begin(t, program(local, local, local, local), 8).x
	x.Make("", sleep.Of(2), 0)
	for _, c := range []struct {
		set   sleep.Set
		claim bool
		left  []int
	}{
		{sleep.Of(), false, nil},
		{sleep.Of(2), false, nil},
		{sleep.Of(3), false, []int{3}},
		{sleep.Of(3), false, []int{3}},
		{sleep.Of(), false, []int{3}},
		{sleep.Of(1, 4), false, []int{1, 3}},
		{sleep.Of(5, 6, 7), false, []int{1, 3}},
		{sleep.Of(2, 3), true, []int{3}},
		{sleep.Of(1), false, []int{3}},
		{sleep.Of(1, 2, 3), true, nil},
		{255, false, []int{0}},
		{255, true, nil},
		{255, false, nil},
	} {
		if e := x.Mark("", c.set); e != api.OK {
			t.Errorf("Mark(%v): %v", c.set.All(), e)
		}
		if c.claim {
			x.Claim("", 0)
		}
		if got := x.Left(""); !slices.Equal(got, c.left) {
			t.Errorf("behind Mark(%v), claim %v: %v, not %v", c.set.All(), c.claim, got, c.left)
		}
	}
	if x.Claims() != 3 {
		t.Errorf("%d claims", x.Claims())
	}
}

// Owners are any numbers; each node has one, its last one, whatever else is done.
func TestOwners(t *testing.T) {
	numbers := []int{0, 1, -1, 63, 64, -2, math.MaxInt, math.MinInt, 1 << 20, 7, 7}
	w := code(store(0, 0))
	for _, first := range numbers {
		b := begin(t, program(w, w), 8)
		b.make(t, "", 0, first)
		if got := b.x.Owner(""); got != first {
			t.Errorf("of %d: %d", first, got)
		}
		b.mark(t, "", 3)
		b.claim(t, "", 1)
		b.make(t, "\x01", 0, first-1)
		for _, next := range numbers {
			if e := b.hand(t, "\x01", next); e != api.OK || b.x.Owner("\x01") != next || b.x.Owner("") != first {
				t.Errorf("handed to %d: %v, of %d, the root of %d", next, e, b.x.Owner("\x01"), b.x.Owner(""))
			}
			b.make(t, "\x01", 9, 99)
			b.mark(t, "\x01", 255)
			b.check(t, "\x00", "\x02")
		}
		b.claim(t, "\x01", 0)
		b.claim(t, "\x01", 0)
		b.check(t)
	}
}

// Prefixes of which there is no node: ahead of the first one, beside some, and those that may not be.
func TestPrefixesWithoutNodes(t *testing.T) {
	prefixes := []string{"", "\x00", "\x01", "\x00\x00", "\x00\x01", "\x01\x00", "\x02", "\xff", "\x00\xff", deep, strings.Repeat("\x00", 1<<16), "\x00\x00\x00\x00"}
	b := begin(t, program(code(store(0, 0), store(0, 1)), code(load(0, 0))), 8)
	for _, grown := range []string{"", "\x01", "\x00\x01"} {
		for _, prefix := range prefixes {
			if b.m.find(prefix) != nil {
				continue
			}
			b.checkNone(t, prefix)
		}
		b.grow(t, grown)
		b.check(t, prefixes...)
	}
}

// checkNone: of a prefix of which there is no node, all tell that, and change nothing.
func (b pair) checkNone(t *testing.T, prefix string) {
	t.Helper()
	for _, n := range []int{0, 1, 255} {
		if e := b.x.Mark(prefix, sleep.Set(n)); e != api.ErrNone {
			t.Errorf("Mark(%.80q): %v", prefix, e)
		}
		if thread, child, e := b.x.Claim(prefix, n); thread != 0 || child != 0 || e != api.ErrNone {
			t.Errorf("Claim(%.80q): %d %v %v", prefix, thread, child.All(), e)
		}
		if e := b.x.Hand(prefix, n); e != api.ErrNone {
			t.Errorf("Hand(%.80q): %v", prefix, e)
		}
	}
	if left, owner, asleep := b.x.Left(prefix), b.x.Owner(prefix), b.x.Asleep(prefix); len(left) != 0 || owner != -1 || asleep != 0 {
		t.Errorf("%.80q: %v are left, of %d, %v sleep", prefix, left, owner, asleep.All())
	}
	b.check(t, prefix)
}

// Who sleeps at a node is what it was made with, those that the state has not, too.
func TestAsleepOfEverySet(t *testing.T) {
	local := code(set(0, 1))
	for bits := range 256 {
		set := sleep.Set(bits)
		b := nodeOf(t, program(local, local), 8, "\x01", set)
		b.mark(t, "\x01", 255)
		b.claim(t, "\x01", 0)
		if got := b.x.Asleep("\x01"); got != set || b.x.Asleep("") != 0 {
			t.Errorf("%v sleep, not %v", got.All(), set.All())
		}
		if got := b.x.Make("\x01", ^set, 0); got != api.ErrOnce || b.x.Asleep("\x01") != set {
			t.Errorf("made again: %v, %v sleep", got, b.x.Asleep("\x01").All())
		}
	}
}

// Two trees of one program know nothing of one another.
func TestTreesAreApart(t *testing.T) {
	p := program(code(store(0, 0)), code(load(0, 0)))
	one, two := begin(t, p, 8), begin(t, p, 8)
	one.grow(t, "\x00\x01")
	two.check(t, "", "\x00", "\x00\x01")
	two.make(t, "", 1, 3)
	two.mark(t, "", 2)
	one.check(t)
	two.check(t, "\x00")
}
