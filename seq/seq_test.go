package seq_test

import (
	"math"
	"math/rand"
	"slices"
	"testing"

	"sinnet/api"
	"sinnet/foata"
	"sinnet/seq"
	"sinnet/state"
	"sinnet/walk"
)

func set(r int, n int64) api.Instr { return api.Instr{Kind: api.OSet, R: r, N: n} }
func load(r, x int) api.Instr      { return api.Instr{Kind: api.OLoad, R: r, X: x} }
func store(r, x int) api.Instr     { return api.Instr{Kind: api.OStore, R: r, X: x} }
func lock(m int) api.Instr         { return api.Instr{Kind: api.OLock, X: m} }
func unlock(m int) api.Instr       { return api.Instr{Kind: api.OUnlock, X: m} }
func jump(r, x int) api.Instr      { return api.Instr{Kind: api.OJump, R: r, X: x} }
func assert(r int) api.Instr       { return api.Instr{Kind: api.OAssert, R: r} }

// code: a thread's instructions.
func code(list ...api.Instr) []api.Instr { return list }

// program: threads over two variables and two mutexes.
func program(threads ...[]api.Instr) api.Prog {
	return api.Prog{Vars: 2, Mutexes: 2, Threads: threads}
}

// locals: threads of so many local steps each.
func locals(sizes ...int) api.Prog { return each(set(0, 1), sizes...) }

// each: threads that do one instruction so many times each.
func each(in api.Instr, sizes ...int) api.Prog {
	p := program()
	for _, size := range sizes {
		p.Threads = append(p.Threads, slices.Repeat(code(in), size))
	}
	return p
}

// example is a program, and what its exploration without an order tells, worked out by hand.
type example struct {
	p                          api.Prog
	fuel, nodes, runs, blocked int
}

func examples() map[string]example {
	w, r, local := code(store(0, 0)), code(load(0, 0)), code(set(0, 1))
	take := code(lock(0), store(0, 0), unlock(0))
	return map[string]example{
		"a thread that has nothing":      {program(nil), 8, 1, 1, 0},
		"four that have nothing":         {program(nil, nil, nil, nil), 8, 1, 1, 0},
		"no fuel":                        {program(take, take, w, r), 0, 1, 1, 0},
		"one step":                       {program(w), 8, 2, 1, 0},
		"eight steps, fuel for five":     {locals(8), 5, 6, 1, 0},
		"a loop that fuel ends":          {program(code(set(0, 1), jump(0, 0))), 8, 9, 1, 0},
		"two that read":                  {program(r, r), 8, 3, 1, 0},
		"two that write":                 {program(w, w), 8, 5, 2, 0},
		"two that write, not the same":   {program(w, code(store(0, 1))), 8, 3, 1, 0},
		"one that has nothing between":   {program(w, nil, w), 8, 5, 2, 0},
		"one writes, one reads":          {program(w, r), 8, 5, 2, 0},
		"one writes, two read":           {program(w, r, r), 8, 12, 4, 0},
		"three that write":               {program(w, w, w), 8, 16, 6, 0},
		"two writes each, fuel for one":  {each(store(0, 0), 2, 2), 1, 5, 2, 0},
		"three of three local steps":     {locals(3, 3, 3), 8, 10, 1, 0},
		"three of eight, fuel for three": {locals(8, 8, 8), 3, 10, 1, 0},
		"two that fail":                  {program(code(assert(0)), code(unlock(0))), 8, 3, 1, 0},
		// The race asks for all who may at the root: behind the third one's step the two sleep.
		"two write, one does something local":      {program(w, w, local), 8, 8, 2, 1},
		"two that take a mutex, and give it back":  {program(take, take), 8, 13, 2, 0},
		"two mutexes, each its own":                {program(code(lock(0)), code(lock(1))), 8, 3, 1, 0},
		"two mutexes, in unlike orders":            {program(code(lock(0), lock(1), unlock(1), unlock(0)), code(lock(1), lock(0), unlock(0), unlock(1))), 8, 19, 3, 1},
		"a mutex taken twice":                      {program(code(lock(0), lock(0))), 8, 2, 1, 0},
		"a mutex that nobody gives":                {program(code(lock(0)), code(lock(0))), 8, 3, 2, 0},
		"one takes, three wait":                    {program(code(lock(1)), code(lock(1)), code(lock(1)), code(lock(1))), 8, 5, 4, 0},
		"no fuel to give it back":                  {program(take, take), 2, 5, 2, 0},
		"one waits for itself, one has ended long": {program(code(lock(0), lock(0)), nil, w), 8, 3, 1, 0},
	}
}

// orders: none, some that end early, some that go on behind all choices, large numbers.
func orders() [][]uint8 {
	return [][]uint8{
		nil, {}, {0}, {1}, {2}, {3}, {255}, {0, 1}, {1, 0, 2, 1}, {0, 0, 0, 1}, {3, 1, 2, 0, 1, 2, 3},
		slices.Repeat([]uint8{1}, 50), slices.Repeat([]uint8{2}, 50), slices.Repeat([]uint8{255}, 300),
		slices.Repeat([]uint8{254, 3, 128, 7, 0}, 100), slices.Repeat([]uint8{0}, 1000),
	}
}

func TestByExamples(t *testing.T) {
	for name, c := range examples() {
		for _, budget := range []int{c.nodes, c.nodes + 1, api.MaxBudget, math.MaxInt} {
			got, e := seq.Explore(c.p, c.fuel, budget, nil)
			if e != api.OK || got.Nodes != c.nodes || got.Runs != c.runs || got.Blocked != c.blocked || len(got.Keys) != c.runs || !got.Complete {
				t.Errorf("%s: budget %d: %#v %v", name, budget, got, e)
			}
		}
	}
}

// Keys to the letter, rising by bytes, not by the order in which ends come.
func TestKeysByExamples(t *testing.T) {
	w, r := code(store(0, 0)), code(load(0, 0))
	for _, c := range []struct {
		p    api.Prog
		want []string
	}{
		{program(nil), []string{"\x00"}},
		{program(w), []string{"\x01\x0c\x00"}},
		{program(code(lock(0), lock(0))), []string{"\x01\x10\x00"}},
		{locals(1, 1), []string{"\x02\x04\x05\x00"}},
		{program(w, w), []string{"\x01\x0c\x01\x0d\x00", "\x01\x0d\x01\x0c\x00"}},
		{program(w, r), []string{"\x01\x09\x01\x0c\x00", "\x01\x0c\x01\x09\x00"}},
		{program(w, r, r), []string{"\x01\x09\x01\x0c\x01\x0a\x00", "\x01\x0a\x01\x0c\x01\x09\x00", "\x01\x0c\x02\x09\x0a\x00", "\x02\x09\x0a\x01\x0c\x00"}},
		{program(code(assert(1)), code(lock(1), lock(1))), []string{"\x02\x84\x31\x00"}},
	} {
		for _, order := range orders() {
			if got, e := seq.Explore(c.p, 8, 100, order); e != api.OK || !slices.Equal(got.Keys, c.want) {
				t.Errorf("Explore(%+v), order %v: %x %v, not %x", c.p, order, got.Keys, e, c.want)
			}
		}
	}
}

// endsOf: by their keys, the ends as they come: those that one node more brings.
func endsOf(t *testing.T, p api.Prog, fuel int, order []uint8) []string {
	t.Helper()
	var list, last []string
	for budget := 1; ; budget++ {
		got, e := seq.Explore(p, fuel, budget, order)
		if e != api.OK || len(got.Keys) > len(last)+1 {
			t.Fatalf("order %v, budget %d: %#v %v", order, budget, got, e)
		}
		for _, key := range got.Keys {
			if !slices.Contains(last, key) {
				list = append(list, key)
			}
		}
		if last = got.Keys; got.Complete {
			return list
		}
	}
}

// writes: the key of writes of the variable 0 by these threads, one behind the other.
func writes(threads string) string {
	var key []byte
	for _, digit := range []byte(threads) {
		key = append(key, 1, digit-'0'+4*api.EWrite)
	}
	return string(append(key, 0))
}

// The order is asked where several may be chosen, and nowhere else: which of those who may is to be gone into, and which of those left comes first.
func TestOrderByExamples(t *testing.T) {
	for _, c := range []struct {
		order []uint8
		want  []string
	}{
		{nil, []string{"012", "021", "102", "120", "201", "210"}},
		{[]uint8{0, 0, 0, 0, 0}, []string{"012", "021", "102", "120", "201", "210"}},
		{[]uint8{1}, []string{"102", "120", "012", "021", "201", "210"}},
		{[]uint8{2}, []string{"201", "210", "012", "021", "102", "120"}},
		{[]uint8{0, 1}, []string{"021", "012", "102", "120", "201", "210"}},
		{[]uint8{0, 0, 1}, []string{"012", "021", "201", "210", "102", "120"}},
		{[]uint8{0, 0, 0, 1}, []string{"012", "021", "120", "102", "201", "210"}},
		{[]uint8{0, 0, 0, 0, 1}, []string{"012", "021", "102", "120", "210", "201"}},
		{[]uint8{2, 1}, []string{"210", "201", "012", "021", "102", "120"}},
		{[]uint8{2, 1, 1, 1}, []string{"210", "201", "120", "102", "012", "021"}},
		{[]uint8{2, 1, 1, 1, 1}, []string{"210", "201", "120", "102", "021", "012"}},
		{[]uint8{2, 1, 1, 1, 1, 1, 1, 1}, []string{"210", "201", "120", "102", "021", "012"}},
		{[]uint8{4, 7}, []string{"120", "102", "012", "021", "201", "210"}},
		{[]uint8{254, 255}, []string{"210", "201", "012", "021", "102", "120"}},
		{[]uint8{255, 254}, []string{"012", "021", "102", "120", "201", "210"}},
	} {
		var want []string
		for _, threads := range c.want {
			want = append(want, writes(threads))
		}
		if got := endsOf(t, each(store(0, 0), 1, 1, 1), 8, c.order); !slices.Equal(got, want) {
			t.Errorf("order %v: %x, not %x", c.order, got, want)
		}
	}
}

// Where one alone may, or is awake, or is left, nothing is chosen: so the next number stays for the next choice.
func TestOrderIsNotAskedOfOne(t *testing.T) {
	w, local := store(0, 0), set(0, 1)
	for _, c := range []struct {
		p     api.Prog
		order []uint8
		want  []string
	}{
		{each(w, 1, 1), nil, []string{"01", "10"}},
		{each(w, 1, 1), []uint8{1}, []string{"10", "01"}},
		{each(w, 1, 1), []uint8{0, 1, 1, 1}, []string{"01", "10"}},
		{each(w, 2, 1), []uint8{0, 1}, []string{"010", "001", "100"}},
		{each(w, 2, 1), []uint8{1, 1}, []string{"100", "010", "001"}},
		{each(w, 2, 1), []uint8{1, 0, 1}, []string{"100", "001", "010"}},
	} {
		var want []string
		for _, threads := range c.want {
			want = append(want, writes(threads))
		}
		if got := endsOf(t, c.p, 8, c.order); !slices.Equal(got, want) {
			t.Errorf("%+v, order %v: %x, not %x", c.p, c.order, got, want)
		}
	}
	// The one waits for itself soon: from there on the other one's steps are no choices.
	alone := program(code(local, local, local, lock(0), w, unlock(0)), code(lock(1), lock(1)))
	m := checkModel(t, alone, 8, 1000, []uint8{1})
	if !slices.Equal(m.asked, []int{2}) || m.told.Nodes != 8 {
		t.Errorf("asked of %v: %#v", m.asked, m.told)
	}
	if got := m.rows[:3]; !slices.Equal(got, []string{"", "\x01", "\x01\x00"}) {
		t.Errorf("%q", got)
	}
}

// Deeper ahead of broader: with the root's others left, what is left behind its first one comes first.
func TestDeeperAheadOfBroader(t *testing.T) {
	p := each(store(0, 0), 1, 1, 1)
	for budget, runs := range []int{0, 0, 0, 0, 1, 1, 2, 2, 2, 3, 3, 4, 4, 4, 5, 5, 6, 6, 6} {
		got, e := seq.Explore(p, 8, budget, nil)
		if want := min(max(budget, 1), 16); e != api.OK || got.Nodes != want || got.Runs != runs || len(got.Keys) != runs || got.Complete != (budget >= 16) {
			t.Errorf("budget %d: %#v %v", budget, got, e)
		}
	}
	got, e := seq.Explore(p, 8, 6, nil)
	if want := []string{writes("012"), writes("021")}; e != api.OK || !slices.Equal(got.Keys, want) {
		t.Errorf("%x %v, not %x", got.Keys, e, want)
	}
}

// checkBudgets holds each budget, from below 1 to above all nodes, against the words, and what is cut off against the classes.
func checkBudgets(t *testing.T, p api.Prog, fuel int, order []uint8, classes []string) {
	t.Helper()
	all := checkModel(t, p, fuel, math.MaxInt, order).told
	if !all.Complete || all.Runs != len(classes) || !slices.Equal(all.Keys, classes) {
		t.Fatalf("%+v, order %v: %#v, not %x", p, order, all, classes)
	}
	for budget := -1; budget <= all.Nodes+2; budget++ {
		got := checkModel(t, p, fuel, budget, order).told
		if got.Nodes != min(max(budget, 1), all.Nodes) || got.Complete != (max(budget, 1) >= all.Nodes) {
			t.Fatalf("%+v, order %v, budget %d: %#v of %d nodes", p, order, budget, got, all.Nodes)
		}
		checkCutOff(t, got, classes)
	}
	for _, budget := range []int{math.MinInt, math.MinInt + 1, -api.MaxBudget, api.MaxBudget, api.MaxBudget + 1} {
		checkModel(t, p, fuel, budget, order)
	}
}

// checkCutOff: each key is a class, they rise, each is there once, and there are as many ends.
func checkCutOff(t *testing.T, got seq.Report, classes []string) {
	t.Helper()
	if got.Runs != len(got.Keys) {
		t.Fatalf("%d runs, %d keys", got.Runs, len(got.Keys))
	}
	for i, key := range got.Keys {
		if i > 0 && got.Keys[i-1] >= key {
			t.Fatalf("%x stands ahead of %x", got.Keys[i-1], key)
		}
		if _, ok := slices.BinarySearch(classes, key); !ok {
			t.Fatalf("%x is no class", key)
		}
	}
}

func TestBudgets(t *testing.T) {
	for name, c := range examples() {
		t.Run(name, func(t *testing.T) {
			sum, e := walk.All(c.p, c.fuel, api.MaxBudget)
			if e != api.OK {
				t.Fatal(e)
			}
			for _, order := range orders() {
				checkBudgets(t, c.p, c.fuel, order, sum.Keys)
			}
		})
	}
}

func TestDrawnPrograms(t *testing.T) {
	r := rand.New(rand.NewSource(9))
	var fewer, blocked, stuck, unlike int
	for range 4000 {
		p, fuel := anyProgram(r), r.Intn(9)
		sum, e := walk.All(p, fuel, 1500)
		if e != api.OK {
			continue
		}
		first := checkModel(t, p, fuel, sum.Prefixes, nil).told
		for range 5 {
			order := anyOrder(r)
			got := checkModel(t, p, fuel, sum.Prefixes, order).told
			if !got.Complete || !slices.Equal(got.Keys, sum.Keys) || got.Runs != len(sum.Keys) {
				t.Fatalf("%+v, fuel %d, order %v: %#v, not %x", p, fuel, order, got, sum.Keys)
			}
			if got.Nodes != first.Nodes {
				unlike++
			}
			cut := checkModel(t, p, fuel, r.Intn(got.Nodes+2), order).told
			checkCutOff(t, cut, sum.Keys)
		}
		if n, _ := walk.Deadlocks(p, fuel, 1500); n > 0 {
			stuck++
		}
		if first.Blocked > 0 {
			blocked++
		}
		if len(sum.Keys) > 1 && first.Nodes < sum.Prefixes {
			fewer++
		}
	}
	if fewer < 600 || blocked < 200 || stuck < 350 || unlike < 2000 {
		t.Errorf("%d that need fewer nodes, %d with blocked ones, %d that may wait, %d that hang on the order: too few", fewer, blocked, stuck, unlike)
	}
}

// Each budget of some drawn programs, with drawn orders.
func TestDrawnBudgets(t *testing.T) {
	r := rand.New(rand.NewSource(90))
	for range 150 {
		p, fuel := anyProgram(r), r.Intn(9)
		if sum, e := walk.All(p, fuel, 300); e == api.OK {
			checkBudgets(t, p, fuel, anyOrder(r), sum.Keys)
		}
	}
}

// What of an order is asked: its numbers modulo how many there are, and none behind the last choice.
func TestWhatOfAnOrderIsAsked(t *testing.T) {
	r := rand.New(rand.NewSource(99))
	several := 0
	for range 1000 {
		p, fuel, order := anyProgram(r), r.Intn(9), anyOrder(r)
		if _, e := walk.All(p, fuel, 800); e != api.OK {
			continue
		}
		m := checkModel(t, p, fuel, math.MaxInt, order)
		asked := min(len(m.asked), len(order))
		small, large := slices.Clone(order[:asked]), slices.Clone(order[:asked])
		for i, many := range m.asked[:asked] {
			small[i] %= uint8(many)
			large[i] += uint8((255 - int(large[i])) / many * many)
		}
		// An order that ends goes on as zeros would.
		longer := append(slices.Clone(order), make([]uint8, len(m.asked)-asked)...)
		longer = append(longer, 1, 2, 3, 255)
		for _, like := range [][]uint8{small, large, longer} {
			for _, budget := range []int{1, m.told.Nodes / 2, m.told.Nodes - 1, m.told.Nodes} {
				a, _ := seq.Explore(p, fuel, budget, order)
				if b, e := seq.Explore(p, fuel, budget, like); e != api.OK || !same(a, b) {
					t.Fatalf("%+v, fuel %d, budget %d: order %v: %#v, order %v: %#v %v", p, fuel, budget, order, a, like, b, e)
				}
			}
		}
		if asked > 3 {
			several++
		}
	}
	if several < 100 {
		t.Errorf("%d with several choices: too few", several)
	}
}

// Threads that never meet: one class, one node a step and one more, whatever the order.
func TestThreadsThatNeverMeet(t *testing.T) {
	for _, sizes := range [][]int{{0}, {8}, {1, 8}, {8, 8}, {2, 0, 5}, {3, 3, 3}, {8, 8, 8, 8}} {
		nodes := 1
		for _, size := range sizes {
			nodes += size
		}
		for _, order := range orders() {
			got, e := seq.Explore(locals(sizes...), 8, api.MaxBudget, order)
			if e != api.OK || got.Nodes != nodes || got.Runs != 1 || len(got.Keys) != 1 || got.Blocked != 0 || !got.Complete {
				t.Errorf("%v, order %v: %#v %v", sizes, order, got, e)
			}
		}
	}
}

// Threads that write one variable in each step: each prefix is a node, each execution a class.
func TestThreadsThatAlwaysMeet(t *testing.T) {
	for _, sizes := range [][]int{{8}, {1, 8}, {5, 5}, {3, 3, 3}, {2, 2, 2, 2}, {2, 0, 4}} {
		p := each(store(1, 1), sizes...)
		sum, e := walk.All(p, 8, api.MaxBudget)
		if e != api.OK {
			t.Fatal(e)
		}
		for _, order := range orders() {
			got, e := seq.Explore(p, 8, api.MaxBudget, order)
			if e != api.OK || got.Nodes != sum.Prefixes || got.Runs != sum.Runs || !slices.Equal(got.Keys, sum.Keys) || got.Blocked != 0 || !got.Complete {
				t.Errorf("%v, order %v: %d nodes, %d runs, %v", sizes, order, got.Nodes, got.Runs, e)
			}
		}
	}
}

// isClass: is there an execution with that key? Its levels, one behind the other, are one.
func isClass(p api.Prog, fuel int, key string) bool {
	levels, e := foata.Read(key)
	if e != api.OK {
		return false
	}
	var threads []int
	for _, ev := range foata.Row(levels) {
		threads = append(threads, ev.Thread)
	}
	end, row, e := state.Replay(p, fuel, threads)
	return e == api.OK && len(end.All()) == 0 && foata.Key(row) == key
}

// Programs that have far more nodes than anybody could make: what is cut off is classes.
func TestFarTooMany(t *testing.T) {
	waits := slices.Repeat(code(lock(0), unlock(0)), 4)
	mixed := code(lock(1), load(0, 0), store(0, 1), unlock(1), load(1, 1), store(1, 0), assert(1), jump(0, 0))
	for _, p := range []api.Prog{each(store(0, 0), 8, 8, 8, 8), program(waits, waits, waits, waits), program(mixed, mixed, mixed, mixed)} {
		for _, order := range orders() {
			for _, budget := range []int{math.MinInt, -1, 0, 1, 2, 20, 2000} {
				got, e := seq.Explore(p, 8, budget, order)
				if e != api.OK || got.Complete || got.Nodes != max(budget, 1) {
					t.Fatalf("order %v, budget %d: %d nodes, %v, %v", order, budget, got.Nodes, got.Complete, e)
				}
				checkCutOff(t, got, got.Keys)
				for _, key := range got.Keys {
					if !isClass(p, 8, key) {
						t.Fatalf("order %v, budget %d: %x is no class", order, budget, key)
					}
				}
				if budget == 2000 && got.Runs < 10 {
					t.Errorf("order %v: %d runs: too few", order, got.Runs)
				}
			}
		}
	}
}
