package machine_test

import (
	"math"
	"slices"
	"testing"

	"sinnet/api"
	"sinnet/machine"
)

// writers: threads that write one variable so many times each.
func writers(sizes ...int) api.Prog {
	p := program()
	for _, size := range sizes {
		p.Threads = append(p.Threads, slices.Repeat(code(store(0, 0)), size))
	}
	return p
}

// writes: the key of writes of the variable 0 by these threads, one behind the other.
func writes(threads string) string {
	var key []byte
	for _, digit := range []byte(threads) {
		key = append(key, 1, digit-'0'+4*api.EWrite)
	}
	return string(append(key, 0))
}

// late: a thread whose first step races with nobody's, and whose second one writes what the thread 0 writes: so it is behind two steps that the empty prefix is asked for more.
func late() api.Prog { return program(code(store(0, 0)), code(set(0, 1), store(0, 0))) }

// The chapter's: whatever the steps are, two keys.
func TestChapterExample(t *testing.T) {
	for workers := 1; workers <= 5; workers++ {
		for name, pick := range orders() {
			b := begin(t, writers(1, 1), 8, workers, api.MaxBudget)
			b.run(t, name, pick)
			if want := []string{writes("01"), writes("10")}; !slices.Equal(b.keys(), want) || !b.x.Complete() {
				t.Errorf("%s, %d workers: %x, not %x", name, workers, b.keys(), want)
			}
		}
	}
}

// P14.1: at its beginning a machine has one node, that is worker 0's work, or all there is to tell.
func TestBegun(t *testing.T) {
	w, local := code(store(0, 0)), code(set(0, 1))
	for _, c := range []struct {
		name string
		p    api.Prog
		fuel int
		key  string // empty: there is work
	}{
		{"a thread that has nothing", program(nil), 8, "\x00"},
		{"four that have nothing", program(nil, nil, nil, nil), 8, "\x00"},
		{"no fuel", program(w, w, local), 0, "\x00"},
		{"one step", program(w), 8, ""},
		{"one has nothing", program(nil, local), 1, ""},
		{"two that write", program(w, w), 8, ""},
		{"they wait soon", program(code(lock(0), lock(0)), code(lock(0))), 8, ""},
	} {
		for _, workers := range []int{1, 2, 3, 63, 64} {
			for _, budget := range []int{1, 2, api.MaxBudget - 1, api.MaxBudget} {
				b := begin(t, c.p, c.fuel, workers, budget)
				var want []string
				if c.key != "" {
					want = []string{c.key}
				}
				x := b.x
				if x.Nodes() != 1 || x.Claims() != 0 || x.Blocked() != 0 || x.Workers() != workers || x.Halted() != (c.key != "") || x.Complete() != (c.key != "") {
					t.Errorf("%s, %d workers, budget %d: %d nodes, %d claims, %d blocked, %d workers, %v, %v", c.name, workers, budget, x.Nodes(), x.Claims(), x.Blocked(), x.Workers(), x.Halted(), x.Complete())
				}
				for worker := range workers {
					if got := x.Keys(worker); !slices.Equal(got, want) {
						t.Errorf("%s, %d workers: Keys(%d): %x, not %x", c.name, workers, worker, got, want)
					}
					want = nil
				}
				b.checkOutside(t)
				if c.key != "" {
					b.checkStays(t)
				}
			}
		}
	}
}

// checkStays: a halted machine's steps are all Idle, and change nothing.
func (b pair) checkStays(t testing.TB) {
	t.Helper()
	for worker := range b.x.Workers() {
		for _, draw := range []int{0, 1, 2, 63, -1, math.MaxInt, math.MinInt} {
			if got := b.x.Step(worker, draw); got != machine.Idle || !b.x.Halted() {
				t.Fatalf("%+v: Step(%d, %d) of a halted one: %v", b.m.p, worker, draw, got)
			}
		}
	}
	b.check(t)
	b.checkOutside(t)
}

// did is a step, what it is to answer, and how many nodes there are then.
type did struct {
	worker, draw int
	want         machine.Deed
	nodes        int
}

// example is steps that were worked out by hand, and the keys of each worker behind them.
type example struct {
	p               api.Prog
	workers, budget int
	steps           []did
	keys            [][]string
	halted          bool
}

func examples() map[string]example {
	const idle, read, stole, into, over = machine.Idle, machine.Read, machine.Stole, machine.Into, machine.Over
	return map[string]example{
		"one step": {
			program(code(store(0, 0))), 1, 2,
			[]did{{0, 0, into, 2}, {0, 0, idle, 2}},
			[][]string{{writes("0")}}, true,
		},
		"one worker, two that write": {
			writers(1, 1), 1, 100,
			[]did{{0, 0, into, 2}, {0, 0, into, 3}, {0, 0, into, 4}, {0, 0, into, 5}, {0, 0, idle, 5}},
			[][]string{{writes("01"), writes("10")}}, true,
		},
		"its last node is the budget's last": {
			writers(1, 1), 1, 5,
			[]did{{0, 0, into, 2}, {0, 0, into, 3}, {0, 0, into, 4}, {0, 0, into, 5}, {0, 0, idle, 5}},
			[][]string{{writes("01"), writes("10")}}, true,
		},
		"a budget of one": {
			writers(1, 1), 1, 1,
			[]did{{0, 0, over, 1}, {0, 0, idle, 1}},
			[][]string{nil}, true,
		},
		"a budget of one node less": {
			writers(1, 1), 1, 4,
			[]did{{0, 0, into, 2}, {0, 0, into, 3}, {0, 0, into, 4}, {0, 0, over, 4}, {0, 0, idle, 4}},
			[][]string{{writes("01")}}, true,
		},
		"nothing to steal but of 0": {
			writers(1, 1), 3, 100,
			[]did{{1, 1, idle, 1}, {1, 2, idle, 1}, {2, 1, idle, 1}, {2, 5, idle, 1}, {2, 3, stole, 1}, {0, 0, idle, 1}, {0, 1, idle, 1}, {1, 0, idle, 1}, {0, 2, stole, 1}, {2, 7, idle, 1}},
			[][]string{nil, nil, nil}, false,
		},
		// 1 has the empty prefix, and goes into 0; of that and the one behind 0 steals the shallow one, so that each of them ends one class.
		"a thief is the owner": {
			writers(1, 1), 2, 100,
			[]did{{1, 0, stole, 1}, {1, 0, into, 2}, {0, 1, stole, 2}, {1, 0, into, 3}, {1, 1, idle, 3}, {0, 0, into, 4}, {0, 0, into, 5}, {1, 0, idle, 5}},
			[][]string{{writes("10")}, {writes("01")}}, true,
		},
		// Behind 1's step there is a letter to 0: whom the empty prefix is asked for more.
		"a letter of what nobody has": {
			late(), 2, 100,
			[]did{{0, 0, into, 2}, {1, 0, stole, 2}, {1, 0, into, 3}, {0, 0, read, 3}, {0, 0, into, 4}, {1, 0, into, 5}, {0, 0, into, 6}, {0, 0, into, 7}, {1, 0, idle, 7}},
			[][]string{{"\x01\x05\x01\x0d\x01\x0c\x00"}, {"\x02\x0c\x05\x01\x0d\x00"}}, true,
		},
		// The letter is there while nothing else is: so it isn't halted.
		"a letter alone": {
			late(), 2, 4,
			[]did{{0, 0, into, 2}, {1, 0, stole, 2}, {1, 0, into, 3}, {1, 0, into, 4}, {1, 0, idle, 4}, {1, 1, idle, 4}, {0, 0, read, 4}, {1, 1, idle, 4}, {0, 0, over, 4}, {0, 0, idle, 4}},
			[][]string{nil, {"\x02\x0c\x05\x01\x0d\x00"}}, true,
		},
		// 1 has the empty prefix as work, of which it is told twice: two race with what 0 did first.
		"letters of what the reader has": {
			writers(1, 1, 1, 1), 2, 100,
			[]did{{0, 0, into, 2}, {1, 0, stole, 2}, {0, 0, into, 3}, {1, 0, read, 3}, {1, 0, read, 3}, {1, 0, into, 4}},
			[][]string{nil, nil}, false,
		},
		// The letter is 1's still, when 2 has stolen the empty prefix from it: so 1 has no work behind it, but what it steals.
		"a letter of what a thief has": {
			writers(1, 1, 1), 3, 100,
			[]did{{0, 0, into, 2}, {1, 0, stole, 2}, {0, 0, into, 3}, {2, 1, stole, 3}, {1, 0, read, 3}, {1, 1, idle, 3}, {1, 2, stole, 3}, {1, 0, into, 4}},
			[][]string{nil, nil, nil}, false,
		},
		// Two thieves go into all at the empty prefix, ahead of 1's letter of it.
		"a letter of what has nobody left": {
			writers(1, 1, 1), 4, 100,
			[]did{{0, 0, into, 2}, {1, 0, stole, 2}, {0, 0, into, 3}, {2, 1, stole, 3}, {2, 0, into, 4}, {3, 2, stole, 4}, {3, 0, into, 5}, {1, 2, read, 5}, {1, 1, idle, 5}, {1, 2, stole, 5}},
			[][]string{nil, nil, nil, nil}, false,
		},
	}
}

func TestDeedsByExamples(t *testing.T) {
	for name, c := range examples() {
		t.Run(name, func(t *testing.T) {
			b := begin(t, c.p, 8, c.workers, c.budget)
			for i, s := range c.steps {
				if got := b.step(t, s.worker, s.draw); got != s.want || b.x.Nodes() != s.nodes {
					t.Fatalf("step %d, of %d with %d: %v, %d nodes, not %v, %d", i, s.worker, s.draw, got, b.x.Nodes(), s.want, s.nodes)
				}
			}
			for worker, want := range c.keys {
				if got := b.x.Keys(worker); !slices.Equal(got, want) {
					t.Errorf("Keys(%d): %x, not %x", worker, got, want)
				}
			}
			last := c.steps[max(0, len(c.steps)-2):]
			met := slices.ContainsFunc(last, func(s did) bool { return s.want == machine.Over })
			if b.x.Halted() != c.halted || b.x.Complete() != (c.halted && !met) {
				t.Errorf("Halted %v, Complete %v", b.x.Halted(), b.x.Complete())
			}
			if c.halted {
				b.checkStays(t)
			}
		})
	}
}
