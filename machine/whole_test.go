package machine_test

import (
	"math"
	"math/rand"
	"slices"
	"testing"

	"sinnet/api"
	"sinnet/foata"
	"sinnet/machine"
	"sinnet/seq"
	"sinnet/state"
	"sinnet/walk"
)

// programs whose prefixes can all be gone over.
func programs() map[string]api.Prog {
	w, r, local := code(store(0, 0)), code(load(0, 0)), code(set(0, 1))
	take := code(lock(0), store(0, 0), unlock(0))
	count := code(load(0, 0), add(0, 1), store(0, 0))
	return map[string]api.Prog{
		"a thread that has nothing":               program(nil),
		"one thread":                              program(count),
		"a loop that fuel ends":                   program(code(set(0, 1), jump(0, 0)), w),
		"two that read":                           program(r, r),
		"two that write":                          writers(1, 1),
		"one writes, two read":                    program(w, r, r),
		"three that write":                        writers(1, 1, 1),
		"four that write":                         writers(1, 1, 1, 1),
		"two that write twice":                    writers(2, 2),
		"three of three local steps":              program(slices.Repeat(local, 3), slices.Repeat(local, 3), slices.Repeat(local, 3)),
		"two that count":                          program(count, count),
		"two write, one does something local":     program(w, w, local),
		"one is late":                             late(),
		"two that take a mutex, and give it back": program(take, take),
		"two mutexes, in unlike orders":           program(code(lock(0), lock(1), unlock(1), unlock(0)), code(lock(1), lock(0), unlock(0), unlock(1))),
		"a mutex taken twice":                     program(code(lock(0), lock(0)), code(lock(0))),
		"a mutex that nobody gives, and others":   program(code(lock(0), load(0, 0)), code(lock(0)), code(store(0, 0)), local),
		"those that wait for one another":         program(code(lock(0), lock(1)), code(lock(1), lock(0)), code(lock(0), unlock(0))),
		"asserts that may fail":                   program(code(set(0, 1), store(0, 0)), code(load(0, 0), assert(0)), code(load(1, 0), assert(1))),
		"they wait by a loop":                     program(code(load(0, 0), jump(0, 3), jump(1, 0)), code(set(0, 1), store(0, 0))),
		"one writes what the other one reads":     program(code(store(0, 0), load(0, 1)), code(store(0, 1), load(0, 0))),
	}
}

// checkWhole: it is halted, and has all classes, each once; each claim made a node.
func (b pair) checkWhole(t testing.TB, name string, sum walk.Sum) {
	t.Helper()
	x := b.x
	if !x.Complete() || !slices.Equal(b.keys(), sum.Keys) || x.Nodes() != x.Claims()+1 || x.Nodes() > sum.Prefixes {
		t.Fatalf("%s: %+v, %d workers: Complete %v, %d claims, %d nodes of %d prefixes, keys %x, not %x", name, b.m.p, x.Workers(), x.Complete(), x.Claims(), x.Nodes(), sum.Prefixes, b.keys(), sum.Keys)
	}
	b.checkStays(t)
}

// checkCutOff: each key is a class, and none is found twice; each claim made a node.
func (b pair) checkCutOff(t testing.TB, classes []string) {
	t.Helper()
	for i, keys := 0, b.keys(); i < len(keys); i++ {
		if i > 0 && keys[i-1] == keys[i] {
			t.Fatalf("%+v: %x was found twice", b.m.p, keys[i])
		}
		if _, ok := slices.BinarySearch(classes, keys[i]); !ok {
			t.Fatalf("%+v: %x is no class", b.m.p, keys[i])
		}
	}
	if b.x.Nodes() != b.x.Claims()+1 || b.x.Nodes() > b.m.budget {
		t.Fatalf("%+v: %d nodes, %d claims, budget %d", b.m.p, b.x.Nodes(), b.x.Claims(), b.m.budget)
	}
}

// classes: all of a program whose prefixes can be gone over.
func classes(t testing.TB, p api.Prog, fuel int) walk.Sum {
	t.Helper()
	sum, e := walk.All(p, fuel, api.MaxBudget)
	if e != api.OK {
		t.Fatal(e)
	}
	return sum
}

// P14.4: with a budget of all prefixes, and with more, all classes, each once, whoever steps when.
func TestEachClassOnce(t *testing.T) {
	for name, p := range programs() {
		t.Run(name, func(t *testing.T) {
			sum := classes(t, p, 6)
			for _, workers := range []int{1, 2, 3, 4, 7, 64} {
				for order, pick := range orders() {
					for _, budget := range []int{sum.Prefixes, api.MaxBudget} {
						b := begin(t, p, 6, workers, budget)
						b.run(t, order, pick)
						b.checkWhole(t, order, sum)
					}
				}
			}
		})
	}
}

// checkBudgets does the same steps with each lesser budget: with as many nodes as there are it is Complete, with one less it isn't, and up to there all is the same.
func (b pair) checkBudgets(t testing.TB, steps []did, sum walk.Sum) {
	t.Helper()
	nodes := b.x.Nodes()
	for budget := 1; budget <= nodes+1; budget++ {
		cut := begin(t, b.m.p, b.m.fuel, b.x.Workers(), budget)
		for _, s := range steps {
			got := cut.step(t, s.worker, s.draw)
			if got != s.want && got != machine.Over {
				t.Fatalf("%+v, budget %d: Step(%d, %d): %v, not %v", b.m.p, budget, s.worker, s.draw, got, s.want)
			}
			cut.checkCutOff(t, sum.Keys)
			if got == machine.Over {
				break
			}
		}
		if cut.x.Nodes() != min(nodes, budget) || !cut.x.Halted() || cut.x.Complete() != (budget >= nodes) {
			t.Fatalf("%+v, budget %d: %d nodes of %d, Halted %v, Complete %v", b.m.p, budget, cut.x.Nodes(), nodes, cut.x.Halted(), cut.x.Complete())
		}
		cut.checkStays(t)
	}
}

func TestBudgets(t *testing.T) {
	for name, p := range programs() {
		t.Run(name, func(t *testing.T) {
			sum := classes(t, p, 4)
			for _, workers := range []int{1, 2, 5} {
				for order, pick := range orders() {
					b := begin(t, p, 4, workers, sum.Prefixes)
					steps := b.run(t, order, pick)
					b.checkWhole(t, order, sum)
					if b.x.Nodes() < 200 {
						b.checkBudgets(t, steps, sum)
					}
				}
			}
		})
	}
}

// One worker is like layer 9's, but for the order in which it finds them.
func TestOneWorkerLikeSeq(t *testing.T) {
	for name, p := range programs() {
		got, e := seq.Explore(p, 6, api.MaxBudget, nil)
		if e != api.OK {
			t.Fatal(e)
		}
		b := begin(t, p, 6, 1, api.MaxBudget)
		for k := 0; !b.x.Halted(); k++ {
			if deed := b.step(t, 0, 0); deed != machine.Into {
				t.Fatalf("%s: %v", name, deed)
			}
		}
		if !slices.Equal(b.keys(), got.Keys) || b.x.Nodes() != got.Nodes || b.x.Blocked() != got.Blocked {
			t.Errorf("%s: %d nodes, %d blocked, not %d, %d", name, b.x.Nodes(), b.x.Blocked(), got.Nodes, got.Blocked)
		}
	}
}

// Where all workers step in turn, with the round's number, two rounds on it is halted, or a deed brought it on; of those there are no more than nodes, letters, and one Over.
func TestInTurnItHalts(t *testing.T) {
	for name, p := range programs() {
		for _, workers := range []int{1, 2, 3, 5, 64} {
			for _, budget := range []int{20, api.MaxBudget} {
				b := begin(t, p, 5, workers, budget)
				steps := b.run(t, name, inTurn)
				idle, all := 0, 0
				for _, s := range steps {
					idle++
					if gets(s.want) {
						all++
						idle = 0
					}
					if idle > 2*workers {
						t.Fatalf("%s, %d workers: two rounds, and nothing was brought on", name, workers)
					}
				}
				if bound := b.x.Nodes() + b.m.was.letters; all > bound {
					t.Errorf("%s, %d workers: %d deeds, not up to %d", name, workers, all, bound)
				}
			}
		}
	}
}

// While it isn't halted, who has a letter or work does something; a worker that has none does nothing, or steals.
func TestHaltedJustIfNothingIsLeft(t *testing.T) {
	for name, p := range programs() {
		for order, pick := range orders() {
			b := begin(t, p, 5, 3, api.MaxBudget)
			for k := 0; !b.x.Halted(); k++ {
				busy := b.busy()
				if s := b.pickOne(t, pick, k); slices.Contains(busy, s.worker) != gets(s.want) {
					t.Fatalf("%s, %s: %v have something; %d does %v", name, order, busy, s.worker, s.want)
				}
			}
			if busy := b.busy(); len(busy) > 0 {
				t.Errorf("%s, %s: halted, and %v have something", name, order, busy)
			}
		}
	}
}

// Sixty-four workers report what one does.
func TestSixtyFourWorkers(t *testing.T) {
	p := writers(2, 2, 1, 1)
	sum := classes(t, p, 8)
	for _, workers := range []int{1, 2, 64} {
		x, e := machine.New(p, 8, workers, sum.Prefixes)
		if e != api.OK {
			t.Fatal(e)
		}
		for k := 0; !x.Halted() && k < most; k++ {
			x.Step(k%workers, k/workers)
		}
		var keys []string
		found := 0
		for worker := range workers {
			list := x.Keys(worker)
			keys = append(keys, list...)
			found += min(1, len(list))
		}
		slices.Sort(keys)
		if !x.Complete() || !slices.Equal(keys, sum.Keys) || x.Nodes() != sum.Prefixes || x.Claims() != sum.Prefixes-1 || x.Blocked() != 0 {
			t.Errorf("%d workers: Complete %v, %d keys of %d, %d nodes of %d", workers, x.Complete(), len(keys), len(sum.Keys), x.Nodes(), sum.Prefixes)
		}
		if found < workers/8 {
			t.Errorf("%d of %d workers found some", found, workers)
		}
	}
}

// isClass: is there an execution with that key? Its levels, one behind the other, are one.
func isClass(p api.Prog, fuel int, key string) bool {
	levels, e := foata.Read(key)
	if e != api.OK {
		return false
	}
	var threads []int
	for _, ev := range foata.Row(levels) {
		threads = append(threads, ev.Thread)
	}
	end, row, e := state.Replay(p, fuel, threads)
	return e == api.OK && len(end.All()) == 0 && foata.Key(row) == key
}

// Programs that have far more nodes than anybody could make: what is cut off is classes, each once.
func TestFarTooMany(t *testing.T) {
	waits := slices.Repeat(code(lock(0), unlock(0)), 4)
	mixed := code(lock(1), load(0, 0), store(0, 1), unlock(1), load(1, 1), store(1, 0), assert(1), jump(0, 0))
	r := rand.New(rand.NewSource(5))
	for _, p := range []api.Prog{writers(8, 8, 8, 8), program(waits, waits, waits, waits), program(mixed, mixed, mixed, mixed)} {
		for _, workers := range []int{1, 3, 64} {
			for _, budget := range []int{1, 2, 31, 5000} {
				x, e := machine.New(p, 8, workers, budget)
				if e != api.OK {
					t.Fatal(e)
				}
				last := machine.Idle
				for k := 0; !x.Halted() && k < most; k++ {
					last = x.Step(r.Intn(workers), int(r.Uint64()))
				}
				if last != machine.Over || x.Complete() || x.Nodes() != budget || x.Claims() != budget-1 {
					t.Fatalf("%d workers, budget %d: %v, Complete %v, %d nodes, %d claims", workers, budget, last, x.Complete(), x.Nodes(), x.Claims())
				}
				found := map[string]bool{}
				for worker := range workers {
					for _, key := range x.Keys(worker) {
						if found[key] || !isClass(p, 8, key) {
							t.Fatalf("%x is no class, or was found twice", key)
						}
						found[key] = true
					}
				}
				if budget == 5000 && workers < 64 && len(found) < 10 {
					t.Errorf("%d workers: %d found: too few", workers, len(found))
				}
			}
		}
	}
}

// Threads that never meet: one class, one node a step and one more, whoever steps when.
func TestThreadsThatNeverMeet(t *testing.T) {
	for _, sizes := range [][]int{{8}, {1, 8}, {8, 8}, {2, 0, 5}, {3, 3, 3}, {8, 8, 8, 8}} {
		p, nodes := program(), 1
		for _, size := range sizes {
			p.Threads = append(p.Threads, slices.Repeat(code(set(0, 1)), size))
			nodes += size
		}
		for order, pick := range orders() {
			b := begin(t, p, 8, 3, nodes)
			b.run(t, order, pick)
			if len(b.keys()) != 1 || b.x.Nodes() != nodes || b.x.Blocked() != 0 || !b.x.Complete() {
				t.Errorf("%v, %s: %d nodes, not %d, %d blocked", sizes, order, b.x.Nodes(), nodes, b.x.Blocked())
			}
		}
	}
}

// A draw has 64 bits without a sign: of four that write, whom the first class has, where all draws are that one.
func TestDrawsOfThreads(t *testing.T) {
	for draw, want := range map[int]string{
		0: "0123", 1: "0231", 2: "0312", 3: "0132", 4: "0213", 5: "0321", 6: "0123",
		-1: "0132", math.MaxInt: "0231", math.MinInt: "0312", -2: "0312", math.MaxInt - 1: "0123",
	} {
		b := begin(t, writers(1, 1, 1, 1), 8, 1, 100)
		for range 4 {
			b.step(t, 0, draw)
		}
		if got := b.x.Keys(0); !slices.Equal(got, []string{writes(want)}) {
			t.Errorf("draw %d: %x, not of %s", draw, got, want)
		}
	}
}

// Of whom is stolen: the one that a draw means, as 64 bits without a sign.
func TestDrawsOfVictims(t *testing.T) {
	for _, workers := range []int{2, 3, 5, 63, 64} {
		for _, draw := range []int{0, 1, 2, 3, 62, 63, 64, 65, 1 << 32, math.MaxInt, math.MaxInt - 1, -1, -2, -63, -64, math.MinInt, math.MinInt + 1} {
			b := begin(t, writers(1, 1), 8, workers, 100)
			want := machine.Idle
			if modulo(draw, workers) == 0 {
				want = machine.Stole
			}
			if got := b.x.Step(workers-1, draw); got != want {
				t.Errorf("%d workers: Step(%d, %d): %v, not %v", workers, workers-1, draw, got, want)
			}
		}
	}
}
