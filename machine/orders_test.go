package machine_test

import (
	"math/rand"
	"testing"

	"sinnet/machine"
)

// picker: who steps next, with which draw; k is how many steps there were.
type picker func(b pair, k int) (worker, draw int)

// orders: ways to step, all of which come to an end; those that draw draw the same each time.
func orders() map[string]picker {
	return map[string]picker{
		"in turn": inTurn,
		"in turn, the last one first": func(b pair, k int) (int, int) {
			n := b.x.Workers()
			return n - 1 - k%n, k / n
		},
		"the first one that has something": func(b pair, k int) (int, int) {
			return b.busy()[0], k
		},
		"whoever has something, in turn": func(b pair, k int) (int, int) {
			busy := b.busy()
			return busy[k%len(busy)], -k
		},
		"drawn":              drawn(1, func(r *rand.Rand) int { return int(r.Uint64()) }),
		"drawn, small draws": drawn(2, func(r *rand.Rand) int { return r.Intn(4) }),
		"letters late":       lettersLate(3),
		"thieves early":      thievesEarly(4),
	}
}

// drawn: anybody.
func drawn(seed int64, draw func(r *rand.Rand) int) picker {
	r := rand.New(rand.NewSource(seed))
	return func(b pair, _ int) (int, int) { return r.Intn(b.x.Workers()), draw(r) }
}

// lettersLate: those who have work first, so that letters wait.
func lettersLate(seed int64) picker {
	r := rand.New(rand.NewSource(seed))
	return func(b pair, _ int) (int, int) { return b.late(r), int(r.Uint64()) }
}

// thievesEarly: like it, but every third time anybody steals, where there is something.
func thievesEarly(seed int64) picker {
	r := rand.New(rand.NewSource(seed))
	return func(b pair, k int) (int, int) {
		if k%3 == 0 {
			busy := b.busy()
			return r.Intn(b.x.Workers()), busy[r.Intn(len(busy))]
		}
		return b.late(r), int(r.Uint64())
	}
}

// inTurn: all workers, rising, each with the round's number.
func inTurn(b pair, k int) (int, int) { return k % b.x.Workers(), k / b.x.Workers() }

// busy: who has a letter, or work; somebody does, unless it is halted.
func (b pair) busy() []int {
	var list []int
	for worker := range b.m.keys {
		if len(b.m.letters[worker])+len(b.m.work[worker]) > 0 {
			list = append(list, worker)
		}
	}
	return list
}

// late: one who has work, and no letter, if there is one.
func (b pair) late(r *rand.Rand) int {
	var list []int
	for _, worker := range b.busy() {
		if len(b.m.letters[worker]) == 0 {
			list = append(list, worker)
		}
	}
	if len(list) == 0 {
		list = b.busy()
	}
	return list[r.Intn(len(list))]
}

// most is how many steps nothing here needs.
const most = 1000000

// run steps till it is halted; it answers the steps.
func (b pair) run(t testing.TB, name string, pick picker) []did {
	t.Helper()
	var steps []did
	for k := 0; !b.x.Halted(); k++ {
		if k == most {
			t.Fatalf("%s: %+v, %d workers: not halted", name, b.m.p, b.x.Workers())
		}
		steps = append(steps, b.pickOne(t, pick, k))
	}
	return steps
}

// pickOne does one step.
func (b pair) pickOne(t testing.TB, pick picker, k int) did {
	t.Helper()
	worker, draw := pick(b, k)
	deed := b.step(t, worker, draw)
	return did{worker, draw, deed, b.x.Nodes()}
}

// gets: does a deed bring it on? A theft doesn't, nor does Idle.
func gets(deed machine.Deed) bool {
	return deed != machine.Idle && deed != machine.Stole
}
