package machine_test

import (
	"math"
	"math/big"
	"slices"
	"testing"

	"sinnet/api"
	"sinnet/machine"
)

// some threads.
type some [4]bool

// list: which ones, rising.
func (s some) list() []int {
	var list []int
	for thread, is := range s {
		if is {
			list = append(list, thread)
		}
	}
	return list
}

// spot is a node of the model.
type spot struct {
	owner                   int
	may, asleep, toGo, gone some
}

// left: to be gone into, not gone into, not asleep, rising.
func (n *spot) left() []int {
	var s some
	for thread := range s {
		s[thread] = n.toGo[thread] && !n.gone[thread] && !n.asleep[thread]
	}
	return s.list()
}

// model is the chapter's words again: all nodes by their prefixes, each one's state done anew from the beginning on.
type model struct {
	p             api.Prog
	fuel, budget  int
	nodes         map[string]*spot
	letters, work [][]string // of each worker; a letter is a prefix, where all who may are to be gone into
	keys          [][]string
	claims        int
	blocked       int
	met           bool
	was           ways
}

// ways is how often a deed was done in each of its ways.
type ways struct {
	readPushed, readHanded, readNobodyLeft, readHadByOther, readHadByReader int
	stole, nothingToSteal, stealFromItself                                  int
	done, over, intoMoreLeft, intoNobodyLeft                                int
	markedHere, letters, blocked, keys                                      int
}

// modelOf: a machine at its beginning.
func modelOf(p api.Prog, fuel, workers, budget int) *model {
	m := &model{p: p, fuel: fuel, budget: budget, nodes: map[string]*spot{}}
	m.letters, m.work, m.keys = make([][]string, workers), make([][]string, workers), make([][]string, workers)
	m.open(0, "", some{}, 0)
	return m
}

// is: is there that worker?
func (m *model) is(worker int) bool {
	for one := range m.keys {
		if one == worker {
			return true
		}
	}
	return false
}

func (m *model) halted() bool {
	return m.met || len(slices.Concat(m.work...)) == 0 && len(slices.Concat(m.letters...)) == 0
}

func (m *model) complete() bool { return m.halted() && !m.met }

// has: does somebody have that prefix as work?
func (m *model) has(prefix string) bool {
	return slices.Contains(slices.Concat(m.work...), prefix)
}

// pushIfLeft: it is that worker's work, if somebody is left there, and nobody has it.
func (m *model) pushIfLeft(worker int, prefix string) bool {
	if len(m.nodes[prefix].left()) == 0 || m.has(prefix) {
		return false
	}
	m.work[worker] = append(m.work[worker], prefix)
	return true
}

// comesAhead: is a longer than b, or of its length and less? No byte of a prefix is above 3, so its order is the texts'.
func comesAhead(a, b string) bool {
	return len(a) > len(b) || len(a) == len(b) && a < b
}

// take takes of that worker's work the one that is ahead of all others, as ahead tells of two.
func (m *model) take(worker int, ahead func(a, b string) bool) string {
	list := m.work[worker]
	at := 0
	for i, prefix := range list {
		if ahead(prefix, list[at]) {
			at = i
		}
	}
	prefix := list[at]
	m.work[worker] = slices.Delete(list, at, at+1)
	return prefix
}

// modulo: a draw as 64 bits without a sign, modulo many.
func modulo(draw, many int) int {
	n := big.NewInt(int64(draw))
	if draw < 0 {
		n.Add(n, new(big.Int).Lsh(big.NewInt(1), 64))
	}
	return int(n.Mod(n, big.NewInt(int64(many))).Int64())
}

// open makes a node, as the chapter says.
func (m *model) open(worker int, prefix string, asleep some, draw int) {
	w, row := behind(m.p, m.fuel, prefix)
	n := &spot{owner: worker, asleep: asleep}
	m.nodes[prefix] = n
	var awake some
	for thread := range m.p.Threads {
		n.may[thread] = w.may(thread)
		awake[thread] = n.may[thread] && !asleep[thread]
		if next, ok := w.next(thread); ok {
			for _, at := range racing(row, next) {
				m.ask(worker, prefix[:at])
			}
		}
	}
	switch {
	case n.may == some{}:
		m.was.keys++
		m.keys[worker] = append(m.keys[worker], keyOf(row))
	case awake == some{}:
		m.was.blocked++
		m.blocked++
	default:
		list := awake.list()
		n.toGo[list[modulo(draw, len(list))]] = true
		m.pushIfLeft(worker, prefix)
	}
}

// ask: all who may at a node are to be gone into there.
func (m *model) ask(worker int, prefix string) {
	n := m.nodes[prefix]
	if n.owner != worker {
		m.was.letters++
		m.letters[n.owner] = append(m.letters[n.owner], prefix)
		return
	}
	m.was.markedHere++
	n.toGo = n.may
	m.pushIfLeft(worker, prefix)
}

// step is P14.2's words.
func (m *model) step(worker, draw int) machine.Deed {
	switch {
	case !m.is(worker) || m.halted():
		return machine.Idle
	case len(m.letters[worker]) > 0:
		m.read(worker)
		return machine.Read
	case len(m.work[worker]) == 0:
		return m.steal(worker, modulo(draw, len(m.keys)))
	}
	return m.goInto(worker, m.take(worker, comesAhead), draw)
}

func (m *model) read(worker int) {
	prefix := m.letters[worker][0]
	m.letters[worker] = m.letters[worker][1:]
	n := m.nodes[prefix]
	n.toGo = n.may
	switch {
	case len(n.left()) == 0:
		m.was.readNobodyLeft++
	case slices.Contains(m.work[worker], prefix):
		m.was.readHadByReader++
	case m.has(prefix):
		m.was.readHadByOther++
	default:
		m.was.readPushed++
		if n.owner != worker {
			m.was.readHanded++
		}
		n.owner = worker
		m.work[worker] = append(m.work[worker], prefix)
	}
}

func (m *model) steal(worker, victim int) machine.Deed {
	if victim == worker {
		m.was.stealFromItself++
		return machine.Idle
	}
	if len(m.work[victim]) == 0 {
		m.was.nothingToSteal++
		return machine.Idle
	}
	prefix := m.take(victim, func(a, b string) bool { return comesAhead(b, a) })
	m.work[worker] = append(m.work[worker], prefix)
	m.nodes[prefix].owner = worker
	m.was.stole++
	return machine.Stole
}

// goInto: one who is left at a node that was popped.
func (m *model) goInto(worker int, prefix string, draw int) machine.Deed {
	n := m.nodes[prefix]
	left := n.left()
	if len(left) == 0 {
		m.was.done++
		return machine.Done
	}
	if len(m.nodes) == m.budget {
		m.met = true
		m.was.over++
		return machine.Over
	}
	thread := left[modulo(draw, len(left))]
	w, _ := behind(m.p, m.fuel, prefix)
	does, _ := w.next(thread)
	var child some
	for other := range m.p.Threads {
		next, ok := w.next(other)
		child[other] = (n.asleep[other] || n.gone[other]) && other != thread && ok && !depends(next, does)
	}
	n.gone[thread] = true
	m.claims++
	if m.pushIfLeft(worker, prefix) {
		m.was.intoMoreLeft++
	} else {
		m.was.intoNobodyLeft++
	}
	m.open(worker, prefix+string([]byte{byte(thread)}), child, draw)
	return machine.Into
}

// noWorkers: numbers that are none of that many workers.
func noWorkers(workers int) []int {
	return []int{-1, workers, -2, workers + 1, -workers, 2 * workers, 1 << 32, -1 << 32, 1<<32 + workers - 1, math.MinInt, math.MinInt + workers, math.MaxInt}
}

// pair is a machine and what it should be.
type pair struct {
	x *machine.Machine
	m *model
}

// begin: a machine at its beginning, that there must be.
func begin(t testing.TB, p api.Prog, fuel, workers, budget int) pair {
	t.Helper()
	x, e := machine.New(p, fuel, workers, budget)
	if x == nil || e != api.OK {
		t.Fatalf("New(%+v, %d, %d, %d): %v %v", p, fuel, workers, budget, x, e)
	}
	b := pair{x, modelOf(p, fuel, workers, budget)}
	b.check(t)
	return b
}

// step does it by both, and holds against each other what they answer, and what there is then.
func (b pair) step(t testing.TB, worker, draw int) machine.Deed {
	t.Helper()
	want := b.m.step(worker, draw)
	if got := b.x.Step(worker, draw); got != want {
		t.Fatalf("%+v, fuel %d, %d workers: Step(%d, %d): %v, not %v", b.m.p, b.m.fuel, len(b.m.keys), worker, draw, got, want)
	}
	b.check(t)
	return want
}

// check holds all that a machine tells against the model.
func (b pair) check(t testing.TB) {
	t.Helper()
	if halted, complete := b.x.Halted(), b.x.Complete(); halted != b.m.halted() || complete != b.m.complete() {
		t.Fatalf("%+v: Halted %v, Complete %v, not %v, %v", b.m.p, halted, complete, b.m.halted(), b.m.complete())
	}
	nodes, claims, blocked, workers := b.x.Nodes(), b.x.Claims(), b.x.Blocked(), b.x.Workers()
	if nodes != len(b.m.nodes) || claims != b.m.claims || blocked != b.m.blocked || workers != len(b.m.keys) {
		t.Fatalf("%+v: Nodes %d, Claims %d, Blocked %d, Workers %d, not %d, %d, %d, %d", b.m.p, nodes, claims, blocked, workers, len(b.m.nodes), b.m.claims, b.m.blocked, len(b.m.keys))
	}
	for worker, want := range b.m.keys {
		if got := b.x.Keys(worker); !slices.Equal(got, want) {
			t.Fatalf("%+v: Keys(%d): %x, not %x", b.m.p, worker, got, want)
		}
	}
}

// checkOutside: of no such worker there are no keys, and its steps are Idle, and change nothing.
func (b pair) checkOutside(t testing.TB) {
	t.Helper()
	for _, worker := range noWorkers(len(b.m.keys)) {
		if keys := b.x.Keys(worker); len(keys) != 0 {
			t.Fatalf("Keys(%d) of %d workers: %x", worker, len(b.m.keys), keys)
		}
		for _, draw := range []int{0, 1, -1, math.MaxInt, math.MinInt} {
			if got := b.x.Step(worker, draw); got != machine.Idle {
				t.Fatalf("Step(%d, %d) of %d workers: %v", worker, draw, len(b.m.keys), got)
			}
		}
	}
	b.check(t)
}

// keys: all workers' keys, rising.
func (b pair) keys() []string {
	var list []string
	for worker := range b.x.Workers() {
		list = append(list, b.x.Keys(worker)...)
	}
	slices.Sort(list)
	return list
}
