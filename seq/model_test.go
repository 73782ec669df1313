package seq_test

import (
	"maps"
	"math/rand"
	"slices"
	"testing"

	"sinnet/api"
	"sinnet/seq"
)

// run is layer 2's words again: a program behind some steps.
type run struct {
	p      api.Prog
	place  [4]int
	fuel   [4]int
	regs   [4][2]int64
	vars   [4]int64
	holder [2]int // -1: nobody
}

// next: what a thread does next; false, if it does nothing next.
func (w *run) next(thread int) (api.Event, bool) {
	if w.fuel[thread] == 0 || w.place[thread] == len(w.p.Threads[thread]) {
		return api.Event{}, false
	}
	e := api.Event{Thread: thread, Kind: api.ELocal}
	switch in := w.p.Threads[thread][w.place[thread]]; in.Kind {
	case api.OLoad:
		e.Kind, e.Obj = api.ERead, in.X
	case api.OStore:
		e.Kind, e.Obj = api.EWrite, in.X
	case api.OLock:
		e.Kind, e.Obj = api.ELock, in.X
	case api.OUnlock:
		if w.holder[in.X] == thread {
			e.Kind, e.Obj = api.EUnlock, in.X
		} else {
			e.Fail = true
		}
	case api.OAssert:
		e.Fail = w.regs[thread][in.R] == 0
	}
	return e, true
}

// may: may it do it now?
func (w *run) may(thread int) bool {
	e, ok := w.next(thread)
	return ok && (e.Kind != api.ELock || w.holder[e.Obj] == -1)
}

// step: a thread that may does it.
func (w *run) step(thread int) api.Event {
	e, _ := w.next(thread)
	in := w.p.Threads[thread][w.place[thread]]
	reg := &w.regs[thread][in.R]
	w.fuel[thread]--
	w.place[thread]++
	switch {
	case in.Kind == api.OLoad:
		*reg = w.vars[in.X]
	case in.Kind == api.OStore:
		w.vars[in.X] = *reg
	case in.Kind == api.OSet:
		*reg = in.N
	case in.Kind == api.OAdd:
		*reg += in.N
	case in.Kind == api.OJump && *reg != 0:
		w.place[thread] = in.X
	case e.Kind == api.ELock:
		w.holder[in.X] = thread
	case e.Kind == api.EUnlock:
		w.holder[in.X] = -1
	}
	return e
}

// behind: a program behind the steps of a prefix (a byte a step, the thread's number), and their events.
func behind(p api.Prog, fuel int, prefix string) (*run, []api.Event) {
	w := &run{p: p, fuel: [4]int{fuel, fuel, fuel, fuel}, holder: [2]int{-1, -1}}
	var row []api.Event
	for _, thread := range []byte(prefix) {
		row = append(row, w.step(int(thread)))
	}
	return w, row
}

// depends is layer 3's words again, of events that may be.
func depends(a, b api.Event) bool {
	variables := (a.Kind == api.ERead || a.Kind == api.EWrite) && (b.Kind == api.ERead || b.Kind == api.EWrite)
	mutexes := (a.Kind == api.ELock || a.Kind == api.EUnlock) && (b.Kind == api.ELock || b.Kind == api.EUnlock)
	switch {
	case a.Thread == b.Thread:
		return true
	case variables && a.Obj == b.Obj:
		return a.Kind == api.EWrite || b.Kind == api.EWrite
	}
	return mutexes && a.Obj == b.Obj
}

// past: of each event of a row, which ones happen before it, by layer 4's words.
func past(row []api.Event) [][]bool {
	before := make([][]bool, len(row))
	for k := range row {
		before[k] = make([]bool, len(row))
		before[k][k] = true
		for i := k - 1; i >= 0; i-- {
			before[k][i] = depends(row[i], row[k])
			for third := i + 1; third < k; third++ {
				before[k][i] = before[k][i] || before[third][i] && before[k][third]
			}
		}
	}
	return before
}

// racing: the places of a row that race with what a thread would do next, by layer 7's words.
func racing(row []api.Event, next api.Event) []int {
	before := past(row)
	last := -1
	for i, e := range row {
		if e.Thread == next.Thread {
			last = i
		}
	}
	var list []int
	for i, e := range row {
		if e.Thread != next.Thread && depends(e, next) && (last < 0 || !before[last][i]) {
			list = append(list, i)
		}
	}
	return list
}

// keyOf is layer 5's words again.
func keyOf(row []api.Event) string {
	levels := make([]int, len(row))
	count := 0
	for k := range row {
		for i := range k {
			if depends(row[i], row[k]) {
				levels[k] = max(levels[k], levels[i]+1)
			}
		}
		count = max(count, levels[k]+1)
	}
	var key []byte
	for level := range count {
		var list []byte
		for thread := range 4 {
			for i, e := range row {
				if levels[i] == level && e.Thread == thread {
					list = append(list, spell(e))
				}
			}
		}
		key = append(append(key, byte(len(list))), list...)
	}
	return string(append(key, 0))
}

// spell: an event's byte.
func spell(e api.Event) byte {
	b := byte(e.Thread + 4*e.Kind + 32*e.Obj)
	if e.Fail {
		b += 128
	}
	return b
}

// some threads.
type some [4]bool

// list: which ones, rising.
func (s some) list() []int {
	var list []int
	for thread, is := range s {
		if is {
			list = append(list, thread)
		}
	}
	return list
}

// spot is a node of the model.
type spot struct{ may, asleep, toGo, gone some }

// left: to be gone into, not gone into, not asleep.
func (n *spot) left() some {
	var s some
	for thread := range s {
		s[thread] = n.toGo[thread] && !n.gone[thread] && !n.asleep[thread]
	}
	return s
}

// model is the chapter's words again: all nodes by their prefixes, each done anew from the beginning on.
type model struct {
	p     api.Prog
	fuel  int
	order []uint8
	nodes map[string]*spot
	rows  []string // the prefixes, as they were made
	asked []int    // of each choice, how many there were to choose from
	keys  map[string]bool
	told  seq.Report
}

// modelOf: an exploration, at its end.
func modelOf(p api.Prog, fuel, budget int, order []uint8) *model {
	m := &model{p: p, fuel: fuel, order: order, nodes: map[string]*spot{}, keys: map[string]bool{}}
	m.make("", some{})
	for {
		prefix, ok := m.deepest()
		if !ok {
			m.told.Complete = true
			break
		}
		if m.told.Nodes >= max(budget, 1) {
			break
		}
		m.goInto(prefix)
	}
	m.told.Keys = slices.Sorted(maps.Keys(m.keys))
	return m
}

// make makes a prefix's node.
func (m *model) make(prefix string, asleep some) {
	w, row := behind(m.p, m.fuel, prefix)
	n := &spot{asleep: asleep}
	m.nodes[prefix] = n
	m.rows = append(m.rows, prefix)
	m.told.Nodes++
	var awake some
	for thread := range m.p.Threads {
		n.may[thread] = w.may(thread)
		awake[thread] = n.may[thread] && !asleep[thread]
		if next, ok := w.next(thread); ok {
			for _, at := range racing(row, next) {
				m.nodes[prefix[:at]].toGo = m.nodes[prefix[:at]].may
			}
		}
	}
	switch {
	case n.may == some{}:
		m.told.Runs++
		m.keys[keyOf(row)] = true
	case awake == some{}:
		m.told.Blocked++
	default:
		n.toGo[m.choose(awake.list())] = true
	}
}

// deepest: the longest prefix where somebody is left; false, if there is none.
func (m *model) deepest() (string, bool) {
	var found []string
	for _, prefix := range m.rows {
		switch n := m.nodes[prefix]; {
		case n.left() == some{}:
		case len(found) == 0 || len(prefix) > len(found[0]):
			found = []string{prefix}
		case len(prefix) == len(found[0]):
			found = append(found, prefix)
		}
	}
	if len(found) > 1 {
		panic("the chapter does not say which one of equally deep nodes comes first")
	}
	if len(found) == 0 {
		return "", false
	}
	return found[0], true
}

// goInto goes into one of those who are left there.
func (m *model) goInto(prefix string) {
	n := m.nodes[prefix]
	thread := m.choose(n.left().list())
	w, _ := behind(m.p, m.fuel, prefix)
	does, _ := w.next(thread)
	var child some
	for other := range m.p.Threads {
		next, ok := w.next(other)
		child[other] = (n.asleep[other] || n.gone[other]) && other != thread && ok && !depends(next, does)
	}
	n.gone[thread] = true
	m.make(prefix+string([]byte{byte(thread)}), child)
}

// choose: one of several, by the order; one alone is no choice.
func (m *model) choose(list []int) int {
	if len(list) == 1 {
		return list[0]
	}
	nth := len(m.asked)
	m.asked = append(m.asked, len(list))
	if nth >= len(m.order) {
		return list[0]
	}
	return list[int(m.order[nth])%len(list)]
}

// same: are two reports one?
func same(a, b seq.Report) bool {
	return slices.Equal(a.Keys, b.Keys) && a.Nodes == b.Nodes && a.Runs == b.Runs && a.Blocked == b.Blocked && a.Complete == b.Complete
}

// checkModel holds an exploration against the words, and answers the model at its end.
func checkModel(t testing.TB, p api.Prog, fuel, budget int, order []uint8) *model {
	t.Helper()
	m := modelOf(p, fuel, budget, order)
	got, e := seq.Explore(p, fuel, budget, order)
	if e != api.OK || !same(got, m.told) {
		t.Fatalf("Explore(%+v, %d, %d, %v): %#v %v, not %#v", p, fuel, budget, order, got, e, m.told)
	}
	return m
}

// anyProgram: a drawn one that may be, of few objects, so that its threads meet often.
func anyProgram(r *rand.Rand) api.Prog {
	p := api.Prog{Vars: 1 + r.Intn(2), Mutexes: 1 + r.Intn(2), Threads: make([][]api.Instr, 1+r.Intn(4))}
	for i := range p.Threads {
		size := 1 + r.Intn(6)
		if len(p.Threads) > 2 {
			size = r.Intn(4)
		}
		for range size {
			p.Threads[i] = append(p.Threads[i], anyInstr(r, p, size))
		}
	}
	return p
}

func anyInstr(r *rand.Rand, p api.Prog, size int) api.Instr {
	switch reg := r.Intn(2); r.Intn(12) {
	case 0, 1:
		return load(reg, r.Intn(p.Vars))
	case 2, 3:
		return store(reg, r.Intn(p.Vars))
	case 4, 5:
		return lock(r.Intn(p.Mutexes))
	case 6, 7:
		return unlock(r.Intn(p.Mutexes))
	case 8:
		return jump(reg, r.Intn(size+1))
	case 9:
		return api.Instr{Kind: api.OAdd, R: reg, N: int64(r.Intn(5) - 2)}
	case 10:
		return assert(reg)
	default:
		return set(reg, int64(r.Intn(3)-1))
	}
}

// anyOrder: a drawn one, that ends early or late.
func anyOrder(r *rand.Rand) []uint8 {
	order := make([]uint8, r.Intn(40))
	for i := range order {
		order[i] = uint8(r.Intn(256))
	}
	return order
}
