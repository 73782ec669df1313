package tree_test

import (
	"math/big"
	"math/rand"

	"sinnet/api"
	"sinnet/sleep"
)

// run is layer 2's words again: a program behind some steps.
type run struct {
	p      api.Prog
	place  [4]int
	fuel   [4]int
	regs   [4][2]int64
	vars   [4]int64
	holder [2]int // -1: nobody
}

// next: what a thread does next; false, if it does nothing next.
func (w *run) next(thread int) (api.Event, bool) {
	if thread < 0 || thread >= len(w.p.Threads) || w.fuel[thread] == 0 || w.place[thread] == len(w.p.Threads[thread]) {
		return api.Event{}, false
	}
	e := api.Event{Thread: thread, Kind: api.ELocal}
	switch in := w.p.Threads[thread][w.place[thread]]; in.Kind {
	case api.OLoad:
		e.Kind, e.Obj = api.ERead, in.X
	case api.OStore:
		e.Kind, e.Obj = api.EWrite, in.X
	case api.OLock:
		e.Kind, e.Obj = api.ELock, in.X
	case api.OUnlock:
		if w.holder[in.X] == thread {
			e.Kind, e.Obj = api.EUnlock, in.X
		} else {
			e.Fail = true
		}
	case api.OAssert:
		e.Fail = w.regs[thread][in.R] == 0
	}
	return e, true
}

// may: may it do it now?
func (w *run) may(thread int) bool {
	e, ok := w.next(thread)
	return ok && (e.Kind != api.ELock || w.holder[e.Obj] == -1)
}

// step: a thread that may does it.
func (w *run) step(thread int) api.Event {
	e, _ := w.next(thread)
	in := w.p.Threads[thread][w.place[thread]]
	reg := &w.regs[thread][in.R]
	w.fuel[thread]--
	w.place[thread]++
	switch {
	case in.Kind == api.OLoad:
		*reg = w.vars[in.X]
	case in.Kind == api.OStore:
		w.vars[in.X] = *reg
	case in.Kind == api.OSet:
		*reg = in.N
	case in.Kind == api.OAdd:
		*reg += in.N
	case in.Kind == api.OJump && *reg != 0:
		w.place[thread] = in.X
	case e.Kind == api.ELock:
		w.holder[in.X] = thread
	case e.Kind == api.EUnlock:
		w.holder[in.X] = -1
	}
	return e
}

// depends is layer 3's words again, of events that may be.
func depends(a, b api.Event) bool {
	variables := (a.Kind == api.ERead || a.Kind == api.EWrite) && (b.Kind == api.ERead || b.Kind == api.EWrite)
	mutexes := (a.Kind == api.ELock || a.Kind == api.EUnlock) && (b.Kind == api.ELock || b.Kind == api.EUnlock)
	switch {
	case a.Thread == b.Thread:
		return true
	case variables && a.Obj == b.Obj:
		return a.Kind == api.EWrite || b.Kind == api.EWrite
	}
	return mutexes && a.Obj == b.Obj
}

// some of the threads that a set can be of.
type some [8]bool

// of: those of a set, by its bits.
func of(set sleep.Set) some {
	var s some
	for n, thread := int(set), 0; n > 0; n, thread = n/2, thread+1 {
		s[thread] = n%2 == 1
	}
	return s
}

// set: the set of those.
func (s some) set() sleep.Set {
	sum := 0
	for thread, bit := range []int{1, 2, 4, 8, 16, 32, 64, 128} {
		if s[thread] {
			sum += bit
		}
	}
	return sleep.Set(sum)
}

// list: which ones, rising.
func (s some) list() []int {
	var list []int
	for thread, is := range s {
		if is {
			list = append(list, thread)
		}
	}
	return list
}

// child is layer 8's words again: who sleeps behind the step of a thread that may.
func (w *run) child(asleep, earlier some, thread int) sleep.Set {
	var s some
	done, _ := w.next(thread)
	for other := range s {
		next, ok := w.next(other)
		s[other] = (asleep[other] || earlier[other]) && other != thread && ok && !depends(done, next)
	}
	return s.set()
}

// spot is a node of the model.
type spot struct {
	prefix             string
	owner              int
	asleep, toGo, gone some
}

// left: to be gone into, not gone into, not asleep, rising.
func (n *spot) left() []int {
	var s some
	for thread := range s {
		s[thread] = n.toGo[thread] && !n.gone[thread] && !n.asleep[thread]
	}
	return s.list()
}

// model is the chapter's words again: all nodes in a row, each one's state done anew from the beginning on.
type model struct {
	p      api.Prog
	fuel   int
	nodes  []*spot
	claims int
}

// find: a prefix's node; nil, if there is none.
func (m *model) find(prefix string) *spot {
	for _, n := range m.nodes {
		if n.prefix == prefix {
			return n
		}
	}
	return nil
}

// at: a program behind the steps of a prefix, and their events; the first error.
func (m *model) at(prefix string) (*run, []api.Event, api.Errno) {
	w := &run{p: m.p, fuel: [4]int{m.fuel, m.fuel, m.fuel, m.fuel}, holder: [2]int{-1, -1}}
	var row []api.Event
	for _, b := range []byte(prefix) {
		thread := int(b)
		if thread >= len(m.p.Threads) {
			return nil, nil, api.ErrRange
		}
		if _, ok := w.next(thread); !ok {
			return nil, nil, api.ErrNone
		}
		if !w.may(thread) {
			return nil, nil, api.ErrState
		}
		row = append(row, w.step(thread))
	}
	return w, row, api.OK
}

// make, mark, claim, hand do what the calls are to do, and tell what they are to answer.
func (m *model) make(prefix string, asleep sleep.Set, owner int) api.Errno {
	if _, _, e := m.at(prefix); e != api.OK {
		return e
	}
	if m.find(prefix) != nil {
		return api.ErrOnce
	}
	if prefix != "" {
		ahead := m.find(prefix[:len(prefix)-1])
		if ahead == nil || !ahead.gone[prefix[len(prefix)-1]] {
			return api.ErrNone
		}
	}
	m.nodes = append(m.nodes, &spot{prefix: prefix, owner: owner, asleep: of(asleep)})
	return api.OK
}

func (m *model) mark(prefix string, set sleep.Set) api.Errno {
	n := m.find(prefix)
	if n == nil {
		return api.ErrNone
	}
	w, _, _ := m.at(prefix)
	for thread, is := range of(set) {
		n.toGo[thread] = n.toGo[thread] || is && w.may(thread)
	}
	return api.OK
}

func (m *model) claim(prefix string, draw int) (int, sleep.Set, api.Errno) {
	n := m.find(prefix)
	if n == nil || len(n.left()) == 0 {
		return 0, 0, api.ErrNone
	}
	left := n.left()
	thread := left[modulo(draw, len(left))]
	w, _, _ := m.at(prefix)
	child := w.child(n.asleep, n.gone, thread)
	n.gone[thread] = true
	m.claims++
	return thread, child, api.OK
}

func (m *model) hand(prefix string, owner int) api.Errno {
	n := m.find(prefix)
	if n == nil {
		return api.ErrNone
	}
	n.owner = owner
	return api.OK
}

// modulo: a draw as 64 bits without a sign, modulo many.
func modulo(draw, many int) int {
	n := big.NewInt(int64(draw))
	if draw < 0 {
		n.Add(n, new(big.Int).Lsh(big.NewInt(1), 64))
	}
	return int(n.Mod(n, big.NewInt(int64(many))).Int64())
}

func set(r int, n int64) api.Instr { return api.Instr{Kind: api.OSet, R: r, N: n} }
func add(r int, n int64) api.Instr { return api.Instr{Kind: api.OAdd, R: r, N: n} }
func load(r, x int) api.Instr      { return api.Instr{Kind: api.OLoad, R: r, X: x} }
func store(r, x int) api.Instr     { return api.Instr{Kind: api.OStore, R: r, X: x} }
func lock(m int) api.Instr         { return api.Instr{Kind: api.OLock, X: m} }
func unlock(m int) api.Instr       { return api.Instr{Kind: api.OUnlock, X: m} }
func jump(r, x int) api.Instr      { return api.Instr{Kind: api.OJump, R: r, X: x} }
func assert(r int) api.Instr       { return api.Instr{Kind: api.OAssert, R: r} }

// code: a thread's instructions.
func code(list ...api.Instr) []api.Instr { return list }

// program: threads over two variables and two mutexes.
func program(threads ...[]api.Instr) api.Prog {
	return api.Prog{Vars: 2, Mutexes: 2, Threads: threads}
}

// anyProgram: a drawn one that may be, of few objects, so that its threads meet often.
func anyProgram(r *rand.Rand) api.Prog {
	p := program(make([][]api.Instr, 1+r.Intn(4))...)
	for i := range p.Threads {
		size := r.Intn(6)
		for range size {
			p.Threads[i] = append(p.Threads[i], anyInstr(r, size))
		}
	}
	return p
}

func anyInstr(r *rand.Rand, size int) api.Instr {
	switch reg, object := r.Intn(2), r.Intn(2); r.Intn(11) {
	case 0, 1:
		return load(reg, object)
	case 2:
		return store(reg, object)
	case 3, 4:
		return lock(object)
	case 5, 6:
		return unlock(object)
	case 7:
		return jump(reg, r.Intn(size+1))
	case 8:
		return add(reg, int64(r.Intn(5)-2))
	case 9:
		return assert(reg)
	default:
		return set(reg, int64(r.Intn(3)-1))
	}
}
