package sleep_test

import (
	"math/rand"
	"testing"

	"sinnet/api"
	"sinnet/sleep"
	"sinnet/state"
)

// run is layer 2's words again: a program behind some steps.
type run struct {
	p      api.Prog
	place  [4]int
	fuel   [4]int
	regs   [4][2]int64
	vars   [4]int64
	holder [2]int // -1: nobody
}

// start: a program at its beginning.
func start(p api.Prog, fuel int) *run {
	return &run{p: p, fuel: [4]int{fuel, fuel, fuel, fuel}, holder: [2]int{-1, -1}}
}

// next: what a thread does next; false, if there is no such thread, or it does nothing next.
func (w *run) next(thread int) (api.Event, bool) {
	if thread < 0 || thread >= len(w.p.Threads) || w.fuel[thread] == 0 || w.place[thread] == len(w.p.Threads[thread]) {
		return api.Event{}, false
	}
	e := api.Event{Thread: thread, Kind: api.ELocal}
	switch in := w.p.Threads[thread][w.place[thread]]; in.Kind {
	case api.OLoad:
		e.Kind, e.Obj = api.ERead, in.X
	case api.OStore:
		e.Kind, e.Obj = api.EWrite, in.X
	case api.OLock:
		e.Kind, e.Obj = api.ELock, in.X
	case api.OUnlock:
		if w.holder[in.X] == thread {
			e.Kind, e.Obj = api.EUnlock, in.X
		} else {
			e.Fail = true
		}
	case api.OAssert:
		e.Fail = w.regs[thread][in.R] == 0
	}
	return e, true
}

// may: may it do it now?
func (w *run) may(thread int) bool {
	e, ok := w.next(thread)
	return ok && (e.Kind != api.ELock || w.holder[e.Obj] == -1)
}

// all: those who may.
func (w *run) all() []int {
	var list []int
	for thread := range w.p.Threads {
		if w.may(thread) {
			list = append(list, thread)
		}
	}
	return list
}

// step: a thread that may does it.
func (w *run) step(thread int) {
	e, _ := w.next(thread)
	in := w.p.Threads[thread][w.place[thread]]
	reg := &w.regs[thread][in.R]
	w.fuel[thread]--
	w.place[thread]++
	switch {
	case in.Kind == api.OLoad:
		*reg = w.vars[in.X]
	case in.Kind == api.OStore:
		w.vars[in.X] = *reg
	case in.Kind == api.OSet:
		*reg = in.N
	case in.Kind == api.OAdd:
		*reg += in.N
	case in.Kind == api.OJump && *reg != 0:
		w.place[thread] = in.X
	case e.Kind == api.ELock:
		w.holder[in.X] = thread
	case e.Kind == api.EUnlock:
		w.holder[in.X] = -1
	}
}

// depends is layer 3's words again, of events that may be.
func depends(a, b api.Event) bool {
	variables := (a.Kind == api.ERead || a.Kind == api.EWrite) && (b.Kind == api.ERead || b.Kind == api.EWrite)
	mutexes := (a.Kind == api.ELock || a.Kind == api.EUnlock) && (b.Kind == api.ELock || b.Kind == api.EUnlock)
	switch {
	case a.Thread == b.Thread:
		return true
	case variables && a.Obj == b.Obj:
		return a.Kind == api.EWrite || b.Kind == api.EWrite
	}
	return mutexes && a.Obj == b.Obj
}

// childOf is P8.2's Child, by those words alone.
func (w *run) childOf(asleep, earlier, thread int) sleep.Set {
	sum := 0
	done, ok := w.next(thread)
	for other, bit := range []int{1, 2, 4, 8, 16, 32, 64, 128} {
		next, does := w.next(other)
		chosen := among(asleep, other) || among(earlier, other)
		if ok && chosen && other != thread && does && !depends(done, next) {
			sum += bit
		}
	}
	return sleep.Set(sum)
}

// blockedOf is P8.2's Blocked, by those words alone.
func (w *run) blockedOf(asleep int) bool {
	all := w.all()
	for _, thread := range all {
		if !among(asleep, thread) {
			return false
		}
	}
	return len(all) > 0
}

// both: a program behind a row of threads' steps, by the project and by the words.
func both(t testing.TB, p api.Prog, fuel int, row ...int) (*state.State, *run) {
	t.Helper()
	x, _, e := state.Replay(p, fuel, row)
	if e != api.OK {
		t.Fatalf("Replay(%+v, %d, %v): %v", p, fuel, row, e)
	}
	w := start(p, fuel)
	for _, thread := range row {
		w.step(thread)
	}
	return x, w
}

// checkChild holds one answer of Child against the words.
func checkChild(t *testing.T, x *state.State, w *run, asleep, earlier, thread int) {
	t.Helper()
	got, want := sleep.Child(x, sleep.Set(asleep), sleep.Set(earlier), thread), w.childOf(asleep, earlier, thread)
	if got != want {
		t.Fatalf("%+v: Child(%v, %v, %d): %v, not %v", w, threadsOf(asleep), threadsOf(earlier), thread, got.All(), want.All())
	}
}

// checkBlocked holds one answer of Blocked against the words.
func checkBlocked(t *testing.T, x *state.State, w *run, asleep int) {
	t.Helper()
	if got := sleep.Blocked(x, sleep.Set(asleep)); got != w.blockedOf(asleep) {
		t.Fatalf("%+v: Blocked(%v): %v", w, threadsOf(asleep), got)
	}
}

func set(r int, n int64) api.Instr { return api.Instr{Kind: api.OSet, R: r, N: n} }
func add(r int, n int64) api.Instr { return api.Instr{Kind: api.OAdd, R: r, N: n} }
func load(r, x int) api.Instr      { return api.Instr{Kind: api.OLoad, R: r, X: x} }
func store(r, x int) api.Instr     { return api.Instr{Kind: api.OStore, R: r, X: x} }
func take(m int) api.Instr         { return api.Instr{Kind: api.OLock, X: m} }
func give(m int) api.Instr         { return api.Instr{Kind: api.OUnlock, X: m} }
func jump(r, x int) api.Instr      { return api.Instr{Kind: api.OJump, R: r, X: x} }
func assert(r int) api.Instr       { return api.Instr{Kind: api.OAssert, R: r} }

// code: a thread's instructions.
func code(list ...api.Instr) []api.Instr { return list }

// program: threads over all variables and mutexes that there can be.
func program(threads ...[]api.Instr) api.Prog {
	return api.Prog{Vars: api.MaxVars, Mutexes: api.MaxMutexes, Threads: threads}
}

// anyProgram: a drawn one that may be, of few objects, so that its threads meet often.
func anyProgram(r *rand.Rand) api.Prog {
	p := api.Prog{Vars: 1 + r.Intn(2), Mutexes: 1 + r.Intn(2), Threads: make([][]api.Instr, 1+r.Intn(4))}
	for i := range p.Threads {
		size := r.Intn(9)
		for range size {
			p.Threads[i] = append(p.Threads[i], anyInstr(r, p, size))
		}
	}
	return p
}

func anyInstr(r *rand.Rand, p api.Prog, size int) api.Instr {
	switch reg := r.Intn(2); r.Intn(11) {
	case 0, 1:
		return load(reg, r.Intn(p.Vars))
	case 2:
		return store(reg, r.Intn(p.Vars))
	case 3, 4:
		return take(r.Intn(p.Mutexes))
	case 5, 6:
		return give(r.Intn(p.Mutexes))
	case 7:
		return jump(reg, r.Intn(size+1))
	case 8:
		return add(reg, int64(r.Intn(5)-2))
	case 9:
		return assert(reg)
	default:
		return set(reg, int64(r.Intn(3)-1))
	}
}
