package machine_test

import (
	"sinnet/api"
)

func set(r int, n int64) api.Instr { return api.Instr{Kind: api.OSet, R: r, N: n} }
func add(r int, n int64) api.Instr { return api.Instr{Kind: api.OAdd, R: r, N: n} }
func load(r, x int) api.Instr      { return api.Instr{Kind: api.OLoad, R: r, X: x} }
func store(r, x int) api.Instr     { return api.Instr{Kind: api.OStore, R: r, X: x} }
func lock(m int) api.Instr         { return api.Instr{Kind: api.OLock, X: m} }
func unlock(m int) api.Instr       { return api.Instr{Kind: api.OUnlock, X: m} }
func jump(r, x int) api.Instr      { return api.Instr{Kind: api.OJump, R: r, X: x} }
func assert(r int) api.Instr       { return api.Instr{Kind: api.OAssert, R: r} }

// code: a thread's instructions.
func code(list ...api.Instr) []api.Instr { return list }

// program: threads over two variables and two mutexes.
func program(threads ...[]api.Instr) api.Prog {
	return api.Prog{Vars: 2, Mutexes: 2, Threads: threads}
}

// run is layer 2's words again: a program behind some steps.
type run struct {
	p      api.Prog
	place  [4]int
	fuel   [4]int
	regs   [4][2]int64
	vars   [4]int64
	holder [2]int // -1: nobody
}

// next: what a thread does next; false, if it does nothing next.
func (w *run) next(thread int) (api.Event, bool) {
	if w.fuel[thread] == 0 || w.place[thread] == len(w.p.Threads[thread]) {
		return api.Event{}, false
	}
	e := api.Event{Thread: thread, Kind: api.ELocal}
	switch in := w.p.Threads[thread][w.place[thread]]; in.Kind {
	case api.OLoad:
		e.Kind, e.Obj = api.ERead, in.X
	case api.OStore:
		e.Kind, e.Obj = api.EWrite, in.X
	case api.OLock:
		e.Kind, e.Obj = api.ELock, in.X
	case api.OUnlock:
		if w.holder[in.X] == thread {
			e.Kind, e.Obj = api.EUnlock, in.X
		} else {
			e.Fail = true
		}
	case api.OAssert:
		e.Fail = w.regs[thread][in.R] == 0
	}
	return e, true
}

// may: may it do it now?
func (w *run) may(thread int) bool {
	e, ok := w.next(thread)
	return ok && (e.Kind != api.ELock || w.holder[e.Obj] == -1)
}

// step: a thread that may does it.
func (w *run) step(thread int) api.Event {
	e, _ := w.next(thread)
	in := w.p.Threads[thread][w.place[thread]]
	reg := &w.regs[thread][in.R]
	w.fuel[thread]--
	w.place[thread]++
	switch {
	case in.Kind == api.OLoad:
		*reg = w.vars[in.X]
	case in.Kind == api.OStore:
		w.vars[in.X] = *reg
	case in.Kind == api.OSet:
		*reg = in.N
	case in.Kind == api.OAdd:
		*reg += in.N
	case in.Kind == api.OJump && *reg != 0:
		w.place[thread] = in.X
	case e.Kind == api.ELock:
		w.holder[in.X] = thread
	case e.Kind == api.EUnlock:
		w.holder[in.X] = -1
	}
	return e
}

// behind: a program behind the steps of a prefix (a byte a step, the thread's number), and their events.
func behind(p api.Prog, fuel int, prefix string) (*run, []api.Event) {
	w := &run{p: p, fuel: [4]int{fuel, fuel, fuel, fuel}, holder: [2]int{-1, -1}}
	var row []api.Event
	for _, thread := range []byte(prefix) {
		row = append(row, w.step(int(thread)))
	}
	return w, row
}

// depends is layer 3's words again, of events that may be.
func depends(a, b api.Event) bool {
	variables := (a.Kind == api.ERead || a.Kind == api.EWrite) && (b.Kind == api.ERead || b.Kind == api.EWrite)
	mutexes := (a.Kind == api.ELock || a.Kind == api.EUnlock) && (b.Kind == api.ELock || b.Kind == api.EUnlock)
	switch {
	case a.Thread == b.Thread:
		return true
	case variables && a.Obj == b.Obj:
		return a.Kind == api.EWrite || b.Kind == api.EWrite
	}
	return mutexes && a.Obj == b.Obj
}

// known: which events of a row happen before the last one of a thread (itself, too), by layer 4's words; none, if it has none.
func known(row []api.Event, thread int) []bool {
	is := make([]bool, len(row))
	last := len(row) - 1
	for last >= 0 && row[last].Thread != thread {
		last--
	}
	for i := last; i >= 0; i-- {
		is[i] = i == last
		for later := i + 1; later <= last; later++ {
			is[i] = is[i] || is[later] && depends(row[i], row[later])
		}
	}
	return is
}

// racing: the places of a row that race with what a thread would do next, by layer 7's words.
func racing(row []api.Event, next api.Event) []int {
	before := known(row, next.Thread)
	var list []int
	for i, e := range row {
		if e.Thread != next.Thread && depends(e, next) && !before[i] {
			list = append(list, i)
		}
	}
	return list
}

// keyOf is layer 5's words again.
func keyOf(row []api.Event) string {
	levels := make([]int, len(row))
	count := 0
	for k := range row {
		for i := range k {
			if depends(row[i], row[k]) {
				levels[k] = max(levels[k], levels[i]+1)
			}
		}
		count = max(count, levels[k]+1)
	}
	var key []byte
	for level := range count {
		var list []byte
		for thread := range 4 {
			for i, e := range row {
				if levels[i] == level && e.Thread == thread {
					list = append(list, spell(e))
				}
			}
		}
		key = append(append(key, byte(len(list))), list...)
	}
	return string(append(key, 0))
}

// spell: an event's byte.
func spell(e api.Event) byte {
	b := byte(e.Thread + 4*e.Kind + 32*e.Obj)
	if e.Fail {
		b += 128
	}
	return b
}
