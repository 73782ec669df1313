package walk_test

import (
	"math/rand"
	"slices"
	"testing"

	"sinnet/api"
	"sinnet/event"
	"sinnet/foata"
	"sinnet/state"
	"sinnet/walk"
)

// told: what the walks of a program must tell.
type told struct {
	keys                  []string
	runs, prefixes, stuck int
}

// modelOf is the chapter's words again: all rows of threads, the short ones first, each done anew from the beginning on. False, if there are more than most of them.
func modelOf(p api.Prog, fuel, most int) (told, bool) {
	var want told
	var ends [][]int
	var waits []bool
	for rows := [][]int{nil}; len(rows) > 0; rows = rows[1:] {
		if want.prefixes++; want.prefixes > most {
			return told{}, false
		}
		longer, waiting := goOn(p, fuel, rows[0])
		rows = append(rows, longer...)
		if len(longer) == 0 {
			ends = append(ends, rows[0])
			waits = append(waits, waiting)
		}
	}
	want.runs = len(ends)
	for _, waiting := range waits {
		if waiting {
			want.stuck++
		}
	}
	want.keys = classesOf(p, fuel, ends)
	return want, true
}

// goOn: the rows that are one step longer, and whether somebody may not do now what it does next.
func goOn(p api.Prog, fuel int, row []int) ([][]int, bool) {
	var longer [][]int
	waiting := false
	for thread := range p.Threads {
		next := append(slices.Clone(row), thread)
		switch _, _, e := state.Replay(p, fuel, next); e {
		case api.OK:
			longer = append(longer, next)
		case api.ErrState:
			waiting = true
		}
	}
	return longer, waiting
}

// classesOf: a Key for each class, rising. A class is found by swaps of neighbours alone, from one of its executions on.
func classesOf(p api.Prog, fuel int, ends [][]int) []string {
	var keys []string
	seen := map[string]bool{}
	for _, end := range ends {
		_, list, _ := state.Replay(p, fuel, end)
		if seen[event.Print(list)] {
			continue
		}
		keys = append(keys, foata.Key(list))
		flood(list, seen)
	}
	slices.Sort(keys)
	return keys
}

// flood marks all rows that swaps of neighbours that don't depend on one another come to.
func flood(list []api.Event, seen map[string]bool) {
	seen[event.Print(list)] = true
	for rows := [][]api.Event{list}; len(rows) > 0; rows = rows[1:] {
		for i := 1; i < len(rows[0]); i++ {
			other := slices.Clone(rows[0])
			other[i-1], other[i] = other[i], other[i-1]
			if s := event.Print(other); !event.Depends(other[i-1], other[i]) && !seen[s] {
				seen[s] = true
				rows = append(rows, other)
			}
		}
	}
}

// checkWalks holds both walks against what they must tell, with just enough and with more.
func checkWalks(t *testing.T, p api.Prog, fuel int, want told) {
	t.Helper()
	for _, most := range []int{want.prefixes, want.prefixes + 1, api.MaxBudget, int(^uint(0) >> 1)} {
		got, e := walk.All(p, fuel, most)
		if e != api.OK || got.Runs != want.runs || got.Prefixes != want.prefixes || !slices.Equal(got.Keys, want.keys) {
			t.Errorf("All(%+v, %d, %d): %x, %d runs, %d prefixes, %v, not %x, %d, %d", p, fuel, most, got.Keys, got.Runs, got.Prefixes, e, want.keys, want.runs, want.prefixes)
		}
		if n, e := walk.Deadlocks(p, fuel, most); e != api.OK || n != want.stuck {
			t.Errorf("Deadlocks(%+v, %d, %d): %d %v, not %d", p, fuel, most, n, e, want.stuck)
		}
	}
	for _, most := range []int{want.prefixes - 1, want.prefixes / 2, 1, 0, -1, -want.prefixes, -int(^uint(0)>>1) - 1} {
		if most < want.prefixes {
			checkError(t, p, fuel, most, api.ErrFull)
		}
	}
}

// checkError: both walks tell that error, and nothing else.
func checkError(t *testing.T, p api.Prog, fuel, most int, want api.Errno) {
	t.Helper()
	if got, e := walk.All(p, fuel, most); e != want || len(got.Keys) != 0 || got.Runs != 0 || got.Prefixes != 0 {
		t.Errorf("All(%+v, %d, %d): %x, %d runs, %d prefixes, %v, not %v", p, fuel, most, got.Keys, got.Runs, got.Prefixes, e, want)
	}
	if n, e := walk.Deadlocks(p, fuel, most); e != want || n != 0 {
		t.Errorf("Deadlocks(%+v, %d, %d): %d %v, not %v", p, fuel, most, n, e, want)
	}
}

// anyProgram: a drawn one that may be, of few objects, so that its threads meet often.
func anyProgram(r *rand.Rand) api.Prog {
	p := api.Prog{Vars: 1 + r.Intn(2), Mutexes: 1 + r.Intn(2), Threads: make([][]api.Instr, 1+r.Intn(4))}
	for i := range p.Threads {
		size := 1 + r.Intn(8)
		if len(p.Threads) > 2 {
			size = r.Intn(4)
		}
		for range size {
			p.Threads[i] = append(p.Threads[i], anyInstr(r, p, size))
		}
	}
	return p
}

func anyInstr(r *rand.Rand, p api.Prog, size int) api.Instr {
	in := api.Instr{Kind: 1 + r.Intn(8)}
	if r.Intn(3) == 0 {
		in.Kind = api.OLock
	}
	switch in.Kind {
	case api.OLoad, api.OStore:
		in.R, in.X = r.Intn(2), r.Intn(p.Vars)
	case api.OSet, api.OAdd:
		in.R, in.N = r.Intn(2), int64(r.Intn(5)-2)
	case api.OLock, api.OUnlock:
		in.X = r.Intn(p.Mutexes)
	case api.OJump:
		in.R, in.X = r.Intn(2), r.Intn(size+1)
	case api.OAssert:
		in.R = r.Intn(2)
	}
	return in
}
