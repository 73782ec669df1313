// Package prog is layer 1: see shared/doc/01-prog.md.
package prog

import (
	"math"
	"slices"

	"sinnet/api"
)

// Right: may it be?
func Right(p api.Prog) bool {
	if !below(p.Vars, api.MaxVars+1) || !below(p.Mutexes, api.MaxMutexes+1) {
		return false
	}
	if len(p.Threads) < 1 || len(p.Threads) > api.MaxThreads {
		return false
	}
	for _, code := range p.Threads {
		if !rightCode(p, code) {
			return false
		}
	}
	return true
}

// rightCode: may these be a thread's instructions in p?
func rightCode(p api.Prog, code []api.Instr) bool {
	if len(code) > api.MaxCode {
		return false
	}
	for _, in := range code {
		if !rightInstr(p, len(code), in) {
			return false
		}
	}
	return true
}

// rightInstr: may it be an instruction in p, of a thread that has size of them?
func rightInstr(p api.Prog, size int, in api.Instr) bool {
	switch in.Kind {
	case api.OLoad, api.OStore:
		return below(in.R, api.Regs) && below(in.X, p.Vars) && in.N == 0
	case api.OSet, api.OAdd:
		return below(in.R, api.Regs) && in.X == 0 && math.MinInt8 <= in.N && in.N <= math.MaxInt8
	case api.OLock, api.OUnlock:
		return in.R == 0 && below(in.X, p.Mutexes) && in.N == 0
	case api.OJump:
		// A jump may go just behind the last instruction: its thread ends there.
		return below(in.R, api.Regs) && below(in.X, size+1) && in.N == 0
	case api.OAssert:
		return below(in.R, api.Regs) && in.X == 0 && in.N == 0
	}
	return false
}

// below: is n one of 0 to end - 1?
func below(n, end int) bool { return 0 <= n && n < end }

// Same: are they the same? Programs that may not be are held against each other, too.
func Same(a, b api.Prog) bool {
	if a.Vars != b.Vars || a.Mutexes != b.Mutexes || len(a.Threads) != len(b.Threads) {
		return false
	}
	for i, code := range a.Threads {
		if !slices.Equal(code, b.Threads[i]) {
			return false
		}
	}
	return true
}

// Copy: one like it, that shares no memory with it.
func Copy(p api.Prog) api.Prog {
	threads := copyList(p.Threads)
	for i, code := range threads {
		threads[i] = copyList(code)
	}
	return api.Prog{Vars: p.Vars, Mutexes: p.Mutexes, Threads: threads}
}

// copyList is not slices.Clone, which keeps hold of an empty list's spare room.
func copyList[T any](list []T) []T {
	if list == nil {
		return nil
	}
	like := make([]T, len(list))
	copy(like, list)
	return like
}
