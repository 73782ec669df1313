package driver_test

import (
	"math"
	"math/rand"
	"slices"
	"testing"

	"sinnet/api"
	"sinnet/walk"
)

func set(r int, n int64) api.Instr { return api.Instr{Kind: api.OSet, R: r, N: n} }
func add(r int, n int64) api.Instr { return api.Instr{Kind: api.OAdd, R: r, N: n} }
func load(r, x int) api.Instr      { return api.Instr{Kind: api.OLoad, R: r, X: x} }
func store(r, x int) api.Instr     { return api.Instr{Kind: api.OStore, R: r, X: x} }
func lock(m int) api.Instr         { return api.Instr{Kind: api.OLock, X: m} }
func unlock(m int) api.Instr       { return api.Instr{Kind: api.OUnlock, X: m} }
func jump(r, x int) api.Instr      { return api.Instr{Kind: api.OJump, R: r, X: x} }
func assert(r int) api.Instr       { return api.Instr{Kind: api.OAssert, R: r} }

// code: a thread's instructions.
func code(list ...api.Instr) []api.Instr { return list }

// program: threads over two variables and two mutexes.
func program(threads ...[]api.Instr) api.Prog {
	return api.Prog{Vars: 2, Mutexes: 2, Threads: threads}
}

// writers: threads that write one variable so many times each.
func writers(sizes ...int) api.Prog {
	p := program()
	for _, size := range sizes {
		p.Threads = append(p.Threads, slices.Repeat(code(store(0, 0)), size))
	}
	return p
}

// writes: the key of writes of the variable 0 by these threads, one behind the other.
func writes(threads string) string {
	var key []byte
	for _, digit := range []byte(threads) {
		key = append(key, 1, digit-'0'+4*api.EWrite)
	}
	return string(append(key, 0))
}

// late: a thread whose first step races with nobody's, and whose second one writes what the thread 0 writes: so it is behind two steps that the empty prefix is asked for more.
func late() api.Prog { return program(code(store(0, 0)), code(set(0, 1), store(0, 0))) }

// programs whose prefixes can all be gone over.
func programs() map[string]api.Prog {
	w, r, local := code(store(0, 0)), code(load(0, 0)), code(set(0, 1))
	take := code(lock(0), store(0, 0), unlock(0))
	count := code(load(0, 0), add(0, 1), store(0, 0))
	return map[string]api.Prog{
		"a thread that has nothing":               program(nil),
		"four that have nothing":                  program(nil, nil, nil, nil),
		"one thread":                              program(count),
		"one thread that fails":                   program(code(assert(0), unlock(1), store(0, 0))),
		"one thread that waits for itself":        program(code(lock(0), lock(0), store(0, 0))),
		"a loop that fuel ends":                   program(code(set(0, 1), jump(0, 0)), w),
		"two that read":                           program(r, r),
		"two that write":                          writers(1, 1),
		"one writes, two read":                    program(w, r, r),
		"three that write":                        writers(1, 1, 1),
		"four that write":                         writers(1, 1, 1, 1),
		"two that write twice":                    writers(2, 2),
		"two that write four times":               writers(4, 4),
		"three of three local steps":              program(slices.Repeat(local, 3), slices.Repeat(local, 3), slices.Repeat(local, 3)),
		"two that count":                          program(count, count),
		"two write, one does something local":     program(w, w, local),
		"one is late":                             late(),
		"two that take a mutex, and give it back": program(take, take),
		"two mutexes, in unlike orders":           program(code(lock(0), lock(1), unlock(1), unlock(0)), code(lock(1), lock(0), unlock(0), unlock(1))),
		"a mutex taken twice":                     program(code(lock(0), lock(0)), code(lock(0))),
		"a mutex that nobody gives, and others":   program(code(lock(0), load(0, 0)), code(lock(0)), code(store(0, 0)), local),
		"those that wait for one another":         program(code(lock(0), lock(1)), code(lock(1), lock(0)), code(lock(0), unlock(0))),
		"asserts that may fail":                   program(code(set(0, 1), store(0, 0)), code(load(0, 0), assert(0)), code(load(1, 0), assert(1))),
		"they wait by a loop":                     program(code(load(0, 0), jump(0, 3), jump(1, 0)), code(set(0, 1), store(0, 0))),
		"one writes what the other one reads":     program(code(store(0, 0), load(0, 1)), code(store(0, 1), load(0, 0))),
	}
}

// classes: all of a program whose prefixes can be gone over.
func classes(t testing.TB, p api.Prog, fuel int) walk.Sum {
	t.Helper()
	sum, e := walk.All(p, fuel, api.MaxBudget)
	if e != api.OK {
		t.Fatal(e)
	}
	return sum
}

// anyProgram: a drawn one that may be, of few objects, so that its threads meet often.
func anyProgram(r *rand.Rand) api.Prog {
	p := api.Prog{Vars: 1 + r.Intn(2), Mutexes: 1 + r.Intn(2), Threads: make([][]api.Instr, 1+r.Intn(4))}
	for i := range p.Threads {
		size := 1 + r.Intn(6)
		if len(p.Threads) > 2 {
			size = r.Intn(4)
		}
		for range size {
			p.Threads[i] = append(p.Threads[i], anyInstr(r, p, size))
		}
	}
	return p
}

func anyInstr(r *rand.Rand, p api.Prog, size int) api.Instr {
	switch reg := r.Intn(2); r.Intn(12) {
	case 0, 1:
		return load(reg, r.Intn(p.Vars))
	case 2, 3:
		return store(reg, r.Intn(p.Vars))
	case 4, 5:
		return lock(r.Intn(p.Mutexes))
	case 6, 7:
		return unlock(r.Intn(p.Mutexes))
	case 8:
		return jump(reg, r.Intn(size+1))
	case 9:
		return add(reg, int64(r.Intn(5)-2))
	case 10:
		return assert(reg)
	default:
		return set(reg, int64(r.Intn(3)-1))
	}
}

// anyWorkers: a few, mostly.
func anyWorkers(r *rand.Rand) int {
	if r.Intn(10) == 0 {
		return 1 + r.Intn(64)
	}
	return 1 + r.Intn(5)
}

// wrong is what state.New refuses.
type wrong struct {
	p    api.Prog
	fuel int
}

func wrongPrograms() map[string]wrong {
	right := program(code(set(0, 1)), code(store(0, 0)))
	return map[string]wrong{
		"fuel -1":           {right, -1},
		"fuel 9":            {right, 9},
		"least fuel":        {right, math.MinInt},
		"most fuel":         {right, math.MaxInt},
		"no thread":         {api.Prog{}, 8},
		"nothing right":     {api.Prog{Vars: -1, Mutexes: -1}, -1},
		"five threads":      {program(nil, nil, nil, nil, nil), 8},
		"nine instructions": {writers(9), 8},
		"five variables":    {api.Prog{Vars: 5, Threads: right.Threads}, 8},
		"three mutexes":     {api.Prog{Vars: 1, Mutexes: 3, Threads: right.Threads}, 8},
		"no kind":           {program(code(api.Instr{})), 8},
		"kind 9":            {program(nil, code(api.Instr{Kind: 9})), 8},
		"no such variable":  {program(code(load(0, 2))), 8},
		"no such mutex":     {program(code(lock(2))), 8},
		"no such register":  {program(code(assert(2))), 8},
		"a jump too far":    {program(code(jump(0, 2))), 8},
		"wrong, but unused": {program(code(set(0, 1), api.Instr{Kind: -1})), 0},
	}
}

func noBudgets() []int {
	return []int{0, api.MaxBudget + 1, -1, -api.MaxBudget, 2 * api.MaxBudget, 1 << 32, 1<<32 + 1, 1 - 1<<32, math.MinInt, math.MinInt + 1, math.MaxInt}
}

func noNumbersOfWorkers() []int {
	return []int{0, 65, -1, -64, 66, 128, 256, 257, 1 << 32, 1<<32 + 1, 1 - 1<<32, math.MinInt, math.MinInt + 1, math.MaxInt}
}
