package machine_test

import (
	"math"
	"reflect"
	"slices"
	"testing"

	"sinnet/api"
	"sinnet/machine"
	"sinnet/prog"
)

// wrong is what state.New refuses.
type wrong struct {
	p    api.Prog
	fuel int
}

func wrongPrograms() map[string]wrong {
	right := program(code(set(0, 1)), code(store(0, 0)))
	return map[string]wrong{
		"fuel -1":           {right, -1},
		"fuel 9":            {right, 9},
		"least fuel":        {right, math.MinInt},
		"most fuel":         {right, math.MaxInt},
		"no thread":         {api.Prog{}, 8},
		"nothing right":     {api.Prog{Vars: -1, Mutexes: -1}, -1},
		"five threads":      {program(nil, nil, nil, nil, nil), 8},
		"nine instructions": {writers(9), 8},
		"five variables":    {api.Prog{Vars: 5, Threads: right.Threads}, 8},
		"three mutexes":     {api.Prog{Vars: 1, Mutexes: 3, Threads: right.Threads}, 8},
		"no kind":           {program(code(api.Instr{})), 8},
		"kind 9":            {program(nil, code(api.Instr{Kind: 9})), 8},
		"no such variable":  {program(code(load(0, 2))), 8},
		"no such mutex":     {program(code(lock(2))), 8},
		"no such register":  {program(code(assert(2))), 8},
		"a jump too far":    {program(code(jump(0, 2))), 8},
		"wrong, but unused": {program(code(set(0, 1), api.Instr{Kind: -1})), 0},
	}
}

// someBudgets: those that may be, at their ends, and some between them.
func someBudgets() []int { return []int{1, 2, 1000, api.MaxBudget - 1, api.MaxBudget} }

func noBudgets() []int {
	return []int{0, api.MaxBudget + 1, -1, -api.MaxBudget, 2 * api.MaxBudget, 1 << 32, 1<<32 + 1, 1 - 1<<32, math.MinInt, math.MinInt + 1, math.MaxInt}
}

func noNumbersOfWorkers() []int {
	return []int{0, 65, -1, -64, 66, 128, 256, 257, 1 << 32, 1<<32 + 1, 1 - 1<<32, math.MinInt, math.MinInt + 1, math.MaxInt}
}

// checkRefused: ErrArg, and no machine.
func checkRefused(t *testing.T, p api.Prog, fuel, workers, budget int) {
	t.Helper()
	if x, e := machine.New(p, fuel, workers, budget); x != nil || e != api.ErrArg {
		t.Errorf("New(%+v, %d, %d, %d): %v %v", p, fuel, workers, budget, x, e)
	}
}

// P14.1: state.New's error, whatever else is wrong; it and the others are one number.
func TestWhatNewRefuses(t *testing.T) {
	for name, c := range wrongPrograms() {
		t.Run(name, func(t *testing.T) {
			for _, workers := range append(noNumbersOfWorkers(), 1, 2, 64) {
				for _, budget := range append(noBudgets(), someBudgets()...) {
					checkRefused(t, c.p, c.fuel, workers, budget)
				}
			}
		})
	}
}

func TestWrongWorkersAndBudgets(t *testing.T) {
	for _, p := range programs() {
		for _, budget := range append(noBudgets(), someBudgets()...) {
			for _, workers := range noNumbersOfWorkers() {
				checkRefused(t, p, 8, workers, budget)
			}
		}
		for _, budget := range noBudgets() {
			for workers := 1; workers <= 64; workers++ {
				checkRefused(t, p, 8, workers, budget)
			}
		}
	}
}

// P14.1: 1 to 64 workers, and each of these budgets, may be.
func TestWorkersAndBudgetsThatMayBe(t *testing.T) {
	for workers := 1; workers <= 64; workers++ {
		for _, budget := range someBudgets() {
			b := begin(t, writers(1, 1), 8, workers, budget)
			b.checkOutside(t)
			b.run(t, "in turn", inTurn)
			if want := min(budget, 5); b.x.Nodes() != want || b.x.Complete() != (want == 5) {
				t.Errorf("%d workers, budget %d: %d nodes, %v", workers, budget, b.x.Nodes(), b.x.Complete())
			}
		}
	}
}

// P14.2: no such worker steps: wherever a machine is, nothing changes.
func TestNoSuchWorker(t *testing.T) {
	for _, workers := range []int{1, 2, 3, 63, 64} {
		b := begin(t, late(), 8, workers, 6)
		for k := 0; !b.x.Halted(); k++ {
			b.checkOutside(t)
			b.pickOne(t, inTurn, k)
		}
		b.checkStays(t)
	}
}

// P14.3: of a nil machine.
func TestNilMachine(t *testing.T) {
	var x *machine.Machine
	for range 2 {
		for _, worker := range append(noWorkers(64), 0, 1, 63) {
			for _, draw := range []int{0, 1, -1, math.MaxInt, math.MinInt} {
				if got := x.Step(worker, draw); got != machine.Idle {
					t.Errorf("Step(%d, %d): %v", worker, draw, got)
				}
			}
			if keys := x.Keys(worker); len(keys) != 0 {
				t.Errorf("Keys(%d): %x", worker, keys)
			}
		}
		if !x.Halted() || x.Complete() || x.Nodes() != 0 || x.Claims() != 0 || x.Blocked() != 0 || x.Workers() != 0 {
			t.Errorf("%v %v %d %d %d %d", x.Halted(), x.Complete(), x.Nodes(), x.Claims(), x.Blocked(), x.Workers())
		}
	}
}

// A machine that New did not make has no workers, no nodes, and nothing to be done.
func TestMachineWithoutWorkers(t *testing.T) {
	x := new(machine.Machine)
	for _, worker := range append(noWorkers(64), 0, 1, 63) {
		if got, keys := x.Step(worker, worker), x.Keys(worker); got != machine.Idle || len(keys) != 0 {
			t.Errorf("Step(%d): %v, Keys: %x", worker, got, keys)
		}
	}
	if !x.Halted() || !x.Complete() || x.Nodes() != 0 || x.Claims() != 0 || x.Blocked() != 0 || x.Workers() != 0 {
		t.Errorf("%v %v %d %d %d %d", x.Halted(), x.Complete(), x.Nodes(), x.Claims(), x.Blocked(), x.Workers())
	}
}

// room: with spare room behind it, that is filled.
func room(p api.Prog) api.Prog {
	threads := make([][]api.Instr, 0, len(p.Threads)+2)
	for _, list := range p.Threads {
		list = append(slices.Clone(list), set(1, 99), set(1, 98))
		threads = append(threads, list[:len(list)-2])
	}
	full := append(threads, code(set(1, 97)), nil)
	p.Threads = full[:len(threads)]
	return p
}

// whole: all that a program's memory has, its spare room too.
func whole(p api.Prog) [][]api.Instr {
	var all [][]api.Instr
	for _, list := range p.Threads[:cap(p.Threads)] {
		all = append(all, slices.Clone(list[:cap(list)]))
	}
	return all
}

// Rule 5: what is handed in stays as it is.
func TestProgramStays(t *testing.T) {
	for name, one := range programs() {
		p := room(one)
		was, like := whole(p), prog.Copy(p)
		x, e := machine.New(p, 5, 2, api.MaxBudget)
		for k := 0; e == api.OK && !x.Halted() && k < most; k++ {
			x.Step(k%2, k/2)
		}
		if e != api.OK || !prog.Same(p, like) || !reflect.DeepEqual(whole(p), was) {
			t.Errorf("%s: changed", name)
		}
	}
}

// Rule 5: what is handed in is not kept: it may be written to, and the machine stays what it is.
func TestProgramIsNotKept(t *testing.T) {
	for name, one := range programs() {
		p := prog.Copy(one)
		x, e := machine.New(p, 5, 2, api.MaxBudget)
		if e != api.OK {
			t.Fatal(e)
		}
		b := pair{x, modelOf(one, 5, 2, api.MaxBudget)}
		for i, list := range p.Threads {
			for n := range list {
				list[n] = lock(1)
			}
			p.Threads[i] = nil
		}
		b.run(t, name, inTurn)
		b.checkWhole(t, name, classes(t, one, 5))
	}
}

// Rule 5: what is answered is new memory: it may be written to, at each step, and read long behind it.
func TestKeysAreNewMemory(t *testing.T) {
	type told struct{ keys, like []string }
	for name, p := range programs() {
		b := begin(t, p, 5, 3, api.MaxBudget)
		var all []told
		for k := 0; !b.x.Halted(); k++ {
			b.pickOne(t, inTurn, k)
			for worker := range 3 {
				keys := b.x.Keys(worker)
				all = append(all, told{keys, slices.Clone(keys)})
				spoilt := b.x.Keys(worker)
				for i := range spoilt {
					spoilt[i] = "spoilt"
				}
				_ = append(spoilt, "more")
			}
			b.check(t)
		}
		for _, one := range all {
			if !slices.Equal(one.keys, one.like) {
				t.Fatalf("%s: %x, not %x", name, one.keys, one.like)
			}
		}
	}
}

// What is done to one machine touches no other one.
func TestTwoMachines(t *testing.T) {
	for _, one := range programs() {
		for _, two := range []api.Prog{one, writers(2, 1), late()} {
			a, b := begin(t, one, 5, 2, api.MaxBudget), begin(t, two, 5, 3, api.MaxBudget)
			c := begin(t, one, 5, 2, 3)
			for k := 0; !a.x.Halted() || !b.x.Halted() || !c.x.Halted(); k++ {
				for _, of := range []pair{a, b, c} {
					worker, draw := inTurn(of, k)
					of.step(t, worker, draw)
					a.check(t)
					b.check(t)
					c.check(t)
				}
			}
			a.checkWhole(t, "side by side", classes(t, one, 5))
			b.checkWhole(t, "side by side", classes(t, two, 5))
		}
	}
}
