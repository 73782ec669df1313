package machine_test

import (
	"math/rand"
	"testing"

	"sinnet/api"
	"sinnet/machine"
	"sinnet/prog"
	"sinnet/walk"
)

// anyProgram: a drawn one that may be, of few objects, so that its threads meet often.
func anyProgram(r *rand.Rand) api.Prog {
	p := api.Prog{Vars: 1 + r.Intn(2), Mutexes: 1 + r.Intn(2), Threads: make([][]api.Instr, 1+r.Intn(4))}
	for i := range p.Threads {
		size := 1 + r.Intn(6)
		if len(p.Threads) > 2 {
			size = r.Intn(4)
		}
		for range size {
			p.Threads[i] = append(p.Threads[i], anyInstr(r, p, size))
		}
	}
	return p
}

func anyInstr(r *rand.Rand, p api.Prog, size int) api.Instr {
	switch reg := r.Intn(2); r.Intn(12) {
	case 0, 1:
		return load(reg, r.Intn(p.Vars))
	case 2, 3:
		return store(reg, r.Intn(p.Vars))
	case 4, 5:
		return lock(r.Intn(p.Mutexes))
	case 6, 7:
		return unlock(r.Intn(p.Mutexes))
	case 8:
		return jump(reg, r.Intn(size+1))
	case 9:
		return add(reg, int64(r.Intn(5)-2))
	case 10:
		return assert(reg)
	default:
		return set(reg, int64(r.Intn(3)-1))
	}
}

// anyWorkers: a few, mostly.
func anyWorkers(r *rand.Rand) int {
	if r.Intn(10) == 0 {
		return 1 + r.Intn(64)
	}
	return 1 + r.Intn(5)
}

// anyOrder: one of all, with its own draws.
func anyOrder(r *rand.Rand) picker {
	switch seed := r.Int63(); r.Intn(5) {
	case 0:
		return inTurn
	case 1:
		return lettersLate(seed)
	case 2:
		return thievesEarly(seed)
	default:
		return drawn(seed, func(r *rand.Rand) int { return int(r.Uint64()) })
	}
}

// add: of all machines together.
func (a *ways) add(w ways) {
	a.readPushed += w.readPushed
	a.readHanded += w.readHanded
	a.readNobodyLeft += w.readNobodyLeft
	a.readHadByOther += w.readHadByOther
	a.readHadByReader += w.readHadByReader
	a.stole += w.stole
	a.nothingToSteal += w.nothingToSteal
	a.stealFromItself += w.stealFromItself
	a.done += w.done
	a.over += w.over
	a.intoMoreLeft += w.intoMoreLeft
	a.intoNobodyLeft += w.intoNobodyLeft
	a.markedHere += w.markedHere
	a.letters += w.letters
	a.blocked += w.blocked
	a.keys += w.keys
}

// few: is one of these ways rarer than that?
func (a *ways) few(n int) bool {
	return min(a.readPushed, a.readNobodyLeft, a.readHadByOther, a.readHadByReader, a.stole, a.nothingToSteal, a.stealFromItself, a.over, a.intoMoreLeft, a.intoNobodyLeft, a.markedHere, a.letters, a.blocked, a.keys) < n
}

// P14.4: drawn programs, workers, steps and draws, to the end, and cut off anywhere: by a budget, or as nobody steps any more.
func TestDrawnMachines(t *testing.T) {
	r := rand.New(rand.NewSource(14))
	var all ways
	several := 0
	for range 4000 {
		p, fuel := anyProgram(r), r.Intn(9)
		sum, e := walk.All(p, fuel, 600)
		if e != api.OK {
			continue
		}
		for range 3 {
			b := begin(t, p, fuel, anyWorkers(r), sum.Prefixes)
			b.run(t, "drawn", anyOrder(r))
			b.checkWhole(t, "drawn", sum)
			all.add(b.m.was)

			cut := begin(t, p, fuel, anyWorkers(r), 1+r.Intn(b.x.Nodes()+1))
			pick := anyOrder(r)
			for k := 0; k < 300 && !cut.x.Halted(); k++ {
				cut.pickOne(t, pick, k)
				cut.checkCutOff(t, sum.Keys)
			}
			cut.checkOutside(t)
			all.add(cut.m.was)
		}
		if len(sum.Keys) > 1 {
			several++
		}
	}
	if all.few(250) || several < 600 {
		t.Errorf("%+v, %d of several classes: too few", all, several)
	}
}

// Behind any steps a machine that is told the same is the same.
func TestSameStepsSameMachine(t *testing.T) {
	r := rand.New(rand.NewSource(15))
	for range 200 {
		p, fuel, workers, budget := anyProgram(r), r.Intn(6), anyWorkers(r), 1+r.Intn(300)
		a := begin(t, p, fuel, workers, budget)
		steps := a.run(t, "drawn", anyOrder(r))
		b := begin(t, p, fuel, workers, budget)
		for _, s := range steps {
			if got := b.step(t, s.worker, s.draw); got != s.want || b.x.Nodes() != s.nodes {
				t.Fatalf("%+v: Step(%d, %d): %v, not %v", p, s.worker, s.draw, got, s.want)
			}
		}
		if a.x.Complete() != b.x.Complete() || a.x.Blocked() != b.x.Blocked() {
			t.Fatalf("%+v: Complete %v, %v", p, a.x.Complete(), b.x.Complete())
		}
	}
}

// Two workers, few nodes, and each row of few steps.
func TestEachRowOfSteps(t *testing.T) {
	const long = 7
	for _, p := range []api.Prog{writers(1, 1), late(), writers(1, 1, 1), program(code(lock(0), lock(0)), code(lock(0)))} {
		sum := classes(t, p, 8)
		for row := range 1 << (2 * long) {
			b := begin(t, p, 8, 2, sum.Prefixes)
			left := row
			for range long {
				b.step(t, left%2, left/2%2)
				left /= 4
			}
			b.checkCutOff(t, sum.Keys)
		}
	}
}

// FuzzMachine: any bytes as a program, and as steps: of each two bytes the first one says who, the second one the draw.
func FuzzMachine(f *testing.F) {
	for _, p := range programs() {
		s, _ := prog.Print(p)
		f.Add(s, 8, 1, 100, []byte(nil))
		f.Add(s, 5, 2, 7, []byte("\x00\x00\x01\x00\x01\xff\x00\x01\x01\x00\x00\x00"))
		f.Add(s, 4, 64, 50, []byte("\x3f\x00\x3f\x00\x00\x3f\x00\x00\x40\x00\xff\x01\x3f\x80"))
	}
	f.Fuzz(func(t *testing.T, s string, fuel, workers, budget int, steps []byte) {
		p, e := prog.Read(s)
		if e != api.OK || fuel < 0 || fuel > api.MaxFuel || workers < 1 || workers > api.MaxWorkers || budget < 1 || budget > api.MaxBudget {
			checkRefused(t, p, fuel, workers, budget)
			return
		}
		cut := begin(t, p, fuel, workers, budget)
		for ; len(steps) >= 2 && cut.x.Nodes() < 200; steps = steps[2:] {
			cut.step(t, int(int8(steps[0])), int(int8(steps[1])))
		}
		for _, key := range cut.keys() {
			if !isClass(p, fuel, key) {
				t.Fatalf("%x is no class", key)
			}
		}
		sum, e := walk.All(p, fuel, 300)
		if e != api.OK {
			return
		}
		cut.checkCutOff(t, sum.Keys)
		cut.run(t, "in turn", inTurn)
		cut.checkCutOff(t, sum.Keys)
		if budget >= sum.Prefixes {
			cut.checkWhole(t, "in turn", sum)
		}
	})
}

// P14.2: whatever is popped has somebody left: so no machine that New made is ever Done.
func TestNeverDone(t *testing.T) {
	for name, p := range programs() {
		for order, pick := range orders() {
			b := begin(t, p, 5, 4, api.MaxBudget)
			for _, s := range b.run(t, order, pick) {
				if s.want == machine.Done {
					t.Errorf("%s, %s: Done", name, order)
				}
			}
		}
	}
}
