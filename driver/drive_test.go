package driver_test

import (
	"fmt"
	"math/rand"
	"slices"
	"testing"

	"sinnet/api"
	"sinnet/driver"
	"sinnet/machine"
	"sinnet/prog"
	"sinnet/report"
	"sinnet/walk"
)

// P16.3: reports' bytes worked out by hand, of 1 to 64 workers, however often.
func TestDriveByExamples(t *testing.T) {
	for _, c := range []struct {
		name   string
		p      api.Prog
		fuel   int
		budget int
		want   string
	}{
		{"nobody has anything to do", program(nil), 8, 1, none},
		{"nobody has fuel", writers(1, 1, 1, 1), 0, 1, none},
		{"one step", writers(1), 8, 2, "\x01\x00\x01\x00\x03\x01\x0c\x00"},
		{"two that read", program(code(load(0, 0)), code(load(0, 0))), 8, 5, "\x01\x00\x01\x00\x04\x02\x08\x09\x00"},
		{"two that write", writers(1, 1), 8, 5, both},
		{"two that write, and far more than is needed", writers(1, 1), 8, api.MaxBudget, both},
		{"two that write, a budget of one", writers(1, 1), 8, 1, nothing},
		{"two that write, a budget of two", writers(1, 1), 8, 2, nothing},
		{"they wait", program(code(lock(0), lock(0)), code(lock(0))), 8, 4, waits},
		{"it fails", program(code(assert(0), unlock(0))), 8, 3, fails},
		{"one is late", late(), 8, 7, "\x01\x00\x02\x00\x07\x01\x05\x01\x0d\x01\x0c\x00\x00\x06\x02\x0c\x05\x01\x0d\x00"},
	} {
		for workers := 1; workers <= 64; workers++ {
			for range 3 {
				got, _ := setup{c.p, c.fuel, workers, c.budget}.checkDrive(t, c.name)
				if s := report.Print(got); s != c.want {
					t.Errorf("%s, %d workers: %x, not %x", c.name, workers, s, c.want)
				}
			}
		}
	}
}

// P16.2: nothing is left from the beginning on: nobody steps.
func TestDriveOfNothing(t *testing.T) {
	for _, s := range []setup{{program(nil), 8, 1, 1}, {program(nil, nil, nil, nil), 8, 64, api.MaxBudget}, {writers(8, 8), 0, 3, 2}} {
		got, picks := s.checkDrive(t, "nothing")
		if len(picks) != 0 || !got.Complete || !slices.Equal(got.Keys, []string{"\x00"}) {
			t.Errorf("%+v: %+v, %v", s, got, picks)
		}
	}
}

// The chapter's: one worker is as one machine stepped by 0.
func TestDriveOfOneWorker(t *testing.T) {
	for name, p := range programs() {
		for _, budget := range []int{1, 2, 3, 5, 10, 20, 50, api.MaxBudget} {
			s := setup{p, 5, 1, budget}
			m, _ := s.begin()
			var want []driver.Pick
			for !m.Halted() {
				m.Step(0, 0)
				want = append(want, driver.Pick{})
			}
			got, picks := s.checkDrive(t, name)
			checkReport(t, name, got, m)
			if !slices.Equal(picks, want) {
				t.Errorf("%s, budget %d: %v, not %d steps of 0", name, budget, picks, len(want))
			}
		}
	}
}

// P16.3: with a budget of all prefixes, and with more, all classes, however many workers there are, and however often.
func TestDriveTellsAllClasses(t *testing.T) {
	for name, p := range programs() {
		t.Run(name, func(t *testing.T) {
			for _, fuel := range []int{0, 1, 3, 6} {
				sum := classes(t, p, fuel)
				for _, workers := range []int{1, 2, 3, 4, 7, 16, 64} {
					for _, budget := range []int{sum.Prefixes, sum.Prefixes, sum.Prefixes + 1, api.MaxBudget} {
						got, _ := setup{p, fuel, workers, budget}.checkDrive(t, name)
						checkAll(t, name, got, sum)
					}
				}
			}
		})
	}
}

// P16.2: with any smaller budget each key is a class, and Complete is told just if nothing is missing.
func TestDriveCutOff(t *testing.T) {
	for name, p := range programs() {
		t.Run(name, func(t *testing.T) {
			sum := classes(t, p, 5)
			for _, workers := range []int{1, 2, 5, 64} {
				for budget := 1; budget < sum.Prefixes; budget += 1 + budget/20 {
					got, _ := setup{p, 5, workers, budget}.checkDrive(t, name)
					checkSome(t, name, got, sum)
				}
			}
		})
	}
}

// Of four that write each prefix is a node: so each budget below all of them is met, and none of the others.
func TestDriveAroundTheBudget(t *testing.T) {
	for _, p := range []api.Prog{writers(1, 1, 1, 1), writers(1, 1), writers(3, 3), writers(2, 2, 1)} {
		sum := classes(t, p, 8)
		for _, workers := range []int{1, 2, 3, 8, 64} {
			for _, less := range []int{-1, 0, 1, 2} {
				got, picks := setup{p, 8, workers, sum.Prefixes - less}.checkDrive(t, "writers")
				if got.Complete != (less <= 0) || len(picks) < min(sum.Prefixes-1, sum.Prefixes-less) {
					t.Errorf("%d workers, %d of %d nodes: Complete %v, %d steps", workers, sum.Prefixes-less, sum.Prefixes, got.Complete, len(picks))
				}
				checkSome(t, "writers", got, sum)
			}
		}
	}
}

// steppers: how many workers did a step.
func steppers(picks []driver.Pick) int {
	did := map[int]bool{}
	for _, pick := range picks {
		did[pick.Worker] = true
	}
	return len(did)
}

// P16.2: each worker steps: where there is enough to do, none of few goes without, nor do most of as many as may be.
func TestEachWorkerSteps(t *testing.T) {
	for range 20 {
		for workers := 1; workers <= 4; workers++ {
			_, picks := setup{writers(2, 2, 1, 1), 8, workers, api.MaxBudget}.checkDrive(t, "writers")
			if did := steppers(picks); did != workers {
				t.Errorf("%d of %d workers did something", did, workers)
			}
		}
	}
	p := writers(3, 3, 2, 1)
	got, picks := setup{p, 8, 64, api.MaxBudget}.checkDrive(t, "many writers")
	checkAll(t, "many writers", got, classes(t, p, 8))
	if did := steppers(picks); did < 32 {
		t.Errorf("%d of 64 workers did something", did)
	}
}

// The steps that are told are as a script can tell them: a byte for who, a byte for the draw.
func TestStepsAreSmall(t *testing.T) {
	for _, workers := range []int{1, 2, 5, 63, 64} {
		_, picks := setup{writers(2, 2, 1, 1), 8, workers, api.MaxBudget}.checkDrive(t, "writers")
		for _, pick := range picks {
			if pick.Draw < 0 || pick.Draw > 255 {
				t.Fatalf("%d workers: %+v", workers, pick)
			}
		}
	}
}

// P16.2, P16.3: drawn programs, of many workers and budgets.
func TestDrawnDrives(t *testing.T) {
	r := rand.New(rand.NewSource(2))
	several, cutOff := 0, 0
	for range 2000 {
		p, fuel := anyProgram(r), r.Intn(9)
		sum, e := walk.All(p, fuel, 600)
		if e != api.OK {
			continue
		}
		if len(sum.Keys) > 1 {
			several++
		}
		name := fmt.Sprintf("%+v, fuel %d", p, fuel)
		whole, _ := setup{p, fuel, anyWorkers(r), sum.Prefixes}.checkDrive(t, name)
		checkAll(t, name, whole, sum)
		some, _ := setup{p, fuel, anyWorkers(r), 1 + r.Intn(sum.Prefixes)}.checkDrive(t, name)
		checkSome(t, name, some, sum)
		if !some.Complete {
			cutOff++
		}
	}
	if several < 300 || cutOff < 300 {
		t.Errorf("%d of several classes, %d cut off: too few", several, cutOff)
	}
}

// Programs of far more nodes than anybody could make: what is cut off is classes, and not Complete.
func TestFarTooMany(t *testing.T) {
	takes := slices.Repeat(code(lock(0), unlock(0)), 4)
	mixed := code(lock(1), load(0, 0), store(0, 1), unlock(1), load(1, 1), store(1, 0), assert(1), jump(0, 0))
	for i, p := range []api.Prog{writers(8, 8, 8, 8), program(takes, takes, takes, takes), program(mixed, mixed, mixed, mixed)} {
		for _, workers := range []int{1, 3, 64} {
			for _, budget := range []int{1, 2, 31, 3000} {
				name := fmt.Sprintf("program %d, %d workers, budget %d", i, workers, budget)
				s := setup{p, 8, workers, budget}
				got, picks := s.checkDrive(t, name)
				for _, key := range got.Keys {
					if !isClass(p, 8, key) {
						t.Fatalf("%s: %x is no class", name, key)
					}
				}
				if got.Complete || len(picks) < budget || budget == 3000 && workers < 64 && len(got.Keys) < 10 {
					t.Errorf("%s: Complete %v, %d steps, %d keys", name, got.Complete, len(picks), len(got.Keys))
				}
			}
		}
	}
}

// More classes than a report may have bytes for: they are all told, and it is no report that may be.
func TestDriveOfTooManyClasses(t *testing.T) {
	if testing.Short() {
		t.Skip("long")
	}
	s := setup{writers(3, 3, 3, 3), 8, 4, 200000}
	got, picks, e := s.drive()
	again, f := s.play(picks)
	if e != api.OK || f != api.OK || got.Complete || len(got.Keys) <= 65535 || !slices.Equal(again.Keys, got.Keys) || again.Complete || report.Right(got) {
		t.Errorf("%v %v: %d keys, %d keys", e, f, len(got.Keys), len(again.Keys))
	}
}

// P16.2: the steps behind which nothing is left, cut off at each place: ahead of the last one it isn't halted.
func TestStepsAreNeeded(t *testing.T) {
	for name, p := range programs() {
		s := setup{p, 4, 3, api.MaxBudget}
		_, picks := s.checkDrive(t, name)
		m, _ := s.begin()
		for i, pick := range picks {
			if deed := m.Step(pick.Worker, pick.Draw); deed == machine.Idle || m.Halted() != (i == len(picks)-1) {
				t.Fatalf("%s: step %d of %d: %v, Halted %v", name, i, len(picks), deed, m.Halted())
			}
		}
	}
}

// FuzzDrive: any bytes as a program.
func FuzzDrive(f *testing.F) {
	for _, p := range programs() {
		s, _ := prog.Print(p)
		f.Add(s, 8, 1, 100)
		f.Add(s, 5, 2, 7)
		f.Add(s, 4, 64, 2000)
		f.Add(s, 9, 65, 0)
	}
	f.Fuzz(func(t *testing.T, program string, fuel, workers, budget int) {
		s, ok := setupOf(program, fuel, workers, budget)
		if !ok {
			return
		}
		got, _ := s.checkDrive(t, "fuzzed")
		for _, key := range got.Keys {
			if !isClass(s.p, fuel, key) {
				t.Fatalf("%x is no class", key)
			}
		}
		sum, e := walk.All(s.p, fuel, 1000)
		if e != api.OK || workers < 1 || workers > 64 || budget < 1 {
			return
		}
		checkSome(t, "fuzzed", got, sum)
		if budget >= sum.Prefixes {
			checkAll(t, "fuzzed", got, sum)
		}
	})
}
