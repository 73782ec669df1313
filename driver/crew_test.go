package driver

import (
	"bytes"
	"math/rand"
	"runtime"
	"slices"
	"testing"
	"time"

	"sinnet/api"
	"sinnet/machine"
	"sinnet/report"
	"sinnet/walk"
)

// few programs, of few prefixes each.
func few() map[string]api.Prog {
	read, write, local := api.Instr{Kind: api.OLoad}, api.Instr{Kind: api.OStore}, api.Instr{Kind: api.OSet}
	take, give := api.Instr{Kind: api.OLock}, api.Instr{Kind: api.OUnlock}
	of := func(threads ...[]api.Instr) api.Prog { return api.Prog{Vars: 1, Mutexes: 1, Threads: threads} }
	return map[string]api.Prog{
		"nobody has anything to do": of(nil),
		"two that write":            of([]api.Instr{write}, []api.Instr{write}),
		"four that write":           of([]api.Instr{write}, []api.Instr{write}, []api.Instr{write}, []api.Instr{write}),
		"one is late":               of([]api.Instr{write}, []api.Instr{local, write}),
		"two that count":            of([]api.Instr{read, write}, []api.Instr{read, write}),
		"reads and writes":          of([]api.Instr{read, write}, []api.Instr{write, read}, []api.Instr{write}),
		"they take a mutex":         of([]api.Instr{take, write, give}, []api.Instr{take, give}),
		"they wait":                 of([]api.Instr{take, take}, []api.Instr{take}),
	}
}

// order: who has a turn next, with which draw; k is how many turns there were.
type order func(k, workers int) Pick

func orders(r *rand.Rand) map[string]order {
	return map[string]order{
		"rising":      func(k, workers int) Pick { return Pick{k % workers, k / workers % workers} },
		"falling":     func(k, workers int) Pick { return Pick{workers - 1 - k%workers, k / workers % workers} },
		"the last":    func(k, workers int) Pick { return Pick{workers - 1, k % workers} },
		"each thrice": func(k, workers int) Pick { return Pick{k / 3 % workers, k % workers} },
		"drawn":       func(_, workers int) Pick { return Pick{r.Intn(workers), r.Intn(workers)} },
		"any draws":   func(_, workers int) Pick { return Pick{r.Intn(workers), int(r.Uint64())} },
		// Each one tries to steal from the one that had the turn ahead of it: of two, what the other one just stole.
		"thieves of thieves": func(k, workers int) Pick { return Pick{(k + 1) % workers, k % workers} },
	}
}

// inOrder: turns by hand, till the machine is halted.
func inOrder(t *testing.T, m *machine.Machine, next order) *crew {
	t.Helper()
	c := &crew{m: m}
	for k := 0; !m.Halted(); k++ {
		if k > 200000 {
			t.Fatalf("not halted behind %d turns and %d steps", k, len(c.picks))
		}
		c.turn(next(k, m.Workers()))
	}
	return c
}

// P16.3: however the workers come: all classes, and the steps that are told are all there were.
func TestTurnsInAnyOrder(t *testing.T) {
	r := rand.New(rand.NewSource(3))
	for name, p := range few() {
		sum, e := walk.All(p, 8, 10000)
		if e != api.OK {
			t.Fatal(e)
		}
		for _, workers := range []int{1, 2, 3, 5, 64} {
			for way, next := range orders(r) {
				for _, budget := range []int{sum.Prefixes, 1 + sum.Prefixes/2} {
					m, _ := machine.New(p, 8, workers, budget)
					c := inOrder(t, m, next)
					got := tell(m)
					again, e := Play(p, 8, workers, budget, c.picks)
					if e != api.OK || report.Print(again) != report.Print(got) {
						t.Fatalf("%s, %s, %d workers: %v: Play %+v, not %+v", name, way, workers, e, again, got)
					}
					if budget == sum.Prefixes && (!got.Complete || !slices.Equal(got.Keys, sum.Keys)) {
						t.Fatalf("%s, %s, %d workers: %+v, not all of %x", name, way, workers, got, sum.Keys)
					}
				}
			}
		}
	}
}

// A thief goes on with what it stole in the same turn; who finds nothing, or comes behind the end, does nothing that is told.
func TestTurnsByHand(t *testing.T) {
	const idle, stole, into = machine.Idle, machine.Stole, machine.Into
	for _, c := range []struct {
		turns []Pick
		want  []Pick
		deeds []machine.Deed
	}{
		{[]Pick{{0, 0}}, []Pick{{0, 0}}, []machine.Deed{into}},
		{[]Pick{{0, 1}, {0, 0}}, []Pick{{0, 1}, {0, 0}}, []machine.Deed{into, into}},
		{[]Pick{{1, 1}, {2, 1}, {2, 2}, {1, 2}}, nil, nil},
		{[]Pick{{1, 0}}, []Pick{{1, 0}, {1, 0}}, []machine.Deed{stole, into}},
		{[]Pick{{1, 1}, {2, 3}, {0, 1}}, []Pick{{2, 3}, {2, 3}}, []machine.Deed{stole, into}},
		{[]Pick{{1, 0}, {0, 1}, {1, 0}, {0, 1}, {1, 0}, {0, 1}}, []Pick{{1, 0}, {1, 0}, {0, 1}, {0, 1}, {1, 0}, {0, 1}}, []machine.Deed{stole, into, stole, into, into, into}},
	} {
		write := []api.Instr{{Kind: api.OStore}}
		p := api.Prog{Vars: 1, Threads: [][]api.Instr{write, write}}
		m, _ := machine.New(p, 8, 3, 100)
		like, _ := machine.New(p, 8, 3, 100)
		crew := &crew{m: m}
		for _, pick := range c.turns {
			crew.turn(pick)
		}
		if !slices.Equal(crew.picks, c.want) {
			t.Errorf("%v: %v, not %v", c.turns, crew.picks, c.want)
		}
		for i, pick := range c.want {
			if deed := like.Step(pick.Worker, pick.Draw); deed != c.deeds[i] || deed == idle {
				t.Errorf("%v: step %d: %v, not %v", c.turns, i, deed, c.deeds[i])
			}
		}
		for _, pick := range c.turns {
			if m.Halted() {
				crew.turn(pick)
			}
		}
		if !slices.Equal(crew.picks, c.want) {
			t.Errorf("%v: more behind the end: %v", c.turns, crew.picks)
		}
	}
}

// P16.2: in a round each worker has one turn: a step, or two of a thief; and behind it nobody has the mutex.
func TestRounds(t *testing.T) {
	for name, p := range few() {
		for _, workers := range []int{1, 2, 3, 64} {
			m, _ := machine.New(p, 8, workers, api.MaxBudget)
			like, _ := machine.New(p, 8, workers, api.MaxBudget)
			c := &crew{m: m}
			for draw := 0; !m.Halted(); draw = (draw + 1) % workers {
				ahead := len(c.picks)
				c.round(workers, draw)
				if !c.mutex.TryLock() {
					t.Fatal("somebody has the mutex")
				}
				c.mutex.Unlock()
				came := map[int]machine.Deed{}
				for _, pick := range c.picks[ahead:] {
					deed := like.Step(pick.Worker, pick.Draw)
					if was, ok := came[pick.Worker]; pick.Draw != draw || ok && was != machine.Stole {
						t.Fatalf("%s, %d workers: %v in one round", name, workers, c.picks[ahead:])
					}
					came[pick.Worker] = deed
				}
				for worker, deed := range came {
					if deed == machine.Stole || deed == machine.Idle {
						t.Fatalf("%s, %d workers: %d's last deed of a round: %v", name, workers, worker, deed)
					}
				}
			}
		}
	}
}

// there: how many workers have come to their turn, and are not through it.
func there() int {
	stacks := make([]byte, 1<<20)
	return bytes.Count(stacks[:runtime.Stack(stacks, true)], []byte("(*crew).turn("))
}

// Workers really run at once: while somebody has the mutex all of them are there, and wait for it.
func TestWorkersAreThereAtOnce(t *testing.T) {
	for _, workers := range []int{1, 2, 5, 64} {
		m, _ := machine.New(few()["four that write"], 8, workers, api.MaxBudget)
		c := &crew{m: m}
		done := make(chan struct{})
		c.mutex.Lock()
		go func() {
			defer close(done)
			c.round(workers, 0)
		}()
		for deadline := time.Now().Add(10 * time.Second); there() < workers && time.Now().Before(deadline); {
			time.Sleep(time.Millisecond)
		}
		if n := there(); n != workers || len(c.picks) != 0 {
			t.Errorf("%d of %d workers are there, %d stepped", n, workers, len(c.picks))
		}
		c.mutex.Unlock()
		<-done
		if there() != 0 || len(c.picks) == 0 {
			t.Errorf("%d workers: nobody stepped, or somebody is there still", workers)
		}
	}
}
