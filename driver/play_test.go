package driver_test

import (
	"math"
	"math/rand"
	"slices"
	"testing"

	"sinnet/api"
	"sinnet/driver"
	"sinnet/machine"
	"sinnet/prog"
	"sinnet/report"
)

// times: one step so often.
func times(n, worker, draw int) []driver.Pick {
	return slices.Repeat([]driver.Pick{{Worker: worker, Draw: draw}}, n)
}

// played is steps, and the report's bytes behind them, worked out by hand.
type played struct {
	setup setup
	picks []driver.Pick
	want  string
}

const (
	nothing = "\x00\x00\x00"
	first   = "\x00\x00\x01\x00\x05\x01\x0c\x01\x0d\x00"                             // of two that write: 0 came first
	second  = "\x00\x00\x01\x00\x05\x01\x0d\x01\x0c\x00"                             // 1 did
	both    = "\x01\x00\x02\x00\x05\x01\x0c\x01\x0d\x00\x00\x05\x01\x0d\x01\x0c\x00" // Complete
	none    = "\x01\x00\x01\x00\x01\x00"                                             // a program that does nothing: the empty row's
	fourth  = "\x00\x00\x01\x00\x09\x01\x0c\x01\x0d\x01\x0f\x01\x0e\x00"             // of four that write: 0, 1, 3, 2
	waits   = "\x01\x00\x02\x00\x03\x01\x10\x00\x00\x03\x01\x11\x00"                 // one has the mutex, and both wait
	fails   = "\x01\x00\x01\x00\x05\x01\x84\x01\x84\x00"                             // one that fails twice
)

func playedExamples() map[string]played {
	two := func(workers, budget int) setup { return setup{writers(1, 1), 8, workers, budget} }
	shared := []driver.Pick{{Worker: 1}, {Worker: 1}, {Worker: 0, Draw: 1}, {Worker: 0}, {Worker: 0}, {Worker: 0}, {Worker: 1}}
	return map[string]played{
		"no steps":                            {two(1, 100), nil, nothing},
		"no steps, an empty list":             {two(64, 100), []driver.Pick{}, nothing},
		"one step":                            {two(1, 100), times(1, 0, 0), nothing},
		"a class":                             {two(1, 100), times(2, 0, 0), first},
		"on to the next one":                  {two(1, 100), times(3, 0, 0), first},
		"both":                                {two(1, 100), times(4, 0, 0), both},
		"behind its end":                      {two(1, 100), times(40, 0, 7), both},
		"as many nodes as there may be":       {two(1, 5), times(4, 0, 0), both},
		"the budget isn't met yet":            {two(1, 4), times(3, 0, 0), first},
		"the budget is met":                   {two(1, 4), times(4, 0, 0), first},
		"a budget of one":                     {two(2, 1), times(4, 0, 0), nothing},
		"nothing to steal from itself":        {two(2, 100), times(9, 1, 1), nothing},
		"two, by turns":                       {two(2, 100), shared, both},
		"two, by turns, the last one to come": {two(2, 100), shared[:6], second},
		"no such workers":                     {two(2, 100), slices.Concat(times(9, 2, 0), times(9, -1, 0), times(9, math.MaxInt, 0)), nothing},
		"no such workers, between others":     {two(1, 100), slices.Concat(times(2, 0, 0), times(9, 1, 0), times(2, 0, 0), times(9, -1, 0)), both},
		"nobody has anything to do":           {setup{program(nil), 8, 1, 1}, nil, none},
		"nobody has fuel":                     {setup{writers(1, 1), 0, 64, 1}, times(3, 0, 0), none},
		"draws have 64 bits without a sign":   {setup{writers(1, 1, 1, 1), 8, 1, 100}, times(4, 0, -1), fourth},
		"they wait":                           {setup{program(code(lock(0), lock(0)), code(lock(0))), 8, 1, 100}, times(9, 0, 0), waits},
		"it fails":                            {setup{program(code(assert(0), unlock(0))), 8, 1, 100}, times(9, 0, 0), fails},
	}
}

// P16.1: the chapter's words, by hand.
func TestPlayByExamples(t *testing.T) {
	for name, c := range playedExamples() {
		got, m := c.setup.checkPlay(t, name, c.picks)
		if s := report.Print(got); m == nil || s != c.want {
			t.Errorf("%s: %x, not %x", name, s, c.want)
		}
	}
}

// somePicks: of which no error may hang.
func somePicks() [][]driver.Pick {
	return [][]driver.Pick{nil, {}, times(1, 0, 0), times(30, 0, 0), times(2, -1, -1), {{Worker: 0, Draw: math.MinInt}, {Worker: math.MaxInt, Draw: math.MaxInt}}}
}

// P16.1, P16.2: machine.New's error, of a program or a fuel that may not be, whatever else is wrong.
func TestWrongPrograms(t *testing.T) {
	for name, c := range wrongPrograms() {
		for _, workers := range append(noNumbersOfWorkers(), 1, 2, 64) {
			for _, budget := range append(noBudgets(), 1, api.MaxBudget) {
				for _, picks := range somePicks() {
					setup{c.p, c.fuel, workers, budget}.checkRefused(t, name, picks, api.ErrArg)
				}
			}
		}
	}
}

// P16.1, P16.2: and of numbers of workers, and budgets, that may not be.
func TestWrongWorkersAndBudgets(t *testing.T) {
	for name, p := range programs() {
		for _, picks := range somePicks() {
			for _, workers := range noNumbersOfWorkers() {
				for _, budget := range append(noBudgets(), 1, 5, api.MaxBudget) {
					setup{p, 8, workers, budget}.checkRefused(t, name, picks, api.ErrArg)
				}
			}
			for _, budget := range noBudgets() {
				for workers := 1; workers <= 64; workers += 7 {
					setup{p, 8, workers, budget}.checkRefused(t, name, picks, api.ErrArg)
				}
			}
		}
	}
}

// The error is machine.New's, whatever it is: at the ends of all that may be, and beyond them.
func TestSameErrorAsNew(t *testing.T) {
	for _, fuel := range []int{-1, 0, 1, 8, 9} {
		for _, workers := range []int{-1, 0, 1, 64, 65} {
			for _, budget := range []int{-1, 0, 1, api.MaxBudget, api.MaxBudget + 1} {
				for _, p := range []api.Prog{{}, program(nil), writers(1, 1), writers(9), program(nil, nil, nil, nil, nil)} {
					s := setup{p, fuel, workers, budget}
					_, want := s.begin()
					_, e := s.play(nil)
					_, _, f := s.drive()
					if e != want || f != want {
						t.Errorf("%+v: %v, %v, not %v", s, e, f, want)
					}
				}
			}
		}
	}
}

// P16.1: without steps it is a machine's that nobody let step.
func TestPlayWithoutPicks(t *testing.T) {
	for name, p := range programs() {
		for _, workers := range []int{1, 2, 64} {
			s := setup{p, 6, workers, api.MaxBudget}
			got, m := s.checkPlay(t, name, nil)
			if got.Complete != (classes(t, p, 6).Prefixes == 1) || m.Nodes() != 1 {
				t.Errorf("%s: %+v", name, got)
			}
			if empty, _ := s.checkPlay(t, name, []driver.Pick{}); !slices.Equal(empty.Keys, got.Keys) || empty.Complete != got.Complete {
				t.Errorf("%s: of nil %+v, of an empty list %+v", name, got, empty)
			}
		}
	}
}

// inTurn: all workers, rising, each with the round's number, till the machine is halted.
func (s setup) inTurn(t testing.TB) []driver.Pick {
	t.Helper()
	m, e := s.begin()
	if e != api.OK {
		t.Fatal(e)
	}
	var picks []driver.Pick
	for k := 0; !m.Halted(); k++ {
		pick := driver.Pick{Worker: k % s.workers, Draw: k / s.workers}
		m.Step(pick.Worker, pick.Draw)
		picks = append(picks, pick)
	}
	return picks
}

// P16.1: whoever there isn't is Idle, wherever it stands.
func TestPlayOfNoSuchWorkers(t *testing.T) {
	for name, p := range programs() {
		for _, workers := range []int{1, 2, 63, 64} {
			s := setup{p, 5, workers, api.MaxBudget}
			picks := s.inTurn(t)
			want, _ := s.checkPlay(t, name, picks)
			var mixed []driver.Pick
			for i, pick := range picks {
				for _, worker := range []int{-1, workers, workers + 1, -workers, 64, 256, 1 << 32, math.MinInt, math.MaxInt} {
					mixed = append(mixed, driver.Pick{Worker: worker, Draw: i})
				}
				mixed = append(mixed, pick)
			}
			if got, _ := s.checkPlay(t, name, mixed); !slices.Equal(got.Keys, want.Keys) || !got.Complete {
				t.Errorf("%s: %+v, not %+v", name, got, want)
			}
		}
	}
}

// P16.1: what comes behind the step at which the machine is halted is nothing, be it by the budget or not.
func TestPlayBehindTheEnd(t *testing.T) {
	for name, p := range programs() {
		for _, budget := range []int{1, 2, 7, api.MaxBudget} {
			s := setup{p, 5, 3, budget}
			picks := s.inTurn(t)
			want, _ := s.checkPlay(t, name, picks)
			more := slices.Concat(picks, times(20, 0, 0), picks, times(20, 2, 1), times(2, 3, 3))
			if got, _ := s.checkPlay(t, name, more); !slices.Equal(got.Keys, want.Keys) || got.Complete != want.Complete {
				t.Errorf("%s: %+v, not %+v", name, got, want)
			}
		}
	}
}

// P16.1: each beginning of the steps of many workers.
func TestPlayOfBeginnings(t *testing.T) {
	for name, p := range programs() {
		s := setup{p, 4, 4, api.MaxBudget}
		picks := s.inTurn(t)
		for n := 0; n <= len(picks); n += 1 + len(picks)/100 {
			got, m := s.checkPlay(t, name, picks[:n])
			if got.Complete != m.Halted() {
				t.Fatalf("%s: %d of %d steps: Complete %v", name, n, len(picks), got.Complete)
			}
		}
	}
}

// anyPicks: drawn ones, some of them of workers that there aren't.
func anyPicks(r *rand.Rand, workers int) []driver.Pick {
	picks := make([]driver.Pick, r.Intn(8<<r.Intn(9)))
	for i := range picks {
		picks[i] = driver.Pick{Worker: r.Intn(workers), Draw: int(r.Uint64()) >> r.Intn(64)}
		if r.Intn(20) == 0 {
			picks[i].Worker = int(r.Uint64()) >> r.Intn(64)
		}
	}
	return picks
}

// P16.1: drawn steps of drawn programs, of many workers and budgets.
func TestDrawnPlays(t *testing.T) {
	r := rand.New(rand.NewSource(1))
	var few, many, complete, met int
	for range 3000 {
		workers := anyWorkers(r)
		s := setup{anyProgram(r), r.Intn(9), workers, 1 + r.Intn(4<<r.Intn(18))}
		got, m := s.checkPlay(t, "drawn", anyPicks(r, workers))
		switch {
		case got.Complete:
			complete++
		case m.Halted():
			met++
		}
		if len(got.Keys) > 1 {
			many++
		} else {
			few++
		}
	}
	if min(few, many, complete, met) < 150 {
		t.Errorf("%d of few classes, %d of several, %d Complete, %d met: too few", few, many, complete, met)
	}
}

// Draws count: they aren't cut to fewer bits, nor is one taken for another.
func TestDrawsOfPlay(t *testing.T) {
	for draw, want := range map[int]string{
		0: "0123", 1: "0231", 2: "0312", 3: "0132", 4: "0213", 5: "0321", 6: "0123", 1 << 8: "0213", 1 << 32: "0213",
		-1: "0132", math.MaxInt: "0231", math.MinInt: "0312", -2: "0312", math.MaxInt - 1: "0123",
	} {
		s := setup{writers(1, 1, 1, 1), 8, 1, 100}
		if got, _ := s.checkPlay(t, want, times(4, 0, draw)); !slices.Equal(got.Keys, []string{writes(want)}) {
			t.Errorf("draw %d: %x, not of %s", draw, got.Keys, want)
		}
	}
}

// What Play told before doesn't count.
func TestPlayTwice(t *testing.T) {
	s := setup{writers(2, 2), 8, 3, api.MaxBudget}
	picks := s.inTurn(t)
	want, _ := s.checkPlay(t, "once", picks)
	for n := range len(picks) {
		s.checkPlay(t, "a beginning", picks[:n])
	}
	if got, _ := s.checkPlay(t, "twice", picks); !slices.Equal(got.Keys, want.Keys) || !got.Complete {
		t.Errorf("%+v, not %+v", got, want)
	}
}

// setupOf: any bytes as a program, and any numbers.
func setupOf(program string, fuel, workers, budget int) (setup, bool) {
	p, e := prog.Read(program)
	return setup{p, fuel, workers, budget}, e == api.OK && budget < 3000
}

// FuzzPlay: any bytes as a program, and as steps: of each two the first one says who, the second one the draw.
func FuzzPlay(f *testing.F) {
	for _, p := range programs() {
		s, _ := prog.Print(p)
		f.Add(s, 8, 1, 100, []byte(nil))
		f.Add(s, 5, 2, 7, []byte("\x00\x00\x01\x00\x01\xff\x00\x01\x01\x00\x00\x00"))
		f.Add(s, 4, 64, 50, []byte("\x3f\x00\x3f\x00\x00\x3f\x00\x00\x40\x00\xff\x01\x3f\x80"))
		f.Add(s, 9, 65, 0, []byte("\x00\x00"))
	}
	f.Fuzz(func(t *testing.T, program string, fuel, workers, budget int, steps []byte) {
		s, ok := setupOf(program, fuel, workers, budget)
		if !ok {
			return
		}
		var picks []driver.Pick
		for ; len(steps) >= 2; steps = steps[2:] {
			picks = append(picks, driver.Pick{Worker: int(int8(steps[0])), Draw: int(int8(steps[1]))})
		}
		got, m := s.checkPlay(t, "fuzzed", picks)
		if m == nil {
			return
		}
		for _, key := range got.Keys {
			if !isClass(s.p, s.fuel, key) {
				t.Fatalf("%x is no class", key)
			}
		}
		if did := slices.ContainsFunc(picks, func(pick driver.Pick) bool { return m.Step(pick.Worker, pick.Draw) != machine.Idle }); did && got.Complete {
			t.Fatal("Complete, and yet something is left")
		}
	})
}
