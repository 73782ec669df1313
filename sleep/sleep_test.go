package sleep_test

import (
	"math"
	"math/rand"
	"reflect"
	"slices"
	"testing"

	"sinnet/api"
	"sinnet/prog"
	"sinnet/sleep"
	"sinnet/state"
)

// who: threads.
func who(list ...int) []int { return list }

// step is a thread's step at a program behind some steps, and who sleeps behind it, worked out by hand.
type step struct {
	p               api.Prog
	fuel            int
	row             []int
	asleep, earlier []int
	thread          int
	want            []int
}

func childExamples() map[string]step {
	r, w := code(load(0, 0)), code(store(0, 0))
	lock, pass := code(take(0)), code(take(0), give(0))
	local, fails := code(set(0, 1)), code(assert(0))
	four := program(w, r, code(store(0, 1)), local)
	return map[string]step{
		"reads: 0 was gone into":             {program(r, r), 8, nil, nil, who(0), 1, who(0)},
		"reads: 0 sleeps":                    {program(r, r), 8, nil, who(0), nil, 1, who(0)},
		"reads: nobody does":                 {program(r, r), 8, nil, nil, nil, 1, nil},
		"writes: 0 was gone into":            {program(w, w), 8, nil, nil, who(0), 1, nil},
		"writes: 0 sleeps":                   {program(w, w), 8, nil, who(0), nil, 1, nil},
		"a read behind a write":              {program(w, r), 8, nil, who(1), nil, 0, nil},
		"a write behind a read":              {program(w, r), 8, nil, nil, who(0), 1, nil},
		"two variables":                      {program(w, code(store(0, 1))), 8, nil, who(0), nil, 1, who(0)},
		"a variable and a mutex":             {program(w, lock), 8, nil, who(0), nil, 1, who(0)},
		"two mutexes":                        {program(lock, code(take(1))), 8, nil, who(0), nil, 1, who(0)},
		"one mutex":                          {program(lock, lock), 8, nil, who(0), nil, 1, nil},
		"local steps":                        {program(local, local), 8, nil, who(1), nil, 0, who(1)},
		"local ones that fail":               {program(fails, fails, fails), 8, nil, who(0, 1), nil, 2, who(0, 1)},
		"a mutex that isn't its own":         {program(lock, code(give(0))), 8, nil, who(0), nil, 1, who(0)},
		"a mutex that it gives back":         {program(pass, code(take(0), give(0))), 8, who(0), who(1), nil, 0, nil},
		"of both, each one":                  {four, 8, nil, who(2), who(1), 3, who(1, 2)},
		"of both, the same one":              {four, 8, nil, who(2), who(2), 3, who(2)},
		"of both, but who depends":           {four, 8, nil, who(1, 3), who(2), 0, who(2, 3)},
		"just those of both":                 {four, 8, nil, who(0), nil, 3, who(0)},
		"all of them":                        {four, 8, nil, who(0, 1, 2, 3), who(0, 1, 2, 3), 3, who(0, 1, 2)},
		"the thread itself sleeps":           {four, 8, nil, who(3), nil, 3, nil},
		"the thread itself was gone into":    {four, 8, nil, nil, who(2), 2, nil},
		"the thread itself, a local step":    {program(local), 8, nil, who(0), who(0), 0, nil},
		"asleep, but it waits":               {program(pass, lock, local), 8, who(0), who(1), nil, 2, who(1)},
		"gone into, but it waits":            {program(pass, lock, local), 8, who(0), nil, who(1), 2, who(1)},
		"it waits for what is given back":    {program(pass, lock, lock), 8, who(0), who(1), who(2), 0, nil},
		"it waits for another mutex":         {program(code(take(0), take(1)), lock), 8, who(0), who(1), nil, 0, who(1)},
		"it waits for itself":                {program(code(take(1), take(1)), w), 8, who(0), nil, who(0), 1, who(0)},
		"the thread waits, it, too":          {program(lock, lock, lock, local), 8, who(0), who(2), who(3), 1, who(3)},
		"the thread waits for itself":        {program(code(take(0), take(0)), w, lock), 8, who(0), who(1), who(2), 0, who(1)},
		"both wait":                          {program(code(take(0), take(1)), code(take(1), take(0))), 8, who(0, 1), who(0), nil, 1, who(0)},
		"asleep, but it has ended":           {program(w, local), 8, who(0), who(0), nil, 1, nil},
		"gone into, but it has ended":        {program(w, local), 8, who(0), nil, who(0), 1, nil},
		"asleep, with no instructions":       {program(nil, local), 8, nil, who(0), who(0), 1, nil},
		"asleep, with no fuel":               {program(code(set(0, 1), set(0, 2)), local), 1, who(0), who(0), nil, 1, nil},
		"asleep, with no fuel to wait":       {program(code(set(0, 1), take(0)), lock, local), 1, who(0, 1), who(0), nil, 2, nil},
		"asleep, with fuel for one":          {program(code(set(0, 1), set(0, 2)), local), 2, who(0), who(0), nil, 1, who(0)},
		"what it does next, not what later":  {program(code(set(0, 1), store(0, 0)), r), 8, nil, who(0), nil, 1, who(0)},
		"what it does next, not what first":  {program(code(set(0, 1), store(0, 0)), r), 8, who(0), who(0), nil, 1, nil},
		"by a jump":                          {program(code(set(0, 1), jump(0, 3), store(0, 0)), r), 8, who(0, 0), who(0), nil, 1, nil},
		"it doesn't jump":                    {program(code(set(0, 0), jump(0, 3), load(0, 0)), r), 8, who(0, 0), who(0), nil, 1, who(0)},
		"no such threads in the state":       {program(local, local), 8, nil, who(2, 4, 7), who(3, 5, 6), 0, nil},
		"some such threads in the state":     {program(local, local), 8, nil, who(1, 2, 7), who(4), 0, who(1)},
		"threads that are none":              {program(local, local), 8, nil, who(-1, 8), who(257, 9), 0, nil},
		"the thread has ended":               {program(w, local, local), 8, who(0), who(1), who(2), 0, nil},
		"the thread has no instructions":     {program(local, nil), 8, nil, who(0), who(0), 1, nil},
		"the thread has no fuel":             {program(code(set(0, 1), set(0, 2)), local), 1, who(0), who(1), nil, 0, nil},
		"nobody has any fuel":                {four, 0, nil, who(0, 1), who(2, 3), 3, nil},
		"there is no such thread":            {program(local, local), 8, nil, who(0, 1), who(0, 1), 2, nil},
		"there is no such thread: -1":        {program(local, local), 8, nil, who(0, 1), who(0, 1), -1, nil},
		"there is no such thread: it sleeps": {program(local, local), 8, nil, who(0, 1, 5), nil, 5, nil},
	}
}

func TestChildByExamples(t *testing.T) {
	for name, c := range childExamples() {
		x, w := both(t, c.p, c.fuel, c.row...)
		asleep, earlier := sleep.Of(c.asleep...), sleep.Of(c.earlier...)
		if got := sleep.Child(x, asleep, earlier, c.thread); !slices.Equal(got.All(), c.want) {
			t.Errorf("%s: %v, not %v", name, got.All(), c.want)
		}
		// Who sleeps and who was gone into count alike.
		if got := sleep.Child(x, earlier, asleep, c.thread); !slices.Equal(got.All(), c.want) {
			t.Errorf("%s: the other way %v, not %v", name, got.All(), c.want)
		}
		if want := w.childOf(int(asleep), int(earlier), c.thread); !slices.Equal(want.All(), c.want) {
			t.Errorf("%s: by the chapter's words %v, not %v", name, want.All(), c.want)
		}
	}
}

// sleepers is a program behind some steps, and whether it is blocked where some sleep, worked out by hand.
type sleepers struct {
	p      api.Prog
	fuel   int
	row    []int
	asleep []int
	want   bool
}

func blockedExamples() map[string]sleepers {
	w, local, lock := code(store(0, 0)), code(set(0, 1)), code(take(0))
	return map[string]sleepers{
		"nobody sleeps":                     {program(w, local), 8, nil, nil, false},
		"0 sleeps, 1 may":                   {program(w, local), 8, nil, who(0), false},
		"1 sleeps, 0 may":                   {program(w, local), 8, nil, who(1), false},
		"both sleep":                        {program(w, local), 8, nil, who(0, 1), true},
		"both sleep, and others":            {program(w, local), 8, nil, who(0, 1, 2, 3, 7), true},
		"just others sleep":                 {program(w, local), 8, nil, who(2, 3, 4, 5, 6, 7), false},
		"one alone sleeps":                  {program(w), 8, nil, who(0), true},
		"four sleep":                        {program(w, w, local, local), 8, nil, who(0, 1, 2, 3), true},
		"three of four sleep":               {program(w, w, local, local), 8, nil, who(0, 1, 2), false},
		"one has ended, the other sleeps":   {program(w, local), 8, who(0), who(1), true},
		"one has ended, and sleeps":         {program(w, local), 8, who(0), who(0), false},
		"one waits, the other sleeps":       {program(code(take(0), give(0)), lock), 8, who(0), who(0), true},
		"one waits, and sleeps":             {program(code(take(0), give(0)), lock), 8, who(0), who(1), false},
		"one waits, both sleep":             {program(code(take(0), give(0)), lock), 8, who(0), who(0, 1), true},
		"given back, and 0 sleeps":          {program(code(take(0), give(0), set(0, 1)), lock), 8, who(0, 0), who(0), false},
		"all have ended":                    {program(w, local), 8, who(0, 1), who(0, 1), false},
		"all have ended, nobody sleeps":     {program(w, local), 8, who(0, 1), nil, false},
		"all wait":                          {program(code(take(0), take(1)), code(take(1), take(0))), 8, who(0, 1), who(0, 1), false},
		"all wait, nobody sleeps":           {program(code(take(0), take(1)), code(take(1), take(0))), 8, who(0, 1), nil, false},
		"it waits for itself":               {program(code(take(1), take(1))), 8, who(0), who(0), false},
		"one waits for ever, one has ended": {program(lock, lock), 8, who(1), who(0, 1), false},
		"no instructions":                   {program(nil, nil), 8, nil, who(0, 1), false},
		"no fuel":                           {program(w, local), 0, nil, who(0, 1), false},
		"fuel for one":                      {program(code(set(0, 1), set(0, 1)), local), 1, who(0), who(1), true},
		"threads that are none":             {program(w, local), 8, nil, who(-1, 8, 256, 257), false},
	}
}

func TestBlockedByExamples(t *testing.T) {
	for name, c := range blockedExamples() {
		x, w := both(t, c.p, c.fuel, c.row...)
		asleep := sleep.Of(c.asleep...)
		if got := sleep.Blocked(x, asleep); got != c.want {
			t.Errorf("%s: %v", name, got)
		}
		if w.blockedOf(int(asleep)) != c.want {
			t.Errorf("%s: not so by the chapter's words", name)
		}
	}
}

// Who sleeps of a pair that would do any two things: each kind of step, of each object, by each two threads.
func TestChildOfEveryTwoSteps(t *testing.T) {
	var codes [][]api.Instr
	for x := range api.MaxVars {
		codes = append(codes, code(load(1, x)), code(store(1, x)))
	}
	for m := range api.MaxMutexes {
		codes = append(codes, code(take(m)), code(give(m)), code(take(m), give(m)))
	}
	codes = append(codes, code(set(0, 0)), code(add(0, 0)), code(jump(0, 0)), code(assert(0)), nil)
	for i, one := range codes {
		for k, other := range codes {
			for _, pair := range [][2]int{{0, 1}, {1, 0}, {2, 3}, {3, 0}} {
				threads := make([][]api.Instr, 4)
				threads[pair[0]], threads[pair[1]] = one, other
				var row []int
				// Of a mutex that is taken and given back, the giving is next.
				for _, thread := range pair {
					if len(threads[thread]) == 2 && (i != k || thread == pair[0]) {
						row = append(row, thread)
					}
				}
				checkEverySet(t, threads, row, pair)
			}
		}
	}
}

// checkEverySet holds Child of two threads against the words, whoever of the two sleeps or was gone into.
func checkEverySet(t *testing.T, threads [][]api.Instr, row []int, pair [2]int) {
	t.Helper()
	x, w := both(t, program(threads...), 8, row...)
	for asleep := range 16 {
		for earlier := range 16 {
			checkChild(t, x, w, asleep, earlier, pair[0])
		}
	}
}

// All sets at some states: where all may, where some wait, where some have ended, and where nobody may.
func TestEverySetAtSomeStates(t *testing.T) {
	section := code(take(0), store(0, 0), give(0))
	for _, c := range []sleepers{
		{p: program(code(store(0, 0)), code(load(0, 0)), code(load(0, 0)), code(set(0, 1))), fuel: 8},
		{p: program(section, section, code(load(0, 0))), fuel: 8, row: who(0)},
		{p: program(section, code(set(0, 1)), code(store(0, 1)), nil), fuel: 8, row: who(0, 0, 1)},
		{p: program(code(take(0), take(1)), code(take(1), take(0)), nil), fuel: 8, row: who(0, 1)},
	} {
		x, w := both(t, c.p, c.fuel, c.row...)
		for asleep := range sets {
			checkBlocked(t, x, w, asleep)
			for earlier := range sets {
				for thread := -1; thread < 9; thread++ {
					checkChild(t, x, w, asleep, earlier, thread)
				}
			}
		}
	}
}

// anyExecution steps a drawn program's threads in a drawn order, and tells each state on the way.
func anyExecution(t *testing.T, r *rand.Rand, each func(x *state.State, w *run)) {
	t.Helper()
	p, fuel := anyProgram(r), r.Intn(9)
	x, w := both(t, p, fuel)
	for {
		each(x, w)
		all := w.all()
		if len(all) == 0 {
			return
		}
		thread := all[r.Intn(len(all))]
		if _, e := x.Step(thread); e != api.OK {
			t.Fatalf("Step: %v", e)
		}
		w.step(thread)
	}
}

// counts: how often a drawn state had what the edges are about.
type counts struct{ sleeping, waiting, ended, blocked, over int }

func (c *counts) add(w *run, asleep, thread int) {
	c.sleeping += w.childOf(asleep, 0, thread).Len()
	for other := range w.p.Threads {
		_, does := w.next(other)
		if among(asleep, other) && !does {
			c.ended++
		}
		if among(asleep, other) && does && !w.may(other) {
			c.waiting++
		}
	}
	if w.blockedOf(asleep) {
		c.blocked++
	}
	if len(w.all()) == 0 {
		c.over++
	}
}

func TestOfExecutions(t *testing.T) {
	r := rand.New(rand.NewSource(8))
	var c counts
	for range 1000 {
		anyExecution(t, r, func(x *state.State, w *run) {
			for range 20 {
				asleep, earlier, thread := r.Intn(sets), r.Intn(sets), r.Intn(7)-1
				checkChild(t, x, w, asleep, earlier, thread)
				checkBlocked(t, x, w, asleep)
				c.add(w, asleep, thread)
			}
			for asleep := range 16 {
				checkBlocked(t, x, w, asleep)
			}
		})
	}
	if min(c.sleeping, c.waiting, c.ended, c.blocked, c.over) < 1000 {
		t.Errorf("%+v: too few", c)
	}
}

// What the sets are for: who sleeps behind a step would do the same there, and in either order it comes to the same.
func TestWhoSleepsDoesTheSameBehindTheStep(t *testing.T) {
	r := rand.New(rand.NewSource(80))
	for range 500 {
		anyExecution(t, r, func(x *state.State, _ *run) {
			for _, thread := range x.All() {
				behind := x.Copy()
				behind.Step(thread)
				for _, other := range sleep.Child(x, 15, 0, thread).All() {
					before, _ := x.Next(other)
					if after, ok := behind.Next(other); !ok || after != before || behind.Enabled(other) != x.Enabled(other) {
						t.Fatalf("%+v: behind %d, %d does %+v, not %+v", x, thread, other, after, before)
					}
					one, two := behind.Copy(), x.Copy()
					one.Step(other)
					two.Step(other)
					if two.Step(thread); x.Enabled(other) && !reflect.DeepEqual(one, two) {
						t.Fatalf("%+v: %d and %d come to %+v and %+v", x, thread, other, one, two)
					}
				}
			}
		})
	}
}

func TestNilState(t *testing.T) {
	for n := range sets {
		for thread := -1; thread < 9; thread++ {
			if got := sleep.Child(nil, sleep.Set(n), sleep.Set(n), thread); got != 0 {
				t.Errorf("Child(nil, %d, %d, %d): %d", n, n, thread, got)
			}
			if got := sleep.Child(&state.State{}, sleep.Set(n), sleep.Set(n), thread); got != 0 {
				t.Errorf("Child of a state of no threads: %d", got)
			}
		}
		if sleep.Blocked(nil, sleep.Set(n)) || sleep.Blocked(&state.State{}, sleep.Set(n)) {
			t.Errorf("Blocked(nil, %d)", n)
		}
	}
}

// A thread that the state has not, or that could not be, whoever sleeps; some have the last bits of one that it has.
func TestThreadsThatThereAreNoneOf(t *testing.T) {
	local := code(set(0, 1))
	x, _ := both(t, program(local, local, local), 8)
	for _, thread := range append(none(), 3, 4, 5, 6, 7, math.MaxInt-1) {
		if got := sleep.Child(x, 255, 255, thread); got != 0 {
			t.Errorf("Child of thread %d: %v", thread, got.All())
		}
	}
}

// Rule 5: the state that is handed in stays as it is.
func TestStateStays(t *testing.T) {
	r := rand.New(rand.NewSource(81))
	for range 100 {
		anyExecution(t, r, func(x *state.State, _ *run) {
			like := x.Copy()
			for thread := range 5 {
				sleep.Child(x, 255, 255, thread)
			}
			sleep.Blocked(x, 255)
			sleep.Blocked(x, 0)
			if !reflect.DeepEqual(x, like) {
				t.Fatalf("%+v, not %+v", x, like)
			}
		})
	}
}

// checkBytes: any bytes as a program and steps; what is no program is a nil state.
func checkBytes(t *testing.T, text string, fuel int, order string, asleep, earlier uint8, thread int) {
	t.Helper()
	p, _ := prog.Read(text)
	x, e := state.New(p, fuel)
	w := start(p, fuel)
	if e != api.OK {
		x, w = nil, start(api.Prog{}, 0)
	}
	for _, b := range []byte(order) {
		next := int(b) % api.MaxThreads
		if _, e := x.Step(next); e == api.OK {
			w.step(next)
		}
	}
	checkChild(t, x, w, int(asleep), int(earlier), thread)
	for other := range api.MaxThreads {
		checkChild(t, x, w, int(asleep), int(earlier), other)
	}
	checkBlocked(t, x, w, int(asleep))
}

func FuzzSleepers(f *testing.F) {
	for _, c := range childExamples() {
		text, _ := prog.Print(c.p)
		order := ""
		for _, thread := range c.row {
			order += string(rune(thread))
		}
		f.Add(text, c.fuel, order, uint8(sleep.Of(c.asleep...)), uint8(sleep.Of(c.earlier...)), c.thread)
		f.Add(text+"\x00", c.fuel, order, uint8(sleep.Of(c.asleep...)), uint8(sleep.Of(c.earlier...)), c.thread)
	}
	f.Fuzz(checkBytes)
}
