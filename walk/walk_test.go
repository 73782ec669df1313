package walk_test

import (
	"math"
	"math/rand"
	"reflect"
	"slices"
	"testing"

	"sinnet/api"
	"sinnet/prog"
	"sinnet/walk"
)

func set(r int, n int64) api.Instr { return api.Instr{Kind: api.OSet, R: r, N: n} }
func load(r, x int) api.Instr      { return api.Instr{Kind: api.OLoad, R: r, X: x} }
func store(r, x int) api.Instr     { return api.Instr{Kind: api.OStore, R: r, X: x} }
func lock(m int) api.Instr         { return api.Instr{Kind: api.OLock, X: m} }
func unlock(m int) api.Instr       { return api.Instr{Kind: api.OUnlock, X: m} }
func jump(r, x int) api.Instr      { return api.Instr{Kind: api.OJump, R: r, X: x} }
func assert(r int) api.Instr       { return api.Instr{Kind: api.OAssert, R: r} }

// code: a thread's instructions.
func code(list ...api.Instr) []api.Instr { return list }

// program: threads over two variables and two mutexes.
func program(threads ...[]api.Instr) api.Prog {
	return api.Prog{Vars: 2, Mutexes: 2, Threads: threads}
}

// locals: threads of so many local steps each.
func locals(sizes ...int) api.Prog {
	p := api.Prog{}
	for _, size := range sizes {
		p.Threads = append(p.Threads, slices.Repeat(code(set(0, 1)), size))
	}
	return p
}

// example is a program, and what its walks tell, worked out by hand.
type example struct {
	p                              api.Prog
	fuel                           int
	keys, runs, prefixes, deadlock int
}

func examples() map[string]example {
	w, r := code(store(0, 0)), code(load(0, 0))
	take := code(lock(0), store(0, 0), unlock(0))
	return map[string]example{
		"a thread that has nothing":       {program(nil), 8, 1, 1, 1, 0},
		"four that have nothing":          {program(nil, nil, nil, nil), 8, 1, 1, 1, 0},
		"no fuel":                         {program(take, take, w, r), 0, 1, 1, 1, 0},
		"no fuel, nothing to do":          {program(nil, nil), 0, 1, 1, 1, 0},
		"one step":                        {program(w), 8, 1, 1, 2, 0},
		"eight steps":                     {locals(8), 8, 1, 1, 9, 0},
		"eight steps, fuel for five":      {locals(8), 5, 1, 1, 6, 0},
		"a loop that fuel ends":           {program(code(set(0, 1), jump(0, 0))), 8, 1, 1, 9, 0},
		"two local steps":                 {locals(1, 1), 8, 1, 2, 5, 0},
		"one that has nothing between":    {locals(1, 0, 1), 8, 1, 2, 5, 0},
		"two that read":                   {program(r, r), 8, 1, 2, 5, 0},
		"two that write":                  {program(w, w), 8, 2, 2, 5, 0},
		"two that write, not the same":    {program(w, code(store(0, 1))), 8, 1, 2, 5, 0},
		"one writes, one reads":           {program(w, r), 8, 2, 2, 5, 0},
		"one writes, two read":            {program(w, r, r), 8, 4, 6, 16, 0},
		"two writes, and one":             {program(code(w[0], w[0]), w), 8, 3, 3, 9, 0},
		"two writes each, fuel for one":   {program(code(w[0], w[0]), code(w[0], w[0])), 1, 2, 2, 5, 0},
		"four writes":                     {program(w, w, w, w), 8, 24, 24, 65, 0},
		"three of three local steps":      {locals(3, 3, 3), 8, 1, 1680, 5248, 0},
		"three of eight, fuel for three":  {locals(8, 8, 8), 3, 1, 1680, 5248, 0},
		"two that take a mutex, and give": {program(take, take), 8, 2, 2, 13, 0},
		"two that fail":                   {program(code(assert(0)), code(unlock(0))), 8, 1, 2, 5, 0},
		// Ends where somebody waits: for itself, for one that has nothing more to do, for one that has no more fuel.
		"a mutex taken twice":              {program(code(lock(0), lock(0))), 8, 1, 1, 2, 1},
		"a mutex that nobody gives":        {program(code(lock(0)), code(lock(0))), 8, 2, 2, 3, 2},
		"one takes, three wait":            {program(code(lock(1)), code(lock(1)), code(lock(1)), code(lock(1))), 8, 4, 4, 5, 4},
		"no fuel to give it back":          {program(take, take), 2, 2, 2, 5, 2},
		"no fuel to wait":                  {program(code(lock(0)), code(set(0, 1), lock(0))), 1, 1, 2, 5, 0},
		"fuel to wait":                     {program(code(lock(0)), code(set(0, 1), lock(0))), 2, 2, 3, 6, 3},
		"two mutexes, in unlike orders":    {program(code(lock(0), lock(1), unlock(1), unlock(0)), code(lock(1), lock(0), unlock(0), unlock(1))), 8, 3, 6, 29, 2},
		"two mutexes, each its own":        {program(code(lock(0)), code(lock(1))), 8, 1, 2, 5, 0},
		"waits just if it reads too early": {program(code(set(0, 1), store(0, 0)), code(load(0, 0), jump(0, 4), lock(0), lock(0))), 8, 2, 10, 33, 9},
	}
}

func TestByExamples(t *testing.T) {
	for name, c := range examples() {
		want, _ := modelOf(c.p, c.fuel, math.MaxInt)
		if len(want.keys) != c.keys || want.runs != c.runs || want.prefixes != c.prefixes || want.stuck != c.deadlock {
			t.Fatalf("%s: by the chapter's words %d classes, %d runs, %d prefixes, %d that wait", name, len(want.keys), want.runs, want.prefixes, want.stuck)
		}
		got, e := walk.All(c.p, c.fuel, c.prefixes)
		if e != api.OK || len(got.Keys) != c.keys || got.Runs != c.runs || got.Prefixes != c.prefixes {
			t.Errorf("%s: All: %d keys, %d runs, %d prefixes, %v", name, len(got.Keys), got.Runs, got.Prefixes, e)
		}
		if n, e := walk.Deadlocks(c.p, c.fuel, c.prefixes); e != api.OK || n != c.deadlock {
			t.Errorf("%s: Deadlocks: %d %v", name, n, e)
		}
		checkWalks(t, c.p, c.fuel, want)
	}
}

// Keys to the letter, rising by bytes, not by the order in which executions come.
func TestKeysByExamples(t *testing.T) {
	w, r := code(store(0, 0)), code(load(0, 0))
	for _, c := range []struct {
		p    api.Prog
		want []string
	}{
		{program(nil), []string{"\x00"}},
		{program(w), []string{"\x01\x0c\x00"}},
		{program(code(lock(0), lock(0))), []string{"\x01\x10\x00"}},
		{locals(1, 1), []string{"\x02\x04\x05\x00"}},
		{program(w, w), []string{"\x01\x0c\x01\x0d\x00", "\x01\x0d\x01\x0c\x00"}},
		{program(w, r), []string{"\x01\x09\x01\x0c\x00", "\x01\x0c\x01\x09\x00"}},
		{program(w, r, r), []string{"\x01\x09\x01\x0c\x01\x0a\x00", "\x01\x0a\x01\x0c\x01\x09\x00", "\x01\x0c\x02\x09\x0a\x00", "\x02\x09\x0a\x01\x0c\x00"}},
		{program(code(assert(1)), code(lock(1), lock(1))), []string{"\x02\x84\x31\x00"}},
	} {
		if got, e := walk.All(c.p, 8, 100); e != api.OK || !slices.Equal(got.Keys, c.want) {
			t.Errorf("All(%+v): %x %v, not %x", c.p, got.Keys, e, c.want)
		}
	}
}

// count: by steps of each thread, how many ways there are to mix them all up, and all beginnings of such ways.
func count(sizes ...int) (int, int) {
	ways := map[[api.MaxThreads]int]int{{}: 1}
	var full [api.MaxThreads]int
	copy(full[:], sizes)
	prefixes := 1
	for steps := 1; steps <= full[0]+full[1]+full[2]+full[3]; steps++ {
		longer := map[[api.MaxThreads]int]int{}
		for at, n := range ways {
			for thread := range at {
				if next := at; at[thread] < full[thread] {
					next[thread]++
					longer[next] += n
					prefixes += n
				}
			}
		}
		ways = longer
	}
	return ways[full], prefixes
}

func TestThreadsThatNeverMeet(t *testing.T) {
	for _, sizes := range [][]int{{0}, {7}, {1, 8}, {8, 8}, {2, 0, 5}, {4, 4, 4}, {1, 1, 1, 1}, {3, 2, 1, 2}, {2, 2, 2, 8}} {
		runs, prefixes := count(sizes...)
		if got, e := walk.All(locals(sizes...), 8, prefixes); e != api.OK || len(got.Keys) != 1 || got.Runs != runs || got.Prefixes != prefixes {
			t.Errorf("%v: %d keys, %d runs, %d prefixes, %v, not 1, %d, %d", sizes, len(got.Keys), got.Runs, got.Prefixes, e, runs, prefixes)
		}
		if n, e := walk.Deadlocks(locals(sizes...), 8, prefixes); e != api.OK || n != 0 {
			t.Errorf("%v: Deadlocks: %d %v", sizes, n, e)
		}
		checkError(t, locals(sizes...), 8, prefixes-1, api.ErrFull)
	}
}

// Threads that write one variable in each step: each execution is a class of its own.
func TestThreadsThatAlwaysMeet(t *testing.T) {
	for _, sizes := range [][]int{{8}, {8, 8}, {3, 3, 3}, {2, 2, 2, 2}, {4, 5, 4}} {
		var threads [][]api.Instr
		for _, size := range sizes {
			threads = append(threads, slices.Repeat(code(store(1, 1)), size))
		}
		runs, prefixes := count(sizes...)
		got, e := walk.All(program(threads...), 8, prefixes)
		if e != api.OK || len(got.Keys) != runs || got.Runs != runs || got.Prefixes != prefixes {
			t.Errorf("%v: %d keys, %d runs, %d prefixes, %v, not %d, %d", sizes, len(got.Keys), got.Runs, got.Prefixes, e, runs, prefixes)
		}
		checkRising(t, got.Keys)
	}
}

// checkRising: they rise, and each stands once.
func checkRising(t *testing.T, keys []string) {
	t.Helper()
	for i := 1; i < len(keys); i++ {
		if keys[i-1] >= keys[i] {
			t.Fatalf("%x stands ahead of %x", keys[i-1], keys[i])
		}
	}
}

func TestDrawnPrograms(t *testing.T) {
	r := rand.New(rand.NewSource(6))
	var many, stuck, free int
	for range 1500 {
		p, fuel := anyProgram(r), r.Intn(9)
		want, ok := modelOf(p, fuel, 2000)
		if !ok {
			checkError(t, p, fuel, 2000, api.ErrFull)
			continue
		}
		checkWalks(t, p, fuel, want)
		checkRising(t, want.keys)
		if len(want.keys) > 1 && len(want.keys) < want.runs {
			many++
		}
		if want.stuck > 0 {
			stuck++
		}
		if want.stuck < want.runs {
			free++
		}
	}
	if many < 300 || stuck < 200 || free < 200 {
		t.Errorf("%d with several classes, %d that may wait, %d that need not: too few", many, stuck, free)
	}
}

// A program that has far more prefixes than anybody could go over: told as soon as there are too many.
func TestFarTooMany(t *testing.T) {
	for _, most := range []int{math.MinInt, -1, 0, 1, 2, 1000, 50000} {
		checkError(t, locals(8, 8, 8, 8), 8, most, api.ErrFull)
		waits := slices.Repeat(code(lock(0), unlock(0)), 4)
		checkError(t, program(waits, waits, waits, waits), 8, most, api.ErrFull)
	}
}

// wrong: programs and fuels that state.New refuses.
func wrong() map[string]example {
	right := program(code(set(0, 1)), code(store(0, 0)))
	return map[string]example{
		"fuel -1":           {p: right, fuel: -1},
		"fuel 9":            {p: right, fuel: 9},
		"least fuel":        {p: right, fuel: math.MinInt},
		"most fuel":         {p: right, fuel: math.MaxInt},
		"no thread":         {p: api.Prog{}, fuel: 8},
		"nothing right":     {p: api.Prog{Vars: -1, Mutexes: -1}, fuel: -1},
		"five threads":      {p: program(nil, nil, nil, nil, nil), fuel: 8},
		"nine instructions": {p: locals(9), fuel: 8},
		"five variables":    {p: api.Prog{Vars: 5, Threads: right.Threads}, fuel: 8},
		"three mutexes":     {p: api.Prog{Vars: 1, Mutexes: 3, Threads: right.Threads}, fuel: 8},
		"no kind":           {p: program(code(api.Instr{})), fuel: 8},
		"kind 9":            {p: program(nil, code(api.Instr{Kind: 9})), fuel: 8},
		"no such variable":  {p: program(code(load(0, 2))), fuel: 8},
		"no such mutex":     {p: program(code(lock(2))), fuel: 8},
		"no such register":  {p: program(code(assert(2))), fuel: 8},
		"a jump too far":    {p: program(code(jump(0, 2))), fuel: 8},
		"a number too big":  {p: program(code(set(0, 128))), fuel: 8},
		"wrong, but unused": {p: program(code(set(0, 1), api.Instr{Kind: -1})), fuel: 0},
	}
}

// New's error comes first, whatever most is.
func TestWhatNewRefuses(t *testing.T) {
	for name, c := range wrong() {
		t.Run(name, func(t *testing.T) {
			for _, most := range []int{math.MinInt, -1, 0, 1, 1000, math.MaxInt} {
				checkError(t, c.p, c.fuel, most, api.ErrArg)
			}
		})
	}
}

// room: with spare room behind it, that is filled.
func room(p api.Prog) api.Prog {
	threads := make([][]api.Instr, 0, len(p.Threads)+2)
	for _, list := range p.Threads {
		list = append(slices.Clone(list), set(1, 99), set(1, 98))
		threads = append(threads, list[:len(list)-2])
	}
	full := append(threads, code(set(1, 97)), nil)
	p.Threads = full[:len(threads)]
	return p
}

// whole: all that a program's memory has, its spare room too.
func whole(p api.Prog) [][]api.Instr {
	var all [][]api.Instr
	for _, list := range p.Threads[:cap(p.Threads)] {
		all = append(all, slices.Clone(list[:cap(list)]))
	}
	return all
}

func TestWhatIsHandedInStays(t *testing.T) {
	for name, c := range examples() {
		p := room(c.p)
		was, like := whole(p), prog.Copy(p)
		walk.All(p, c.fuel, c.prefixes)
		walk.All(p, c.fuel, c.prefixes-1)
		walk.Deadlocks(p, c.fuel, c.prefixes)
		walk.Deadlocks(p, c.fuel, c.prefixes-1)
		if !prog.Same(p, like) || !reflect.DeepEqual(whole(p), was) {
			t.Errorf("%s: changed", name)
		}
	}
}

// What was answered is the caller's: spoiling it, or the program that was handed in, changes no other answer.
func TestAnswersAreNewMemory(t *testing.T) {
	for name, c := range examples() {
		p := prog.Copy(c.p)
		first, _ := walk.All(p, c.fuel, c.prefixes)
		want := slices.Clone(first.Keys)
		for _, list := range p.Threads {
			clear(list)
		}
		if !slices.Equal(first.Keys, want) {
			t.Errorf("%s: an answer hangs on what was handed in", name)
		}
		again, e := walk.All(c.p, c.fuel, c.prefixes)
		clear(first.Keys[:cap(first.Keys)])
		if e != api.OK || !slices.Equal(again.Keys, want) || again.Runs != c.runs || again.Prefixes != c.prefixes {
			t.Errorf("%s: answers share memory: %+v %v", name, again, e)
		}
	}
}

// FuzzWalks: any bytes that are a program, any fuel, any most.
func FuzzWalks(f *testing.F) {
	for _, c := range examples() {
		s, _ := prog.Print(c.p)
		f.Add(s, c.fuel, c.prefixes)
		f.Add(s, c.fuel, c.prefixes-1)
	}
	f.Fuzz(func(t *testing.T, s string, fuel, most int) {
		p, e := prog.Read(s)
		most = min(most, 2000)
		if e != api.OK || fuel < 0 || fuel > api.MaxFuel {
			checkError(t, p, -1, most, api.ErrArg)
			return
		}
		want, ok := modelOf(p, fuel, 2000)
		if !ok || want.prefixes > most {
			checkError(t, p, fuel, most, api.ErrFull)
		}
		if ok {
			checkWalks(t, p, fuel, want)
		}
	})
}
