package race_test

import (
	"math"
	"math/rand"
	"reflect"
	"slices"
	"testing"

	"sinnet/api"
	"sinnet/event"
	"sinnet/prog"
	"sinnet/race"
	"sinnet/state"
)

// pairs: races, place and thread in turn.
func pairs(flat ...int) []race.Race {
	var list []race.Race
	for i := 0; i < len(flat); i += 2 {
		list = append(list, race.Race{At: flat[i], Thread: flat[i+1]})
	}
	return list
}

// ahead is a program at some steps, and what of them races with what comes next, worked out by hand.
type ahead struct {
	p     api.Prog
	fuel  int
	steps []int
	want  []race.Race
}

// rows of threads' steps.
func steps(list ...int) []int { return list }

func nextExamples() map[string]ahead {
	w, r := code(store(0, 0)), code(load(0, 0))
	section := code(take(0), store(0, 0), give(0))
	return map[string]ahead{
		"behind a write the same one":        {program(w, w), 8, steps(0), pairs(0, 1)},
		"behind a write the same one by 0":   {program(w, w), 8, steps(1), pairs(0, 0)},
		"at the beginning":                   {program(w, w), 8, nil, nil},
		"a write, a read":                    {program(w, r), 8, steps(0), pairs(0, 1)},
		"a read, a write":                    {program(r, w), 8, steps(0), pairs(0, 1)},
		"two reads":                          {program(r, r), 8, steps(0), nil},
		"another variable":                   {program(w, code(store(0, 1))), 8, steps(0), nil},
		"a variable and a mutex":             {program(w, code(take(0))), 8, steps(0), nil},
		"local steps":                        {program(code(set(0, 1)), code(set(0, 1))), 8, steps(0), nil},
		"two that fail":                      {program(code(assert(0)), code(give(0))), 8, steps(0), nil},
		"an end of both":                     {program(w, w), 8, steps(0, 1), nil},
		"one thread alone":                   {program(code(w[0], w[0])), 8, steps(0), nil},
		"its own write, too":                 {program(code(w[0], w[0]), w), 8, steps(1, 0), nil},
		"its own write, and one behind it":   {program(code(w[0], w[0]), w), 8, steps(0, 1), pairs(1, 0)},
		"behind two writes of one":           {program(code(w[0], w[0]), w), 8, steps(0, 0), pairs(0, 1, 1, 1)},
		"behind two that write":              {program(w, w, w), 8, steps(1, 0), pairs(0, 2, 1, 2)},
		"by thread, then by place":           {program(code(w[0], w[0]), code(w[0], w[0]), w, w), 8, steps(1, 0), pairs(1, 1, 0, 2, 1, 2, 0, 3, 1, 3)},
		"by place, whoever did it":           {program(r, w, w, r), 8, steps(2, 1), pairs(0, 0, 1, 0, 0, 3, 1, 3)},
		"reads stand between":                {program(w, r, r, w), 8, steps(1, 0, 2), pairs(0, 3, 1, 3, 2, 3)},
		"known by its own last event":        {program(w, code(load(0, 0), store(0, 0))), 8, steps(0, 1), nil},
		"known by what another one did":      {program(code(store(0, 0), store(0, 1)), code(load(0, 1), load(0, 0))), 8, steps(0, 0, 1), nil},
		"known by a third one":               {program(w, code(load(0, 0), store(0, 1)), code(load(0, 1), load(0, 0))), 8, steps(0, 1, 1, 2), nil},
		"known by a third one, but no more":  {program(code(w[0], w[0]), code(load(0, 0), store(0, 1)), code(load(0, 1), load(0, 0))), 8, steps(0, 1, 1, 0, 2), pairs(3, 2)},
		"known to a third one alone":         {program(w, code(load(0, 0), store(0, 1)), code(set(0, 1), load(0, 0))), 8, steps(0, 1, 1, 2), pairs(0, 2)},
		"known by a mutex":                   {program(section, section), 8, steps(0, 0, 0, 1), nil},
		"both the first ones":                {program(section, section), 8, steps(0, 0, 0), pairs(0, 1, 2, 1)},
		"it waits":                           {program(section, section), 8, steps(0), pairs(0, 1)},
		"two wait":                           {program(section, section, section), 8, steps(1, 1), pairs(0, 0, 0, 2)},
		"it waits for itself":                {program(code(take(1), take(1)), code(take(1))), 8, steps(0), pairs(0, 1)},
		"both wait":                          {program(code(take(0), take(1)), code(take(1), take(0))), 8, steps(0, 1), pairs(1, 0, 0, 1)},
		"it waits, and was told":             {program(code(take(0), store(0, 0)), code(load(0, 0), take(0))), 8, steps(0, 0, 1), nil},
		"ended, with nothing":                {program(w, nil), 8, steps(0), nil},
		"ended, at its last instruction":     {program(code(w[0], w[0]), w), 8, steps(1, 0, 0), nil},
		"ended, with no fuel":                {program(w, code(set(0, 1), store(0, 0))), 1, steps(0, 1), nil},
		"ended, with no fuel to wait":        {program(code(take(0)), code(set(0, 1), take(0))), 1, steps(0, 1), nil},
		"not ended, with fuel for one":       {program(w, code(set(0, 1), store(0, 0))), 2, steps(0, 1), pairs(0, 1)},
		"ended, by a jump":                   {program(w, code(set(0, 1), jump(0, 3), store(0, 0))), 8, steps(0, 1, 1), nil},
		"not ended, it doesn't jump":         {program(w, code(set(0, 0), jump(0, 3), store(0, 0))), 8, steps(0, 1, 1), pairs(0, 1)},
		"gives back what it has":             {program(code(take(0), give(0)), code(take(0), give(0))), 8, steps(0, 0, 1), nil},
		"gives back what it hasn't":          {program(code(take(0)), code(give(0))), 8, steps(0), nil},
		"the other mutex":                    {program(code(take(0)), code(take(1))), 8, steps(0), nil},
		"nobody has any fuel":                {program(w, w), 0, nil, nil},
		"what comes next, not what may come": {program(code(store(0, 1)), code(store(0, 0), store(0, 1))), 8, steps(0), nil},
	}
}

func TestRacesByExamples(t *testing.T) {
	for name, c := range nextExamples() {
		s, row := at(t, c.p, c.fuel, c.steps...)
		if got := race.Races(s, row); !slices.Equal(got, c.want) {
			t.Errorf("%s: Races: %v, not %v", name, got, c.want)
		}
		if want := racesOf(s, row); !slices.Equal(want, c.want) {
			t.Errorf("%s: by the chapter's words %v, not %v", name, want, c.want)
		}
		checkRow(t, row)
	}
}

// within is a row, and what races within it, worked out by hand.
type within struct {
	row  []api.Event
	want []race.Race
}

func rowExamples() map[string]within {
	return map[string]within{
		"the empty row":                     {nil, nil},
		"two writes":                        {events(write(0, 0), write(1, 0)), pairs(0, 1)},
		"two writes, the other way":         {events(write(1, 0), write(0, 0)), pairs(0, 0)},
		"a read, a write":                   {events(read(2, 3), write(3, 3)), pairs(0, 3)},
		"a write, a read":                   {events(write(2, 3), read(3, 3)), pairs(0, 3)},
		"two reads":                         {events(read(2, 3), read(3, 3)), nil},
		"two variables":                     {events(write(0, 0), write(1, 1)), nil},
		"a variable and a mutex":            {events(write(0, 1), lock(1, 1)), nil},
		"two mutexes":                       {events(lock(0, 0), lock(1, 1)), nil},
		"local ones":                        {events(local(0), fails(1), local(1), fails(0)), nil},
		"one thread":                        {events(write(0, 0), write(0, 0), lock(0, 0), unlock(0, 0), read(0, 0)), nil},
		"a mutex from hand to hand":         {events(lock(0, 1), unlock(0, 1), lock(1, 1), unlock(1, 1)), pairs(0, 1, 1, 1)},
		"two that give it back":             {events(unlock(0, 0), unlock(1, 0)), pairs(0, 1)},
		"under a mutex":                     {events(lock(0, 0), write(0, 0), unlock(0, 0), lock(1, 0), write(1, 0), unlock(1, 0)), pairs(0, 1, 2, 1)},
		"the second one knows":              {events(write(0, 0), write(1, 0), write(1, 0)), pairs(0, 1)},
		"to and fro":                        {events(write(0, 0), write(1, 0), write(0, 0), write(1, 0)), pairs(0, 1, 1, 0, 2, 1)},
		"by the later one, then by place":   {events(write(0, 0), write(1, 0), write(2, 0)), pairs(0, 1, 0, 2, 1, 2)},
		"the later one may be of 0":         {events(write(2, 0), write(1, 0), write(0, 0)), pairs(0, 1, 0, 0, 1, 0)},
		"by place, whatever they are":       {events(read(2, 0), write(0, 0), read(1, 0), read(2, 0), write(3, 0)), pairs(0, 0, 1, 1, 1, 2, 0, 3, 1, 3, 2, 3, 3, 3)},
		"it knows by what another one did":  {events(write(0, 0), write(0, 1), write(1, 1), write(1, 0)), pairs(1, 1)},
		"it knows by a third one":           {events(write(0, 0), read(1, 0), write(1, 1), read(2, 1), read(2, 0)), pairs(0, 1, 2, 2)},
		"a third one knows, it doesn't":     {events(write(0, 0), read(1, 0), write(1, 1), local(2), read(2, 0)), pairs(0, 1, 0, 2)},
		"by both, but it didn't know":       {events(write(0, 0), read(1, 0), write(1, 1), write(2, 1), write(2, 0)), pairs(0, 1, 2, 2)},
		"what stands behind doesn't count":  {events(write(0, 0), local(1), write(1, 0), write(1, 0)), pairs(0, 1)},
		"behind what it knows":              {events(write(0, 0), read(1, 0), write(0, 0), write(0, 0), read(1, 0)), pairs(0, 1, 1, 0, 2, 1, 3, 1)},
		"unlike ones behind what it knows":  {events(write(0, 0), read(0, 0), read(1, 0), write(0, 0), read(0, 0), write(1, 0)), pairs(0, 1, 2, 0, 1, 1, 3, 1, 4, 1)},
		"reads race with a write, each one": {events(read(0, 2), read(0, 2), read(3, 2), write(1, 2)), pairs(0, 1, 1, 1, 2, 1)},
	}
}

func TestReversibleByExamples(t *testing.T) {
	for name, c := range rowExamples() {
		if got := race.Reversible(c.row); !slices.Equal(got, c.want) {
			t.Errorf("%s: Reversible: %v, not %v", name, got, c.want)
		}
		if want := reversibleOf(c.row); !slices.Equal(want, c.want) {
			t.Errorf("%s: by the chapter's words %v, not %v", name, want, c.want)
		}
	}
}

// Each event that may be, alone, and with each one ahead of it; as what comes next, and within a row.
func TestOfEveryTwoEvents(t *testing.T) {
	for _, second := range rightEvents() {
		s := about(t, second)
		if next, ok := s.Next(second.Thread); !ok || next != second {
			t.Fatalf("about(%+v): %+v", second, next)
		}
		checkNothing(t, s, nil)
		if got := race.Reversible(events(second)); len(got) != 0 {
			t.Errorf("Reversible of %+v alone: %v", second, got)
		}
		for _, first := range rightEvents() {
			var want []race.Race
			if depends(first, second) && first.Thread != second.Thread {
				want = pairs(0, second.Thread)
			}
			if got := race.Races(s, events(first)); !slices.Equal(got, want) {
				t.Errorf("behind %+v, next %+v: %v", first, second, got)
			}
			if got := race.Reversible(events(first, second)); !slices.Equal(got, want) {
				t.Errorf("%+v, %+v: %v", first, second, got)
			}
		}
	}
}

// few: events that meet often.
func few() []api.Event {
	return events(read(0, 0), write(0, 0), local(0), read(1, 0), write(1, 1), lock(1, 0), read(2, 1), write(2, 0), unlock(2, 0), write(3, 1), read(3, 0))
}

// All rows of up to four of some events, and what each of these would be behind them.
func TestOfAllShortRows(t *testing.T) {
	some := events(write(0, 0), read(0, 1), read(1, 0), write(1, 1), write(2, 0), lock(2, 1), unlock(1, 1))
	var nexts []*state.State
	for _, next := range some {
		nexts = append(nexts, about(t, next))
	}
	rows := [][]api.Event{nil}
	for range 4 {
		var longer [][]api.Event
		for _, row := range rows {
			for _, e := range some {
				longer = append(longer, append(slices.Clone(row), e))
			}
		}
		for _, row := range longer {
			checkRow(t, row)
			for _, s := range nexts {
				checkState(t, s, row)
			}
		}
		rows = longer
	}
}

func TestOfDrawnRows(t *testing.T) {
	r := rand.New(rand.NewSource(7))
	for range 300 {
		for _, row := range [][]api.Event{drawn(r, rightEvents(), r.Intn(33)), drawn(r, few(), r.Intn(25))} {
			checkRow(t, row)
			checkState(t, about(t, rightEvents()[r.Intn(56)]), row)
			checkEachOnce(t, race.Reversible(row))
		}
	}
}

// checkEachOnce: what raced with one event of a thread happens before that thread's later ones.
func checkEachOnce(t *testing.T, list []race.Race) {
	t.Helper()
	seen := map[race.Race]int{}
	for _, one := range list {
		if seen[one]++; seen[one] > 1 {
			t.Fatalf("%v: %v stands there twice", list, one)
		}
	}
}

// anyExecution steps a program's threads in a drawn order, and tells each state on the way, with the row ahead of it.
func anyExecution(t *testing.T, r *rand.Rand, p api.Prog, fuel int, each func(s *state.State, row []api.Event)) {
	t.Helper()
	s, row := at(t, p, fuel)
	for {
		each(s, row)
		all := s.All()
		if len(all) == 0 {
			return
		}
		done, e := s.Step(all[r.Intn(len(all))])
		if e != api.OK {
			t.Fatalf("Step: %v", e)
		}
		row = append(row, done)
	}
}

// Real executions, and what they tell one another: what races with what comes next races with it, when it has come.
func TestOfExecutions(t *testing.T) {
	r := rand.New(rand.NewSource(70))
	races, waiting, ended := 0, 0, 0
	for range 1000 {
		var next, within []race.Race
		had := 0
		anyExecution(t, r, anyProgram(r), r.Intn(9), func(s *state.State, row []api.Event) {
			if len(row) > had {
				for _, one := range next {
					if one.Thread == row[had].Thread {
						within = append(within, one)
					}
				}
			}
			had = len(row)
			if got := race.Reversible(row); !slices.Equal(got, within) {
				t.Fatalf("Reversible(%+v): %v, but Races told %v", row, got, within)
			}
			checkRow(t, row)
			checkState(t, s, row)
			next = race.Races(s, row)
			for _, one := range next {
				races++
				if !s.Enabled(one.Thread) {
					waiting++
				}
			}
			for thread := range s.Threads() {
				if _, ok := s.Next(thread); !ok {
					ended++
				}
			}
		})
	}
	if races < 2000 || waiting < 500 || ended < 2000 {
		t.Errorf("%d races, %d of those who wait, %d that have ended: too few", races, waiting, ended)
	}
}

// A state that is not the one behind the row: taken as if it were.
func TestStatesThatAreNotBehindTheRow(t *testing.T) {
	w := code(store(0, 0))
	two := program(w, w)
	first, _ := at(t, two, 8)
	end, _ := at(t, two, 8, 0, 1)
	full := events(write(0, 0), write(1, 0), write(3, 0))
	for name, c := range map[string]struct {
		s    *state.State
		row  []api.Event
		want []race.Race
	}{
		"nothing was done there":        {first, full, pairs(1, 0, 2, 0, 2, 1)},
		"they have ended there":         {end, full, nil},
		"the row has no such thread":    {about(t, read(2, 0)), full, pairs(0, 2, 1, 2, 2, 2)},
		"the state has no such threads": {first, events(write(2, 0), write(3, 0)), pairs(0, 0, 1, 0, 0, 1, 1, 1)},
		"another thing is next":         {about(t, lock(1, 1)), events(unlock(0, 1), write(1, 0), unlock(0, 1)), pairs(0, 1, 2, 1)},
		"a mutex that it has, there":    {about(t, unlock(1, 0)), events(lock(0, 0), unlock(0, 0)), pairs(0, 1, 1, 1)},
		"a mutex that it hasn't, there": {about(t, fails(1)), events(lock(1, 0), lock(0, 0)), nil},
		"the empty row":                 {end, nil, nil},
		"a state of its own make":       {&state.State{}, full, nil},
	} {
		if got := race.Races(c.s, c.row); !slices.Equal(got, c.want) {
			t.Errorf("%s: %v, not %v", name, got, c.want)
		}
		checkState(t, c.s, c.row)
	}
	r := rand.New(rand.NewSource(71))
	for range 300 {
		row := drawn(r, few(), r.Intn(12))
		anyExecution(t, r, anyProgram(r), r.Intn(9), func(s *state.State, _ []api.Event) { checkState(t, s, row) })
	}
}

func TestEmptyRows(t *testing.T) {
	for _, row := range [][]api.Event{nil, {}, events(write(0, 0))[:0]} {
		for _, next := range rightEvents() {
			checkNothing(t, about(t, next), row)
		}
		checkNothing(t, nil, row)
		checkNothing(t, &state.State{}, row)
	}
}

func TestNilState(t *testing.T) {
	for _, e := range rightEvents() {
		if got := race.Races(nil, events(e, write(0, 0), write(1, 0))); len(got) != 0 {
			t.Errorf("Races of a nil state: %v", got)
		}
	}
}

// One event that may not be, wherever it stands, and whatever races with what else.
func TestRowsWithAnEventThatMayNotBe(t *testing.T) {
	w := code(store(0, 0), store(0, 0))
	s, right := at(t, program(w, w, w, w), 8, 0, 1, 2, 0)
	if len(race.Races(s, right)) == 0 || len(race.Reversible(right)) == 0 {
		t.Fatal("nothing races without it, either")
	}
	for _, wrong := range wrongEvents() {
		for i := range len(right) + 1 {
			row := slices.Insert(slices.Clone(right), i, wrong)
			checkNothing(t, s, row)
			checkNothing(t, nil, row)
			checkNothing(t, about(t, write(3, 0)), row)
		}
		checkNothing(t, s, events(wrong))
		checkNothing(t, s, events(wrong, wrong))
	}
	for _, far := range []int{math.MinInt, math.MaxInt} {
		checkNothing(t, s, events(write(0, 0), ev(far, api.EWrite, 0)))
		checkNothing(t, s, events(write(0, 0), ev(1, far, 0)))
		checkNothing(t, s, events(write(0, 0), ev(1, api.EWrite, far)))
	}
}

// Long rows, of which it would take far too long to look at each pair.
func TestLongRows(t *testing.T) {
	const many = 100000
	// 0 does all it does, then 1 what would have raced, but for its first event.
	row := slices.Concat(slices.Repeat(events(write(0, 0)), many), slices.Repeat(events(write(1, 0)), many))
	got := race.Reversible(row)
	if len(got) != many {
		t.Fatalf("%d races", len(got))
	}
	for i, one := range got {
		if one != (race.Race{At: i, Thread: 1}) {
			t.Fatalf("%v at %d", one, i)
		}
	}
	if next := race.Races(about(t, read(2, 0)), row); len(next) != 2*many || next[2*many-1] != (race.Race{At: 2*many - 1, Thread: 2}) {
		t.Errorf("%d races with what comes next", len(next))
	}
	// In turn: each one races with the one ahead of it alone.
	row = slices.Repeat(events(write(0, 0), write(1, 0)), many)
	for i, one := range race.Reversible(row) {
		if one != (race.Race{At: i, Thread: (i + 1) % 2}) {
			t.Fatalf("%v at %d", one, i)
		}
	}
	if next := race.Races(about(t, write(0, 0)), row); !slices.Equal(next, pairs(2*many-1, 0)) {
		t.Errorf("in turn: %d races with what comes next", len(next))
	}
	// What doesn't depend on one another, with nothing between.
	row = slices.Concat(slices.Repeat(events(local(0), write(0, 0)), many), slices.Repeat(events(local(1), write(1, 1)), many))
	checkNothing(t, about(t, read(1, 2)), row)
	checkNothing(t, about(t, read(1, 0)), append(row, api.Event{}))
}

// Rule 5: what is handed in stays, its spare room too, and no answer is its memory, or another answer's.
func TestWhatIsHandedInStays(t *testing.T) {
	w := code(store(0, 0), store(0, 0))
	p := program(w, w, code(take(0), give(0)), w)
	s, _ := at(t, p, 8, 0, 1, 2)
	like := s.Copy()
	whole := append(rightEvents(), write(0, 0), api.Event{Thread: 9})
	want := slices.Clone(whole)
	row := whole[: len(whole)-2 : len(whole)]
	next, within := race.Races(s, row), race.Reversible(row)
	race.Races(s, whole)
	race.Reversible(whole)
	if !slices.Equal(whole, want) || !reflect.DeepEqual(s, like) {
		t.Errorf("changed: %+v, %+v", whole, s)
	}
	if len(next) == 0 || len(within) == 0 {
		t.Fatal("no races")
	}
	clear(next[:cap(next)])
	clear(within[:cap(within)])
	if !slices.Equal(race.Races(s, row), racesOf(s, row)) || !slices.Equal(race.Reversible(row), reversibleOf(row)) {
		t.Error("two answers share memory")
	}
	next, within = race.Races(s, row), race.Reversible(row)
	wantNext, wantWithin := slices.Clone(next), slices.Clone(within)
	clear(whole)
	for thread := range s.Threads() {
		s.Step(thread)
	}
	if !slices.Equal(next, wantNext) || !slices.Equal(within, wantWithin) {
		t.Error("an answer hangs on what was handed in")
	}
}

// checkBytes: any bytes that are events are a row, all others are one that may not be; the state is any program's, wherever the steps lead.
func checkBytes(t *testing.T, text, program string, fuel int, order string) {
	t.Helper()
	p, _ := prog.Read(program)
	s, _ := state.New(p, fuel) // nil of what is no program
	for _, thread := range []byte(order) {
		s.Step(int(thread) % api.MaxThreads)
	}
	text = text[:min(len(text), 60)] // the pairs of a longer row would take too long
	row, e := event.Read(text)
	if e == api.OK {
		checkState(t, s, row)
		checkRow(t, row)
		return
	}
	for _, b := range []byte(text) {
		row = append(row, api.Event{Thread: int(b) % 4, Kind: int(b) % 32 / 4, Obj: int(b) % 128 / 32, Fail: b >= 128})
	}
	checkNothing(t, s, row)
}

func FuzzRaces(f *testing.F) {
	for _, c := range nextExamples() {
		_, row := at(f, c.p, c.fuel, c.steps...)
		text, _ := prog.Print(c.p)
		order := ""
		for _, thread := range c.steps {
			order += string(rune(thread))
		}
		f.Add(event.Print(row), text, c.fuel, order)
		f.Add("\x00"+event.Print(row), text, c.fuel, order)
	}
	f.Fuzz(checkBytes)
}
