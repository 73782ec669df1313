package foata_test

import (
	"math/rand"
	"slices"
	"testing"

	"sinnet/api"
	"sinnet/event"
	"sinnet/foata"
	"sinnet/state"
)

// example is a row, with its levels and its Key as the chapter's words give them.
type example struct {
	list row
	want levels
	key  string
}

func examples() []example {
	return []example{
		{nil, nil, "\x00"},
		{row{local(2)}, levels{{local(2)}}, "\x01\x06\x00"},
		// A level of two, by rising threads, in whichever order they come.
		{row{local(0), local(1)}, levels{{local(0), local(1)}}, "\x02\x04\x05\x00"},
		{row{local(1), local(0)}, levels{{local(0), local(1)}}, "\x02\x04\x05\x00"},
		{row{read(1, 0), read(0, 0)}, levels{{read(0, 0), read(1, 0)}}, "\x02\x08\x09\x00"},
		{row{write(3, 0), unlock(2, 0), lock(1, 1), fails(0)}, levels{{fails(0), lock(1, 1), unlock(2, 0), write(3, 0)}}, "\x04\x84\x31\x16\x0f\x00"},
		// A level each: of one variable, of one mutex, of one thread.
		{row{write(0, 0), write(1, 0)}, levels{{write(0, 0)}, {write(1, 0)}}, "\x01\x0c\x01\x0d\x00"},
		{row{write(1, 0), write(0, 0)}, levels{{write(1, 0)}, {write(0, 0)}}, "\x01\x0d\x01\x0c\x00"},
		{row{lock(0, 1), lock(3, 1)}, levels{{lock(0, 1)}, {lock(3, 1)}}, "\x01\x30\x01\x33\x00"},
		{row{fails(2), local(2), fails(2)}, levels{{fails(2)}, {local(2)}, {fails(2)}}, "\x01\x86\x01\x06\x01\x86\x00"},
		// The greatest level counts, not the last event's: 1's write is of level 0.
		{row{write(0, 0), local(0), write(1, 1), read(0, 1)}, levels{{write(0, 0), write(1, 1)}, {local(0)}, {read(0, 1)}}, "\x02\x0c\x2d\x01\x04\x01\x28\x00"},
		{row{local(0), local(0), write(0, 0), write(1, 1), read(2, 1), read(2, 0)},
			levels{{local(0), write(1, 1)}, {local(0), read(2, 1)}, {write(0, 0)}, {read(2, 0)}}, "\x02\x04\x2d\x02\x04\x2a\x01\x0c\x01\x0a\x00"},
		// An event goes past a level whose events don't depend on it.
		{row{write(0, 0), read(1, 0), read(2, 0), write(3, 1), write(3, 0)},
			levels{{write(0, 0), write(3, 1)}, {read(1, 0), read(2, 0)}, {write(3, 0)}}, "\x02\x0c\x2f\x02\x09\x0a\x01\x0f\x00"},
		{row{write(0, 0), write(0, 0), read(1, 1)}, levels{{write(0, 0), read(1, 1)}, {write(0, 0)}}, "\x02\x0c\x29\x01\x0c\x00"},
	}
}

func TestByExamples(t *testing.T) {
	for _, c := range examples() {
		if got := foata.Levels(c.list); !sameLevels(got, c.want) {
			t.Errorf("Levels(%+v): %+v, not %+v", c.list, got, c.want)
		}
		if s := foata.Key(c.list); s != c.key {
			t.Errorf("Key(%+v): %x, not %x", c.list, s, c.key)
		}
		if s := foata.Print(c.want); s != c.key {
			t.Errorf("Print(%+v): %x, not %x", c.want, s, c.key)
		}
		if got, e := foata.Read(c.key); e != api.OK || !sameLevels(got, c.want) {
			t.Errorf("Read(%x): %+v %v, not %+v", c.key, got, e, c.want)
		}
		if got := foata.Row(c.want); !slices.Equal(got, slices.Concat(c.want...)) {
			t.Errorf("Row(%+v): %+v", c.want, got)
		}
		checkRow(t, c.list)
	}
}

func TestOfEveryTwoEvents(t *testing.T) {
	for _, list := range rowsOf(rightEvents(), 2) {
		checkRow(t, list)
	}
}

func TestOfDrawnRows(t *testing.T) {
	r := rand.New(rand.NewSource(5))
	few := row{read(0, 0), write(0, 0), local(0), read(1, 0), write(1, 1), lock(1, 0), read(2, 1), write(2, 0), unlock(2, 0), write(3, 1), read(3, 0)}
	for range 500 {
		checkRow(t, anyRow(r, rightEvents(), r.Intn(33)))
		checkRow(t, anyRow(r, few, r.Intn(25)))
	}
	for range 20 {
		checkRow(t, anyRow(r, rightEvents(), 180+r.Intn(21)))
	}
}

// Real executions are rows, too: three threads that write, read and lock, stepped in drawn orders.
func TestOfExecutions(t *testing.T) {
	p := api.Prog{Vars: 2, Mutexes: 1, Threads: [][]api.Instr{
		{{Kind: api.OLock}, {Kind: api.OStore}, {Kind: api.OUnlock}, {Kind: api.OLoad, X: 1}},
		{{Kind: api.OLock}, {Kind: api.OLoad}, {Kind: api.OUnlock}, {Kind: api.OStore, X: 1}},
		{{Kind: api.OAssert}, {Kind: api.OLoad}, {Kind: api.OUnlock}, {Kind: api.OStore, X: 1}},
	}}
	r := rand.New(rand.NewSource(50))
	for range 200 {
		s, e := state.New(p, api.MaxFuel)
		if e != api.OK {
			t.Fatalf("New: %v", e)
		}
		var list row
		for all := s.All(); len(all) > 0; all = s.All() {
			next, _ := s.Step(all[r.Intn(len(all))])
			list = append(list, next)
		}
		checkRow(t, list)
	}
}

func TestRowsThatAreEmpty(t *testing.T) {
	for _, list := range []row{nil, {}, row{local(0)}[:0]} {
		if got := foata.Levels(list); len(got) != 0 {
			t.Errorf("Levels: %+v", got)
		}
		if s := foata.Key(list); s != "\x00" {
			t.Errorf("Key: %x", s)
		}
	}
	for _, all := range []levels{nil, {}, levels{{local(0)}}[:0]} {
		if s := foata.Print(all); s != "\x00" {
			t.Errorf("Print: %x", s)
		}
		if got := foata.Row(all); len(got) != 0 {
			t.Errorf("Row: %+v", got)
		}
	}
	if got, e := foata.Read("\x00"); e != api.OK || len(got) != 0 {
		t.Errorf("Read: %+v %v", got, e)
	}
}

// longRows: rows as long as they come, of levels of one, of two and of four events.
func longRows() []row {
	return []row{
		slices.Repeat(row{local(3)}, 200),
		slices.Repeat(row{write(0, 0), write(1, 0), write(2, 0), write(3, 0)}, 50),
		slices.Repeat(row{read(3, 0), read(2, 0), read(1, 0), read(0, 0)}, 50),
		slices.Repeat(row{write(1, 0), write(0, 1)}, 100),
		slices.Concat(slices.Repeat(row{fails(1)}, 199), row{lock(0, 0)}),
	}
}

func TestRowsAsLongAsTheyCome(t *testing.T) {
	for _, list := range longRows() {
		if len(list) != 200 || len(foata.Levels(list)) == 0 {
			t.Fatalf("a row of %d: %d levels", len(list), len(foata.Levels(list)))
		}
		checkRow(t, list)
		for _, e := range []api.Event{local(0), local(2), write(1, 1), {}} {
			longer := append(slices.Clone(list), e)
			checkNone(t, longer)
			checkNone(t, append(row{e}, list...))
			if event.Right(e) {
				checkNoPrint(t, levelsOf(longer))
				checkForm(t, bytesOf(levelsOf(longer)))
			}
		}
		checkNone(t, slices.Repeat(list, 100))
	}
}

// One event that may not be, wherever it stands.
func TestRowsWithAnEventThatMayNotBe(t *testing.T) {
	right := row{write(0, 0), read(1, 0), fails(2), unlock(3, 1)}
	for _, wrong := range wrongEvents() {
		checkNone(t, row{wrong})
		checkNone(t, row{wrong, wrong})
		for at := range len(right) + 1 {
			checkNone(t, slices.Insert(slices.Clone(right), at, wrong))
		}
		for _, list := range longRows() {
			for _, at := range []int{0, 100, 199} {
				list[at] = wrong
				checkNone(t, list)
			}
		}
	}
}

// Row asks for nothing: level by level, whether they are some row's or not.
func TestRowOfAnyLevels(t *testing.T) {
	for _, c := range []struct {
		all  levels
		want row
	}{
		{levels{{}}, nil},
		{levels{nil, {}, nil}, nil},
		{levels{{local(1), local(0)}}, row{local(1), local(0)}},
		{levels{nil, {local(1)}, {}, {write(0, 0), {}, local(-7)}, nil}, row{local(1), write(0, 0), {}, local(-7)}},
		{levels{{{Thread: 9, Kind: 9, Obj: 9, Fail: true}}}, row{{Thread: 9, Kind: 9, Obj: 9, Fail: true}}},
		{levels{slices.Repeat(row{local(0)}, 300), {local(1)}}, append(slices.Repeat(row{local(0)}, 300), local(1))},
	} {
		if got := foata.Row(c.all); !slices.Equal(got, c.want) {
			t.Errorf("Row(%+v): %+v", c.all, got)
		}
	}
}

// room: a copy of a row, with room behind it that holds something.
func room(list row) row {
	whole := append(slices.Clone(list), fails(3), fails(2), fails(1))
	return whole[:len(list)]
}

// Rule 5: what is handed in stays, its spare room too, and no list of an answer is another's memory.
func TestWhatIsHandedInStays(t *testing.T) {
	list := room(row{write(2, 0), local(1), write(0, 0), read(1, 3)})
	whole := slices.Clone(list[:cap(list)])
	first := foata.Levels(list)
	foata.Key(list)
	if !slices.Equal(list[:cap(list)], whole) {
		t.Errorf("changed: %+v", list[:cap(list)])
	}
	all := append(make(levels, 0, 5), room(first[0]), room(first[1]))
	spare := all[:3]
	spare[2] = row{fails(0)}
	foata.Print(all)
	one := foata.Row(all)
	for i, events := range all {
		if got := events[:len(events)+3]; !slices.Equal(got, append(slices.Clone(first[i]), fails(3), fails(2), fails(1))) {
			t.Errorf("changed: %+v", got)
		}
	}
	if len(spare[2]) != 1 || spare[2][0] != fails(0) {
		t.Errorf("changed behind the levels: %+v", spare[2])
	}
	one[0], one[len(one)-1] = api.Event{}, api.Event{}
	if all[0][0] == (api.Event{}) || all[1][len(all[1])-1] == (api.Event{}) {
		t.Error("Row answers what was handed in")
	}
	one = foata.Row(levels{list})
	one[0] = api.Event{}
	if list[0] == (api.Event{}) {
		t.Error("Row of one level answers what was handed in")
	}
}

// spoil writes over all of an answer's lists, one by one, and looks whether another one changed.
func spoil(t *testing.T, all levels) {
	t.Helper()
	for i := range all {
		want := slices.Clone(all)
		for k := range want {
			want[k] = slices.Clone(all[k])
		}
		full := all[i][:cap(all[i])]
		for k := range full {
			full[k] = local(-9)
		}
		for k := range all {
			if k != i && !slices.Equal(all[k], want[k]) {
				t.Errorf("the lists %d and %d share memory", i, k)
			}
		}
	}
}

func TestAnswersAreNewMemory(t *testing.T) {
	for _, c := range examples() {
		spoil(t, foata.Levels(c.list))
		checkRow(t, c.list)
		all, _ := foata.Read(c.key)
		spoil(t, all)
		checkRow(t, c.list)
	}
	list := row{local(0)}
	spoil(t, foata.Levels(list))
	if list[0] != local(0) {
		t.Error("Levels answers what was handed in")
	}
}
