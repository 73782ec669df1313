package seq_test

import (
	"math"
	"reflect"
	"slices"
	"testing"

	"sinnet/api"
	"sinnet/prog"
	"sinnet/seq"
	"sinnet/walk"
)

// wrong: programs and fuels that state.New refuses.
func wrong() map[string]example {
	right := program(code(set(0, 1)), code(store(0, 0)))
	return map[string]example{
		"fuel -1":           {p: right, fuel: -1},
		"fuel 9":            {p: right, fuel: 9},
		"least fuel":        {p: right, fuel: math.MinInt},
		"most fuel":         {p: right, fuel: math.MaxInt},
		"no thread":         {p: api.Prog{}, fuel: 8},
		"nothing right":     {p: api.Prog{Vars: -1, Mutexes: -1}, fuel: -1},
		"five threads":      {p: program(nil, nil, nil, nil, nil), fuel: 8},
		"nine instructions": {p: locals(9), fuel: 8},
		"five variables":    {p: api.Prog{Vars: 5, Threads: right.Threads}, fuel: 8},
		"variables -1":      {p: api.Prog{Vars: -1, Threads: [][]api.Instr{nil}}, fuel: 8},
		"three mutexes":     {p: api.Prog{Vars: 1, Mutexes: 3, Threads: right.Threads}, fuel: 8},
		"no kind":           {p: program(code(api.Instr{})), fuel: 8},
		"kind 9":            {p: program(nil, code(api.Instr{Kind: 9})), fuel: 8},
		"no such variable":  {p: program(code(load(0, 2))), fuel: 8},
		"no such mutex":     {p: program(code(lock(2))), fuel: 8},
		"no such register":  {p: program(code(assert(2))), fuel: 8},
		"a jump too far":    {p: program(code(jump(0, 2))), fuel: 8},
		"a number too big":  {p: program(code(set(0, 128))), fuel: 8},
		"wrong, but unused": {p: program(code(set(0, 1), api.Instr{Kind: -1})), fuel: 0},
	}
}

// checkRefused: that error, and nothing else.
func checkRefused(t *testing.T, p api.Prog, fuel, budget int, order []uint8) {
	t.Helper()
	if got, e := seq.Explore(p, fuel, budget, order); e != api.ErrArg || !same(got, seq.Report{}) {
		t.Errorf("Explore(%+v, %d, %d, %v): %#v %v", p, fuel, budget, order, got, e)
	}
}

// New's error comes first, whatever the budget and the order are, and nothing is explored.
func TestWhatNewRefuses(t *testing.T) {
	for name, c := range wrong() {
		t.Run(name, func(t *testing.T) {
			for _, budget := range []int{math.MinInt, -1, 0, 1, 1000, math.MaxInt} {
				for _, order := range orders() {
					checkRefused(t, c.p, c.fuel, budget, order)
				}
			}
		})
	}
}

// room: with spare room behind it, that is filled.
func room(p api.Prog) api.Prog {
	threads := make([][]api.Instr, 0, len(p.Threads)+2)
	for _, list := range p.Threads {
		list = append(slices.Clone(list), set(1, 99), set(1, 98))
		threads = append(threads, list[:len(list)-2])
	}
	full := append(threads, code(set(1, 97)), nil)
	p.Threads = full[:len(threads)]
	return p
}

// whole: all that a program's memory has, its spare room too.
func whole(p api.Prog) [][]api.Instr {
	var all [][]api.Instr
	for _, list := range p.Threads[:cap(p.Threads)] {
		all = append(all, slices.Clone(list[:cap(list)]))
	}
	return all
}

func TestWhatIsHandedInStays(t *testing.T) {
	for name, c := range examples() {
		for _, list := range orders() {
			p := room(c.p)
			was, like := whole(p), prog.Copy(p)
			order := append(slices.Clone(list), 7, 8, 9)[:len(list)]
			filled := slices.Clone(order[:cap(order)])
			seq.Explore(p, c.fuel, api.MaxBudget, order)
			seq.Explore(p, c.fuel, c.nodes-1, order)
			if !prog.Same(p, like) || !reflect.DeepEqual(whole(p), was) || !slices.Equal(order[:cap(order)], filled) {
				t.Errorf("%s: changed", name)
			}
		}
	}
}

// What was answered is the caller's: spoiling it, or what was handed in, changes no other answer.
func TestAnswersAreNewMemory(t *testing.T) {
	for name, c := range examples() {
		p, order := prog.Copy(c.p), []uint8{1, 2, 3}
		first, _ := seq.Explore(p, c.fuel, api.MaxBudget, order)
		want := first
		want.Keys = slices.Clone(first.Keys)
		for _, list := range p.Threads {
			clear(list)
		}
		clear(order)
		if !same(first, want) {
			t.Errorf("%s: an answer hangs on what was handed in", name)
		}
		again, e := seq.Explore(c.p, c.fuel, api.MaxBudget, []uint8{1, 2, 3})
		clear(first.Keys[:cap(first.Keys)])
		if e != api.OK || !same(again, want) {
			t.Errorf("%s: answers share memory: %#v %v", name, again, e)
		}
	}
}

// FuzzExplore: any bytes that are a program, any fuel, budget and order.
func FuzzExplore(f *testing.F) {
	for _, c := range examples() {
		s, _ := prog.Print(c.p)
		f.Add(s, c.fuel, c.nodes, []byte(nil))
		f.Add(s, c.fuel, c.nodes-1, []byte{1, 0, 2, 1})
		f.Add(s, c.fuel, c.nodes/2, []byte{255, 254, 253})
	}
	f.Fuzz(func(t *testing.T, s string, fuel, budget int, order []byte) {
		p, e := prog.Read(s)
		if e != api.OK || fuel < 0 || fuel > api.MaxFuel {
			checkRefused(t, p, min(fuel, -1), budget, order)
			return
		}
		cut := checkModel(t, p, fuel, min(budget, 300), order).told
		for _, key := range cut.Keys {
			if !isClass(p, fuel, key) {
				t.Fatalf("%x is no class", key)
			}
		}
		sum, e := walk.All(p, fuel, 1000)
		if e != api.OK {
			return
		}
		got := checkModel(t, p, fuel, sum.Prefixes, order).told
		if !got.Complete || !slices.Equal(got.Keys, sum.Keys) || got.Runs != len(sum.Keys) {
			t.Fatalf("%+v, fuel %d, order %v: %#v, not %x", p, fuel, order, got, sum.Keys)
		}
		checkCutOff(t, cut, sum.Keys)
	})
}
