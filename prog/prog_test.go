package prog_test

import (
	"math"
	"reflect"
	"slices"
	"testing"

	"sinnet/api"
	"sinnet/prog"
)

// repeat: a thread of n instructions that are one.
func repeat(in api.Instr, n int) []api.Instr {
	return slices.Repeat([]api.Instr{in}, n)
}

// alone: a program of one thread.
func alone(vars, mutexes int, code ...api.Instr) api.Prog {
	return api.Prog{Vars: vars, Mutexes: mutexes, Threads: [][]api.Instr{code}}
}

// threads: a program of n threads of one instruction each.
func threads(n int) api.Prog {
	return api.Prog{Threads: slices.Repeat([][]api.Instr{{{Kind: api.OAssert}}}, n)}
}

// mixed: a program with every kind of instruction, an empty thread, and a full one.
func mixed() api.Prog {
	return api.Prog{Vars: 4, Mutexes: 2, Threads: [][]api.Instr{
		{
			{Kind: api.OLoad, R: 1, X: 3},
			{Kind: api.OStore, R: 0, X: 0},
			{Kind: api.OSet, R: 1, N: -128},
			{Kind: api.OAdd, R: 0, N: 127},
			{Kind: api.OLock, X: 1},
			{Kind: api.OUnlock, X: 0},
			{Kind: api.OJump, R: 1, X: 8},
			{Kind: api.OAssert, R: 1},
		},
		nil,
		{{Kind: api.OJump, R: 0, X: 1}},
		{{Kind: api.OSet, R: 0, N: -1}, {Kind: api.OStore, R: 0, X: 2}},
	}}
}

// rightPrograms: ordinary ones, and the edges of what may be.
func rightPrograms() map[string]api.Prog {
	local := api.Instr{Kind: api.OSet}
	return map[string]api.Prog{
		"one empty thread":             {Threads: [][]api.Instr{nil}},
		"one empty thread, not nil":    {Threads: [][]api.Instr{{}}},
		"four empty threads":           {Threads: make([][]api.Instr, 4)},
		"four threads":                 threads(4),
		"four variables, no mutex":     alone(4, 0, api.Instr{Kind: api.OLoad, X: 3}),
		"no variable, two mutexes":     alone(0, 2, api.Instr{Kind: api.OLock, X: 1}),
		"variables that nobody uses":   alone(4, 2),
		"eight instructions":           alone(0, 0, repeat(local, 8)...),
		"N at -128":                    alone(0, 0, api.Instr{Kind: api.OSet, R: 1, N: -128}),
		"N at 127":                     alone(0, 0, api.Instr{Kind: api.OAdd, R: 1, N: 127}),
		"a jump to the end":            alone(0, 0, api.Instr{Kind: api.OJump, X: 1}),
		"a jump to itself":             alone(0, 0, api.Instr{Kind: api.OJump, R: 1}),
		"a jump to the end of eight":   alone(0, 0, repeat(api.Instr{Kind: api.OJump, X: 8}, 8)...),
		"a mutex given back, not held": alone(0, 1, api.Instr{Kind: api.OUnlock}),
		"all kinds":                    mixed(),
	}
}

// wrongPrograms: each is one step beyond what may be, or far beyond it.
func wrongPrograms() map[string]api.Prog {
	local := api.Instr{Kind: api.OSet}
	bad := api.Instr{Kind: 9}
	return map[string]api.Prog{
		"no thread":                   {},
		"no thread, not nil":          {Threads: [][]api.Instr{}},
		"five threads":                threads(5),
		"five empty threads":          {Threads: make([][]api.Instr, 5)},
		"257 threads":                 threads(257),
		"nine instructions":           alone(0, 0, repeat(local, 9)...),
		"264 instructions":            alone(0, 0, repeat(local, 264)...),
		"nine in the last thread":     {Threads: [][]api.Instr{nil, nil, nil, repeat(local, 9)}},
		"-1 variables":                alone(-1, 0),
		"five variables":              alone(5, 0),
		"256 variables":               alone(256, 0),
		"least variables":             alone(math.MinInt, 0),
		"-1 mutexes":                  alone(0, -1),
		"three mutexes":               alone(0, 3),
		"256 mutexes":                 alone(0, 256),
		"wrong in the first thread":   {Threads: [][]api.Instr{{bad}, nil}},
		"wrong in the last thread":    {Threads: [][]api.Instr{nil, {bad}}},
		"wrong instruction at first":  alone(0, 0, bad, local),
		"wrong instruction at last":   alone(0, 0, local, bad),
		"a jump by another's length":  {Threads: [][]api.Instr{{{Kind: api.OJump, X: 2}}, repeat(local, 2)}},
		"a load of a mutex's number":  alone(1, 2, api.Instr{Kind: api.OLoad, X: 1}),
		"a lock of variable's number": alone(4, 1, api.Instr{Kind: api.OLock, X: 1}),
	}
}

func TestRightPrograms(t *testing.T) {
	for name, p := range rightPrograms() {
		if !prog.Right(p) {
			t.Errorf("%s: not Right", name)
		}
	}
}

func TestWrongPrograms(t *testing.T) {
	for name, p := range wrongPrograms() {
		if prog.Right(p) {
			t.Errorf("%s: Right", name)
		}
		if s, e := prog.Print(p); s != "" || e != api.ErrArg {
			t.Errorf("%s: Print: %x %v", name, s, e)
		}
	}
}

// fields: which numbers a kind's fields may be, from one to another one, both of them included.
type fields struct {
	r, x [2]int
	n    [2]int64
}

// fieldsOf is the chapter's section Words as a table, for two variables, one mutex, and threads of three instructions.
func fieldsOf() map[int]fields {
	none := [2]int{0, 0}
	reg := [2]int{0, 1}
	small := [2]int64{-128, 127}
	return map[int]fields{
		1: {r: reg, x: [2]int{0, 1}},
		2: {r: reg, x: [2]int{0, 1}},
		3: {r: reg, x: none, n: small},
		4: {r: reg, x: none, n: small},
		5: {r: none, x: [2]int{0, 0}},
		6: {r: none, x: [2]int{0, 0}},
		7: {r: reg, x: [2]int{0, 3}},
		8: {r: reg, x: none},
	}
}

func within[T int | int64](n T, span [2]T) bool { return span[0] <= n && n <= span[1] }

func TestEveryInstruction(t *testing.T) {
	kinds := []int{math.MinInt, -1, 0, 1, 2, 3, 4, 5, 6, 7, 8, 9, 256, 257, 263, math.MaxInt}
	small := []int{math.MinInt, -256, -1, 0, 1, 2, 3, 4, 5, 8, 9, 255, 256, 257, math.MaxInt}
	large := []int64{math.MinInt64, -257, -256, -129, -128, -127, -1, 0, 1, 126, 127, 128, 255, 256, 257, math.MaxInt64}
	local := api.Instr{Kind: api.OSet}
	for _, kind := range kinds {
		may, known := fieldsOf()[kind]
		for _, r := range small {
			for _, x := range small {
				for _, n := range large {
					in := api.Instr{Kind: kind, R: r, X: x, N: n}
					want := known && within(r, may.r) && within(x, may.x) && within(n, may.n)
					if got := prog.Right(alone(2, 1, local, in, local)); got != want {
						t.Errorf("%+v: %v", in, got)
					}
				}
			}
		}
	}
}

func TestNoVariableAndNoMutexToName(t *testing.T) {
	for _, kind := range []int{api.OLoad, api.OStore} {
		if prog.Right(alone(0, 2, api.Instr{Kind: kind})) {
			t.Errorf("kind %d of no variable", kind)
		}
	}
	for _, kind := range []int{api.OLock, api.OUnlock} {
		if prog.Right(alone(4, 0, api.Instr{Kind: kind})) {
			t.Errorf("kind %d of no mutex", kind)
		}
	}
}

// unlike: programs that each differ from mixed, and from one another, in one thing.
func unlike() []api.Prog {
	change := func(f func(p *api.Prog)) api.Prog {
		p := mixed()
		f(&p)
		return p
	}
	return []api.Prog{
		mixed(),
		change(func(p *api.Prog) { p.Vars-- }),
		change(func(p *api.Prog) { p.Mutexes = 7 }),
		change(func(p *api.Prog) { p.Threads = p.Threads[:3] }),
		change(func(p *api.Prog) { p.Threads = p.Threads[1:] }),
		change(func(p *api.Prog) { p.Threads = append(p.Threads, nil) }),
		change(func(p *api.Prog) { p.Threads[1] = repeat(api.Instr{}, 1) }),
		change(func(p *api.Prog) { p.Threads[3] = p.Threads[3][:1] }),
		change(func(p *api.Prog) { p.Threads[1], p.Threads[2] = p.Threads[2], p.Threads[1] }),
		change(func(p *api.Prog) { p.Threads[3][0], p.Threads[3][1] = p.Threads[3][1], p.Threads[3][0] }),
		change(func(p *api.Prog) { p.Threads[0][7].Kind = 3 }),
		change(func(p *api.Prog) { p.Threads[0][7].R = 0 }),
		change(func(p *api.Prog) { p.Threads[0][7].X = 1 }),
		change(func(p *api.Prog) { p.Threads[0][7].N = 1 }),
		change(func(p *api.Prog) { p.Threads[0][7].N = 257 }),
		change(func(p *api.Prog) { p.Threads[3][1].N = math.MinInt64 }),
		{},
		{Threads: [][]api.Instr{nil}},
		{Threads: [][]api.Instr{nil, nil}},
	}
}

func TestSame(t *testing.T) {
	list, again := unlike(), unlike()
	for i, a := range list {
		for k, b := range again {
			if got := prog.Same(a, b); got != (i == k) {
				t.Errorf("%d %d: %v", i, k, got)
			}
		}
	}
}

func TestSameTakesNilAndEmptyAsOne(t *testing.T) {
	pairs := [][2]api.Prog{
		{{Vars: 1}, {Vars: 1, Threads: [][]api.Instr{}}},
		{{Threads: [][]api.Instr{nil, {}}}, {Threads: [][]api.Instr{{}, nil}}},
	}
	for i, pair := range pairs {
		if !prog.Same(pair[0], pair[1]) || !prog.Same(pair[1], pair[0]) {
			t.Errorf("pair %d is not the same", i)
		}
	}
}

func TestCopyIsLikeIt(t *testing.T) {
	for i, p := range unlike() {
		if got := prog.Copy(p); !prog.Same(got, p) || !reflect.DeepEqual(got, p) {
			t.Errorf("%d: %+v", i, got)
		}
	}
	for name, p := range wrongPrograms() {
		if got := prog.Copy(p); !prog.Same(got, p) {
			t.Errorf("%s: %+v", name, got)
		}
	}
}

// scribble changes everything of a program that lies in memory of its own, spare room too.
func scribble(p api.Prog) {
	for i, code := range p.Threads {
		code = code[:cap(code)]
		for k := range code {
			code[k] = api.Instr{Kind: 99, R: 99, X: 99, N: 99}
		}
		p.Threads[i] = repeat(api.Instr{Kind: 77}, 1)
	}
	room := p.Threads[:cap(p.Threads)]
	for i := range room {
		room[i] = repeat(api.Instr{Kind: 77}, 1)
	}
}

func TestCopySharesNothing(t *testing.T) {
	p := mixed()
	like := prog.Copy(p)
	scribble(like)
	if !reflect.DeepEqual(p, mixed()) {
		t.Errorf("the copy's changes reach it: %+v", p)
	}
	like = prog.Copy(p)
	scribble(p)
	if !reflect.DeepEqual(like, mixed()) {
		t.Errorf("its changes reach the copy: %+v", like)
	}
}

// A thread that stands in a program twice is two lists in its copy.
func TestCopyOfATwiceUsedList(t *testing.T) {
	code := repeat(api.Instr{Kind: api.OSet}, 2)
	like := prog.Copy(api.Prog{Threads: [][]api.Instr{code, code, code[:0]}})
	like.Threads[0][0].N = 5
	_ = append(like.Threads[2], api.Instr{Kind: 99})
	if like.Threads[1][0].N != 0 || code[0] != (api.Instr{Kind: api.OSet}) {
		t.Errorf("lists are shared: %+v %+v", like, code)
	}
}

// roomy: mixed, in lists that have spare room, and what stands in that room.
func roomy() (api.Prog, [][]api.Instr, [][]api.Instr) {
	mark := api.Instr{Kind: 55, R: 55, X: 55, N: 55}
	p := mixed()
	var whole [][]api.Instr
	for i, code := range p.Threads {
		long := append(slices.Clone(code), mark, mark)
		whole = append(whole, long)
		p.Threads[i] = long[:len(code)]
	}
	threads := append(slices.Clone(p.Threads), repeat(mark, 1))
	p.Threads = threads[:len(p.Threads)]
	return p, threads, whole
}

func TestWhatIsHandedInStays(t *testing.T) {
	p, threads, whole := roomy()
	_, wantThreads, wantWhole := roomy()
	prog.Right(p)
	prog.Print(p)
	prog.Same(p, p)
	like := prog.Copy(p)
	like.Threads = append(like.Threads, nil)
	for i := range like.Threads {
		like.Threads[i] = append(like.Threads[i], api.Instr{Kind: 1})
	}
	if !reflect.DeepEqual(threads, wantThreads) || !reflect.DeepEqual(whole, wantWhole) {
		t.Errorf("changed: %+v %+v", threads, whole)
	}
}
