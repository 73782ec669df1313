package prog_test

import (
	"reflect"
	"strings"
	"testing"

	"sinnet/api"
	"sinnet/prog"
)

// wantError reads s, which is no program's bytes.
func wantError(t *testing.T, s string, want api.Errno) {
	t.Helper()
	p, e := prog.Read(s)
	if e != want {
		t.Errorf("Read(%x): %v, not %v", s, e, want)
	}
	if !reflect.DeepEqual(p, api.Prog{}) {
		t.Errorf("Read(%x): %+v beside an error", s, p)
	}
}

// printed: programs, and the bytes that the chapter gives them.
func printed() map[string]api.Prog {
	set := api.Instr{Kind: api.OSet}
	return map[string]api.Prog{
		"\x01\x00\x01\x02\x03\x00\x00\xff\x02\x00\x00\x00": alone(1, 0,
			api.Instr{Kind: api.OSet, N: -1}, api.Instr{Kind: api.OStore}),
		"\x00\x00\x01\x00":                                         alone(0, 0),
		"\x04\x02\x01\x00":                                         alone(4, 2),
		"\x00\x00\x04\x00\x00\x00\x00":                             {Threads: make([][]api.Instr, 4)},
		"\x00\x00\x01\x01\x03\x01\x00\x80":                         alone(0, 0, api.Instr{Kind: api.OSet, R: 1, N: -128}),
		"\x00\x00\x01\x01\x04\x00\x00\x7f":                         alone(0, 0, api.Instr{Kind: api.OAdd, N: 127}),
		"\x00\x00\x01\x01\x07\x01\x01\x00":                         alone(0, 0, api.Instr{Kind: api.OJump, R: 1, X: 1}),
		"\x00\x00\x01\x08" + strings.Repeat("\x03\x00\x00\x00", 8): alone(0, 0, repeat(set, 8)...),
		"\x04\x02\x04" +
			"\x08\x01\x01\x03\x00\x02\x00\x00\x00\x03\x01\x00\x80\x04\x00\x00\x7f" +
			"\x05\x00\x01\x00\x06\x00\x00\x00\x07\x01\x08\x00\x08\x01\x00\x00" +
			"\x00" +
			"\x01\x07\x00\x01\x00" +
			"\x02\x03\x00\x00\xff\x02\x00\x02\x00": mixed(),
	}
}

func TestPrint(t *testing.T) {
	for want, p := range printed() {
		if s, e := prog.Print(p); s != want || e != api.OK {
			t.Errorf("Print(%+v): %x %v, not %x", p, s, e, want)
		}
	}
}

func TestRead(t *testing.T) {
	for s, want := range printed() {
		if p, e := prog.Read(s); !prog.Same(p, want) || e != api.OK {
			t.Errorf("Read(%x): %+v %v", s, p, e)
		}
	}
}

func TestReadsWhatIsPrinted(t *testing.T) {
	for name, p := range rightPrograms() {
		s, e := prog.Print(p)
		if e != api.OK {
			t.Errorf("%s: Print: %v", name, e)
		}
		got, e := prog.Read(s)
		if e != api.OK || !prog.Same(got, p) {
			t.Errorf("%s: Read: %+v %v", name, got, e)
		}
	}
}

func TestCutOff(t *testing.T) {
	for s := range printed() {
		for i := range len(s) {
			wantError(t, s[:i], api.ErrShort)
		}
	}
}

func TestBytesLeft(t *testing.T) {
	for s := range printed() {
		for b := range 256 {
			wantError(t, s+string([]byte{byte(b)}), api.ErrForm)
		}
		wantError(t, s+s, api.ErrForm)
	}
}

// Each differs from a program's bytes in one number that may not be.
func TestReadNoProgram(t *testing.T) {
	for _, s := range []string{
		"\x00\x00\x00",                     // no thread
		"\x05\x00\x01\x00",                 // five variables
		"\xff\x00\x01\x00",                 // 255 are not -1
		"\x00\x03\x01\x00",                 // three mutexes
		"\x00\x00\x01\x01\x00\x00\x00\x00", // no kind
		"\x00\x00\x01\x01\x09\x00\x00\x00",
		"\x00\x00\x01\x01\x03\x02\x00\x00", // no register
		"\x00\x01\x01\x01\x05\x01\x00\x00", // a lock has none
		"\x00\x00\x01\x01\x03\x00\x01\x00", // X of a set
		"\x01\x00\x01\x01\x01\x00\x01\x00", // no such variable
		"\x00\x00\x01\x01\x02\x00\x00\x00",
		"\x00\x01\x01\x01\x06\x00\x01\x00", // no such mutex
		"\x00\x00\x01\x01\x07\x00\x02\x00", // behind the end
		"\x00\x00\x01\x01\x07\x00\xff\x00",
		"\x00\x00\x01\x01\x08\x00\x00\x01", // N of an assertion
		"\x00\x00\x01\x01\x08\x00\x00\xff",
		"\x00\x00\x02\x00\x01\x07\x00\x02\x00", // in the last thread
	} {
		wantError(t, s, api.ErrForm)
	}
}

func TestWhichErrorComesFirst(t *testing.T) {
	for s, want := range map[string]api.Errno{
		"":             api.ErrShort,
		"\x05":         api.ErrShort, // what is missing outranks a number of variables
		"\xff\xff":     api.ErrShort,
		"\x05\x03\x01": api.ErrShort,
		"\x00\x00\x04": api.ErrShort,
		"\x00\x00\x05": api.ErrForm, // too many threads, ahead of what is missing
		"\x00\x00\xff": api.ErrForm,

		"\x00\x00\x01\x08":                         api.ErrShort,
		"\x00\x00\x01\x09":                         api.ErrForm, // too many instructions, ahead of what is missing
		"\x00\x00\x01\xff":                         api.ErrForm,
		"\x00\x00\x02\x09":                         api.ErrForm,
		"\x00\x00\x02\x00\x09":                     api.ErrForm,
		"\x00\x00\x02\x01\x03\x00\x00\x00\x09":     api.ErrForm,
		"\x00\x00\x02\x01\x03\x00\x00":             api.ErrShort, // missing ahead of any later number
		"\x00\x00\x02\x01\x09\x00\x00\x09":         api.ErrShort, // a wrong instruction, and then missing
		"\x00\x00\x02\x02\x09\x09\x09\x09\x09":     api.ErrShort,
		"\x00\x00\x02\x01\x00\x00\x00\x00":         api.ErrShort,
		"\x00\x00\x02\x01\x00\x00\x00\x00\x00":     api.ErrForm, // whole, but wrong
		"\x00\x00\x02\x01\x00\x00\x00\x00\x01\x01": api.ErrShort,
		"\x00\x00\x00\x00":                         api.ErrForm, // no thread, and a byte left
		"\x09\x09\x01\x00\x00":                     api.ErrForm,
	} {
		wantError(t, s, want)
	}
}

func TestReadAnswersNewMemory(t *testing.T) {
	s, _ := prog.Print(mixed())
	first, _ := prog.Read(s)
	scribble(first)
	if second, e := prog.Read(s); e != api.OK || !prog.Same(second, mixed()) {
		t.Errorf("%+v %v", second, e)
	}
}

func TestReadSharesNoListWithinItsAnswer(t *testing.T) {
	s, _ := prog.Print(mixed())
	p, _ := prog.Read(s)
	for i := range p.Threads {
		_ = append(p.Threads[i], repeat(api.Instr{Kind: 99}, 9)...)
	}
	if !prog.Same(p, mixed()) {
		t.Errorf("threads share memory: %+v", p)
	}
}

// everyInstr: all instructions that may be in a program of one variable and one mutex, of a thread of one or two.
func everyInstr() []api.Instr {
	list := []api.Instr{{Kind: api.OLock}, {Kind: api.OUnlock}}
	for r := range 2 {
		for _, kind := range []int{api.OLoad, api.OStore, api.OAssert} {
			list = append(list, api.Instr{Kind: kind, R: r})
		}
		for n := -128; n <= 127; n++ {
			list = append(list, api.Instr{Kind: api.OSet, R: r, N: int64(n)})
			list = append(list, api.Instr{Kind: api.OAdd, R: r, N: int64(n)})
		}
		for x := range 2 {
			list = append(list, api.Instr{Kind: api.OJump, R: r, X: x})
		}
	}
	return list
}

// manyPrograms: all of up to three threads of up to two instructions out of a few, and each instruction alone.
func manyPrograms() []api.Prog {
	var list []api.Prog
	for _, in := range everyInstr() {
		list = append(list, alone(1, 1, in))
	}
	few := []api.Instr{{Kind: api.OSet}, {Kind: api.OLoad}, {Kind: api.OLock}}
	codes := [][]api.Instr{nil}
	for _, a := range few {
		codes = append(codes, []api.Instr{a})
		for _, b := range few {
			codes = append(codes, []api.Instr{a, b})
		}
	}
	for vars := 1; vars <= 4; vars++ {
		for mutexes := 1; mutexes <= 2; mutexes++ {
			for _, a := range codes {
				list = append(list, api.Prog{Vars: vars, Mutexes: mutexes, Threads: [][]api.Instr{a, a, a, a}})
				for _, b := range codes {
					list = append(list, api.Prog{Vars: vars, Mutexes: mutexes, Threads: [][]api.Instr{a, b}})
					for _, c := range codes {
						list = append(list, api.Prog{Vars: vars, Mutexes: mutexes, Threads: [][]api.Instr{a, b, c}})
					}
				}
			}
		}
	}
	return list
}

func TestUnlikeProgramsHaveUnlikeBytes(t *testing.T) {
	seen := map[string]api.Prog{}
	for _, p := range manyPrograms() {
		s, e := prog.Print(p)
		if e != api.OK {
			t.Fatalf("Print(%+v): %v", p, e)
		}
		if other, ok := seen[s]; ok && !prog.Same(p, other) {
			t.Fatalf("%+v and %+v: both %x", p, other, s)
		}
		seen[s] = p
		if got, e := prog.Read(s); e != api.OK || !prog.Same(got, p) {
			t.Fatalf("Read(%x): %+v %v", s, got, e)
		}
	}
}

// checkRead: what holds of any bytes.
func checkRead(t *testing.T, s string) {
	t.Helper()
	p, e := prog.Read(s)
	if e == api.OK {
		if again, e := prog.Print(p); again != s || e != api.OK {
			t.Fatalf("Print(Read(%x)): %x %v", s, again, e)
		}
		if _, e := prog.Read(s + "\x00"); e != api.ErrForm {
			t.Fatalf("Read(%x, 00): %v", s, e)
		}
		return
	}
	if e != api.ErrShort && e != api.ErrForm || !reflect.DeepEqual(p, api.Prog{}) {
		t.Fatalf("Read(%x): %+v %v", s, p, e)
	}
	// Enough bytes 0 make any beginning whole, so what is short ends being so; what isn't stays so.
	_, more := prog.Read(s + strings.Repeat("\x00", 200))
	if more != api.ErrForm {
		t.Fatalf("Read(%x, 00..): %v", s, more)
	}
	if e == api.ErrForm {
		if _, next := prog.Read(s + "\x00"); next != api.ErrForm {
			t.Fatalf("Read(%x, 00): %v", s, next)
		}
	}
}

// All texts of up to six bytes out of those that matter at the edges.
func TestShortTexts(t *testing.T) {
	edges := []byte{0, 1, 2, 3, 5, 9, 255}
	var grow func(s []byte)
	grow = func(s []byte) {
		checkRead(t, string(s))
		if len(s) == 6 {
			return
		}
		for _, b := range edges {
			grow(append(s, b))
		}
	}
	grow(nil)
}

// Every single byte of a program's bytes, as any other one.
func TestChangedBytes(t *testing.T) {
	for s := range printed() {
		for i := range len(s) {
			for b := range 256 {
				changed := []byte(s)
				changed[i] = byte(b)
				checkRead(t, string(changed))
			}
		}
	}
}

func FuzzRead(f *testing.F) {
	for s := range printed() {
		f.Add(s)
	}
	f.Fuzz(checkRead)
}
