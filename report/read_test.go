package report_test

import (
	"math/rand"
	"slices"
	"strings"
	"testing"

	"sinnet/api"
	"sinnet/report"
)

// P15.1: each beginning of a report's bytes, the empty one, too.
func TestReadOfBeginnings(t *testing.T) {
	for _, c := range examples() {
		for size := range len(c.s) {
			checkFault(t, c.s[:size], api.ErrShort)
			if checkRead(t, c.s[:size]) {
				t.Errorf("%s: %d bytes are a report's", c.name, size)
			}
		}
	}
}

// P15.1: bytes that are too many.
func TestReadOfBytesThatAreTooMany(t *testing.T) {
	for _, c := range examples() {
		for _, more := range []string{"\x00", "\x01", "\xff", "\x00\x00", "\x00\x01\x00", "\x00\x03\x01\x87\x00", c.s, strings.Repeat("\x00", 70000)} {
			checkFault(t, c.s+more, api.ErrForm)
		}
	}
}

// P15.1: a first byte that is neither 1 nor 0; where bytes are missing, too, that comes first.
func TestReadOfFirstBytes(t *testing.T) {
	for _, c := range examples() {
		for first := 2; first < 256; first++ {
			s := string([]byte{byte(first)}) + c.s[1:]
			checkFault(t, s, api.ErrForm)
			checkFault(t, s+"\x00", api.ErrForm)
			for size := 1; size < len(s); size += 1 + len(s)/40 {
				checkFault(t, s[:size], api.ErrShort)
			}
			checkFault(t, s[:len(s)-1], api.ErrShort)
		}
	}
}

// P15.1: other texts than keys that rise, each once; where bytes are missing behind them, too, that comes first.
func TestReadOfWrongKeys(t *testing.T) {
	a, b, c := "\x01\x04\x00", "\x01\x0c\x01\x0d\x00", "\x02\x04\x05\x00"
	wrong := [][]string{
		{a, a}, {b, a}, {a, c, b}, {b, a, c}, {c, b, a}, {a, a, b}, {a, b, b}, {a, b, a}, {c, c, c},
	}
	for _, text := range noKeys() {
		wrong = append(wrong, []string{text}, []string{text, a}, []string{a, text}, []string{a, text, c}, []string{a, b, text}, []string{text, text})
	}
	for _, keys := range wrong {
		for first := range byte(3) {
			s := raw(first, len(keys), keys...)
			checkFault(t, s, api.ErrForm)
			checkFault(t, s+"\x00", api.ErrForm)
			for size := 0; size < len(s); size += 1 + len(s)/100 {
				checkFault(t, s[:size], api.ErrShort)
			}
			checkFault(t, raw(first, len(keys)+1, keys...), api.ErrShort)
			checkFault(t, raw(first, 65535, keys...), api.ErrShort)
			checkFault(t, raw(first, len(keys)+1, append(slices.Clone(keys), c)...)[:len(s)+4], api.ErrShort)
		}
	}
}

// Fewer or more keys than there are, and lengths that are not theirs.
func TestReadOfWrongNumbers(t *testing.T) {
	keys := list("\x00", "\x01\x04\x00", "\x01\x05\x00")
	for told := range 65536 {
		want := api.ErrShort
		if told == len(keys) {
			want = api.OK
		} else if told < len(keys) {
			want = api.ErrForm
		}
		if r, e := report.Read(raw(1, told, keys...)); e != want || e != api.OK && !same(r, report.Report{}) {
			t.Fatalf("%d of %d keys: %+v %v", told, len(keys), r, e)
		}
	}
	for size := range 65536 {
		want := api.ErrShort
		if size == 3 {
			want = api.OK
		} else if size < 3 {
			want = api.ErrForm
		}
		s := "\x00\x00\x01" + string([]byte{byte(size >> 8), byte(size)}) + "\x01\x05\x00"
		if r, e := report.Read(s); e != want || e != api.OK && !same(r, report.Report{}) {
			t.Fatalf("a key of %d bytes: %+v %v", size, r, e)
		}
	}
	for _, s := range []string{"\x00\xff\xff", "\x01\xff\xff\xff\xff", "\x02\xff\xff", "\xff", "\xff\xff", "\xff\xff\xff", "\x00\x00\x01\xff\xff" + strings.Repeat("\x00", 65534)} {
		checkFault(t, s, api.ErrShort)
	}
	for _, s := range []string{"\x00\x00\x01\xff\xff" + strings.Repeat("\x00", 65535), "\x01\xff\xff" + strings.Repeat("\x00\x00", 65535), "\x01\xff\xff" + strings.Repeat("\x00\x01\x00", 65535), "\xff\x00\x00"} {
		checkFault(t, s, api.ErrForm)
	}
}

// All bytes of a few letters, up to six of them, behind heads of few keys: so many are a report's, worked out by hand.
func TestReadOfAllBytesOfAFewLetters(t *testing.T) {
	letters := "\x00\x01\x03\x04\x05\xff"
	heads := map[string]int{
		"": 4, "\x00\x00": 4, "\x00\x00\x01": 3, "\x01\x00\x01\x00": 5,
		"\x00\x00\x02": 0, "\x01\x00\x02\x00\x01": 2, "\x00\x00\x02\x00\x01\x00\x00\x03": 2, "\x02\x00\x01": 0, "\x00\x01\x00": 0,
	}
	seen := map[string]int{}
	words := []string{""}
	for range 7 {
		var longer []string
		for _, s := range words {
			for head := range heads {
				if checkRead(t, head+s) {
					seen[head]++
				}
			}
			for i := range len(letters) {
				longer = append(longer, s+letters[i:i+1])
			}
		}
		words = longer
	}
	for head, want := range heads {
		if seen[head] != want {
			t.Errorf("behind %x: %d, not %d", head, seen[head], want)
		}
	}
}

// Each byte changed into each other one, left out, or put in.
func TestReadOfBytesThatAreNearlyReports(t *testing.T) {
	right := 0
	for _, c := range examples() {
		step := 1 + len(c.s)/60*3
		for i := 0; i < len(c.s); i += step {
			for b := range 256 {
				one := string([]byte{byte(b)})
				for _, s := range []string{c.s[:i] + one + c.s[i+1:], c.s[:i] + one + c.s[i:]} {
					if checkRead(t, s) {
						right++
					}
				}
			}
			checkRead(t, c.s[:i]+c.s[i+1:])
		}
	}
	if right < 500 {
		t.Errorf("%d are a report's: too few", right)
	}
}

// Drawn reports, and ones that are spoiled a little, against the words; there and back.
func TestDrawnReports(t *testing.T) {
	r := rand.New(rand.NewSource(17))
	right, wrong, read, refused := 0, 0, 0, 0
	for range 3000 {
		var keys []string
		for range r.Intn(9) {
			keys = append(keys, anyKey(r, 1+r.Intn(6)))
		}
		if r.Intn(30) == 0 {
			keys = append(keys, anyKey(r, 200))
		}
		told := report.Merge(r.Intn(2) == 0, keys)
		if !checkReport(t, told) {
			t.Fatalf("%x may not be", told.Keys)
		}
		if checkReport(t, report.Report{Keys: keys, Complete: told.Complete}) {
			right++
		} else {
			wrong++
		}
		s := []byte(report.Print(told))
		for range 1 + r.Intn(3) {
			at := r.Intn(len(s))
			switch r.Intn(3) {
			case 0:
				s[at] = byte(r.Intn(256))
			case 1:
				s[at] ^= 1
			default:
				s = slices.Insert(s, at, byte(r.Intn(7)))
			}
		}
		if checkRead(t, string(s)) {
			read++
		} else {
			refused++
		}
	}
	if right < 300 || wrong < 1000 || read < 50 || refused < 1000 {
		t.Errorf("%d that may be, %d that may not, %d read, %d refused: too few", right, wrong, read, refused)
	}
}

// FuzzRead: any bytes.
func FuzzRead(f *testing.F) {
	for _, c := range examples() {
		f.Add(c.s)
		f.Add(c.s[:len(c.s)/2])
		f.Add(c.s + "\x00")
	}
	f.Fuzz(func(t *testing.T, s string) {
		if len(s) < 1<<16 && checkRead(t, s) {
			r, _ := report.Read(s)
			checkReport(t, r)
			checkFault(t, s[:len(s)-1], api.ErrShort)
			checkFault(t, s+"\x00", api.ErrForm)
		}
	})
}

// FuzzMerge: any bytes as lists: fe ends a list, ff a text.
func FuzzMerge(f *testing.F) {
	f.Add("", true)
	f.Add("\x00\xff\x01\x04\x00\xfe\x00\xff\x01\x05\x00\xfe\xfe", false)
	f.Add("\x01\x0c\x01\x0d\x00\xff\x01\x0d\x01\x0c\x00\xfe\x01\x0c\x01\x0d\x00", true)
	f.Add("b\xff\xffa\xffab\xfea\xff", false)
	f.Fuzz(func(t *testing.T, s string, complete bool) {
		if len(s) > 2000 {
			return
		}
		var lists [][]string
		for _, part := range strings.Split(s, "\xfe") {
			lists = append(lists, strings.Split(part, "\xff"))
		}
		got := checkMerge(t, complete, lists...)
		slices.Reverse(lists)
		if again := report.Merge(complete, lists...); !same(again, got) || report.Print(again) != report.Print(got) {
			t.Fatalf("%x: %x, not %x", lists, again.Keys, got.Keys)
		}
	})
}
