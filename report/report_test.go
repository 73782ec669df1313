package report_test

import (
	"math/rand"
	"slices"
	"strings"
	"testing"

	"sinnet/api"
	"sinnet/report"
)

// example is a report and its bytes, worked out by hand.
type example struct {
	name string
	r    report.Report
	s    string
}

func examples() []example {
	complete := func(keys ...string) report.Report { return report.Report{Keys: keys, Complete: true} }
	cutOff := func(keys ...string) report.Report { return report.Report{Keys: keys} }
	locals := func(many int) string { return strings.Repeat("\x01\x04", many) }
	return []example{
		{"no keys, Complete", complete(), "\x01\x00\x00"},
		{"no keys", cutOff(), "\x00\x00\x00"},
		{"an empty list, Complete", complete([]string{}...), "\x01\x00\x00"},
		{"the empty row's", complete("\x00"), "\x01\x00\x01\x00\x01\x00"},
		{"the empty row's, cut off", cutOff("\x00"), "\x00\x00\x01\x00\x01\x00"},
		{"one write", complete("\x01\x0c\x00"), "\x01\x00\x01\x00\x03\x01\x0c\x00"},
		{"two local ones, at once", cutOff("\x02\x04\x05\x00"), "\x00\x00\x01\x00\x04\x02\x04\x05\x00"},
		{"two that write one variable", complete("\x01\x0c\x01\x0d\x00", "\x01\x0d\x01\x0c\x00"), "\x01\x00\x02\x00\x05\x01\x0c\x01\x0d\x00\x00\x05\x01\x0d\x01\x0c\x00"},
		{"of unlike lengths", cutOff("\x00", "\x01\x04\x00", "\x01\x04\x01\x04\x00", "\x01\x05\x00", "\x02\x04\x05\x00"),
			"\x00\x00\x05\x00\x01\x00\x00\x03\x01\x04\x00\x00\x05\x01\x04\x01\x04\x00\x00\x03\x01\x05\x00\x00\x04\x02\x04\x05\x00"},
		{"bytes of 128 and more", complete("\x01\x6f\x00", "\x01\x84\x00", "\x01\x87\x00", "\x04\x6c\x31\x2e\x0b\x00"),
			"\x01\x00\x04\x00\x03\x01\x6f\x00\x00\x03\x01\x84\x00\x00\x03\x01\x87\x00\x00\x06\x04\x6c\x31\x2e\x0b\x00"},
		{"a key of 255 bytes", complete(locals(127) + "\x00"), "\x01\x00\x01\x00\xff" + locals(127) + "\x00"},
		{"a key of 256 bytes", complete("\x02\x04\x05" + locals(126) + "\x00"), "\x01\x00\x01\x01\x00\x02\x04\x05" + locals(126) + "\x00"},
		{"a key of 257 bytes", cutOff(locals(128) + "\x00"), "\x00\x00\x01\x01\x01" + locals(128) + "\x00"},
		{"the longest key", complete(locals(200) + "\x00"), "\x01\x00\x01\x01\x91" + locals(200) + "\x00"},
		{"long ones", cutOff(locals(150)+"\x00", locals(199)+"\x01\x84\x00", locals(3)+"\x01\x08\x00"),
			"\x00\x00\x03\x01\x2d" + locals(150) + "\x00\x01\x91" + locals(199) + "\x01\x84\x00\x00\x09" + locals(3) + "\x01\x08\x00"},
	}
}

// noKeys: texts that are no row's Key, worked out by hand.
func noKeys() []string {
	locals := strings.Repeat("\x01\x04", 200)
	return []string{
		"", "\x01", "\x04", "\x01\x04", "\x02\x04\x05", "\x00\x00", "\x00\x01\x04\x00", "\x01\x04\x00\x00", // cut off, or more than there is
		"\x02\x05\x04\x00", "\x02\x04\x04\x00", "\x02\x0c\x0d\x00", "\x02\x08\x0d\x00", // two that stand the wrong way, or depend
		"\x01\x04\x01\x05\x00", "\x01\x0c\x02\x0d\x2e\x00", // one that would be of a level ahead
		"\x01\x00\x00", "\x01\x03\x00", "\x01\x88\x00", "\x02\x04\x19\x00", "\x01\x50\x00", // none that may be
		"\x02\x04\x00", "\x03\x04\x05\x00", "\xff\x04\x05\x00", // more than there are
		"a", "key", "\xff", "\xef\xbf\xbd", "0", " ",
		locals, locals + "\x01\x04\x00", locals[:398] + "\x03\x04\x05\x06\x00", locals + "\x00\x00", strings.Repeat("\x01\x04", 1000) + "\x00", // too long
	}
}

// many: so many keys of rows of five events, rising, of two each written alike but for one event; the first one from that number on.
func many(from, n int) []string {
	events := []byte("\x04\x08\x0c\x10\x14\x28\x2c\x30\x34\x48\x4c\x68\x6c\x84") // all of the thread 0
	var keys []string
	for number := from; number < from+n; number++ {
		key := []byte("\x01\x00\x01\x00\x01\x00\x01\x00\x01\x00\x00")
		for at, left := 9, number; at > 0; at -= 2 {
			key[at] = events[left%len(events)]
			left /= len(events)
		}
		keys = append(keys, string(key))
	}
	return keys
}

// P15.1: bytes worked out by hand, there and back.
func TestBytesByExamples(t *testing.T) {
	for _, c := range examples() {
		if !report.Right(c.r) {
			t.Errorf("%s: not Right", c.name)
		}
		if s := report.Print(c.r); s != c.s {
			t.Errorf("%s: Print: %x, not %x", c.name, s, c.s)
		}
		if r, e := report.Read(c.s); e != api.OK || !same(r, c.r) {
			t.Errorf("%s: Read: %+v %v", c.name, r, e)
		}
		if !checkReport(t, c.r) || !checkRead(t, c.s) {
			t.Errorf("%s: the words say otherwise", c.name)
		}
	}
}

// The highest byte comes first, of how many keys there are, too.
func TestManyKeys(t *testing.T) {
	for _, c := range []struct {
		n    int
		head string
	}{
		{1, "\x00\x01"}, {2, "\x00\x02"}, {127, "\x00\x7f"}, {128, "\x00\x80"}, {255, "\x00\xff"}, {256, "\x01\x00"}, {257, "\x01\x01"},
		{513, "\x02\x01"}, {4096, "\x10\x00"}, {32767, "\x7f\xff"}, {32768, "\x80\x00"}, {65534, "\xff\xfe"}, {65535, "\xff\xff"},
	} {
		keys := many(7, c.n)
		rest := "\x00\x0b" + strings.Join(keys, "\x00\x0b")
		for first, complete := range []bool{false, true} {
			r := report.Report{Keys: keys, Complete: complete}
			s := string([]byte{byte(first)}) + c.head + rest
			if report.Print(r) != s || !report.Right(r) || !checkRead(t, s) {
				t.Fatalf("%d keys: other bytes", c.n)
			}
			checkFault(t, s[:len(s)-1], api.ErrShort)
			checkFault(t, s+"\x00", api.ErrForm)
		}
	}
}

// P15.1: one key above 65535 is one too many; nothing is cut off.
func TestTooManyKeys(t *testing.T) {
	for _, n := range []int{65536, 65537, 65536 + 255, 131072, 200000} {
		keys := many(0, n)
		for _, complete := range []bool{false, true} {
			got := report.Merge(complete, keys)
			if !same(got, report.Report{Keys: keys, Complete: complete}) {
				t.Errorf("Merge of %d keys: %d", n, len(got.Keys))
			}
			checkWrong(t, got)
		}
		got := report.Merge(true, keys[:65535], keys[:1], keys[65000:65535])
		if len(got.Keys) != 65535 || !report.Right(got) {
			t.Errorf("%d keys, %v", len(got.Keys), report.Right(got))
		}
		// As many bytes as that, of fewer keys than there are.
		checkFault(t, raw(1, n, keys...), api.ErrForm)
	}
}

// P15.1: keys that don't rise, and keys that stand twice, wherever.
func TestKeysThatDoNotRise(t *testing.T) {
	keys := many(100, 12)
	for _, complete := range []bool{false, true} {
		for i := range keys {
			for k := range keys {
				list := slices.Clone(keys)
				list[i] = keys[k]
				if right := checkReport(t, report.Report{Keys: list, Complete: complete}); right != (i == k) {
					t.Errorf("the key %d at %d: %v", k, i, right)
				}
				list = slices.Clone(keys)
				list[i], list[k] = keys[k], keys[i]
				if right := checkReport(t, report.Report{Keys: list, Complete: complete}); right != (i == k) {
					t.Errorf("the keys %d and %d: %v", i, k, right)
				}
			}
			checkWrong(t, report.Report{Keys: slices.Insert(slices.Clone(keys), i, keys[i]), Complete: complete})
		}
		falling := slices.Clone(keys)
		slices.Reverse(falling)
		checkWrong(t, report.Report{Keys: falling, Complete: complete})
	}
}

// P15.1: the longer one of two that are alike up to there comes behind, and bytes have no sign.
func TestRising(t *testing.T) {
	rises := []string{"\x00", "\x01\x04\x00", "\x01\x04\x01\x04\x00", "\x01\x04\x01\x84\x00", "\x01\x05\x00", "\x01\x6c\x00", "\x01\x84\x00", "\x01\x87\x00", "\x02\x04\x05\x00", "\x02\x04\x06\x00", "\x03\x04\x05\x06\x00", "\x04\x84\x85\x86\x87\x00"}
	for i, one := range rises {
		for k, other := range rises {
			if right := report.Right(report.Report{Keys: []string{one, other}}); right != (i < k) {
				t.Errorf("%x, %x: %v", one, other, right)
			}
		}
	}
	checkReport(t, report.Report{Keys: rises})
}

// P15.1: a text that is no row's Key, at each place, where it would rise and where it wouldn't.
func TestTextsThatAreNoKeys(t *testing.T) {
	keys := []string{"\x01\x04\x00", "\x01\x0c\x01\x0d\x00", "\x02\x04\x05\x00"}
	for _, wrong := range noKeys() {
		for _, complete := range []bool{false, true} {
			checkWrong(t, report.Report{Keys: []string{wrong}, Complete: complete})
			for at := range len(keys) + 1 {
				checkWrong(t, report.Report{Keys: slices.Insert(slices.Clone(keys), at, wrong), Complete: complete})
			}
			// Merge tells them all the same, where they rise.
			got := checkMerge(t, complete, keys, []string{wrong})
			if !slices.Contains(got.Keys, wrong) || len(got.Keys) != 4 {
				t.Errorf("Merge with %x: %x", wrong, got.Keys)
			}
			checkWrong(t, got)
		}
	}
	all := checkMerge(t, true, noKeys(), keys, noKeys())
	if len(all.Keys) != len(noKeys())+len(keys) {
		t.Errorf("%d texts", len(all.Keys))
	}
	checkWrong(t, all)
}

// Each text that a byte is changed of, or that is cut off, against the words.
func TestTextsThatAreNearlyKeys(t *testing.T) {
	right := 0
	for _, c := range examples() {
		for _, key := range c.r.Keys {
			if len(key) > 10 {
				continue
			}
			for i := range len(key) {
				checkWrong(t, report.Report{Keys: []string{key[:i]}})
				for b := range 256 {
					if checkReport(t, report.Report{Keys: []string{key[:i] + string([]byte{byte(b)}) + key[i+1:]}}) {
						right++
					}
				}
			}
			checkWrong(t, report.Report{Keys: []string{key + "\x00"}})
			checkWrong(t, report.Report{Keys: []string{key + key}})
		}
	}
	if right < 500 {
		t.Errorf("%d that may be: too few", right)
	}
}

// anyKey: the Key of a drawn row, of few events, so that they meet often.
func anyKey(r *rand.Rand, longest int) string {
	of := eventBytes()
	if r.Intn(4) > 0 {
		of = []byte("\x04\x05\x0c\x0d\x0e\x08\x2e\x84")
	}
	row := make([]byte, r.Intn(longest+1))
	for i := range row {
		row[i] = of[r.Intn(len(of))]
	}
	return keyOf(row)
}
