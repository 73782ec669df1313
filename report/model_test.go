package report_test

import (
	"encoding/binary"
	"slices"
	"testing"

	"sinnet/api"
	"sinnet/report"
)

// step is an event, taken apart.
type step struct {
	thread, kind, obj int
	fail              bool
}

// steps: of each byte that an event has, which one it is, by layer 3's words.
var steps = func() map[byte]step {
	all := map[byte]step{}
	for thread := range 4 {
		all[byte(thread+4*api.ELocal)] = step{thread, api.ELocal, 0, false}
		all[byte(thread+4*api.ELocal+128)] = step{thread, api.ELocal, 0, true}
		for x := range 4 {
			all[byte(thread+4*api.ERead+32*x)] = step{thread, api.ERead, x, false}
			all[byte(thread+4*api.EWrite+32*x)] = step{thread, api.EWrite, x, false}
		}
		for m := range 2 {
			all[byte(thread+4*api.ELock+32*m)] = step{thread, api.ELock, m, false}
			all[byte(thread+4*api.EUnlock+32*m)] = step{thread, api.EUnlock, m, false}
		}
	}
	return all
}()

// eventBytes: all bytes that an event has, rising.
func eventBytes() []byte {
	var list []byte
	for b := range 256 {
		if _, ok := steps[byte(b)]; ok {
			list = append(list, byte(b))
		}
	}
	return list
}

// depends is layer 3's words again.
func depends(a, b step) bool {
	variables := (a.kind == api.ERead || a.kind == api.EWrite) && (b.kind == api.ERead || b.kind == api.EWrite)
	mutexes := (a.kind == api.ELock || a.kind == api.EUnlock) && (b.kind == api.ELock || b.kind == api.EUnlock)
	switch {
	case a.thread == b.thread:
		return true
	case variables && a.obj == b.obj:
		return a.kind == api.EWrite || b.kind == api.EWrite
	}
	return mutexes && a.obj == b.obj
}

// keyOf is layer 5's words again, of a row of events' bytes that may be.
func keyOf(row []byte) string {
	level := make([]int, len(row))
	count := 0
	for k := range row {
		for i := range k {
			if depends(steps[row[i]], steps[row[k]]) {
				level[k] = max(level[k], level[i]+1)
			}
		}
		count = max(count, level[k]+1)
	}
	var key []byte
	for at := range count {
		var list []byte
		for thread := range 4 {
			for i, b := range row {
				if level[i] == at && steps[b].thread == thread {
					list = append(list, b)
				}
			}
		}
		key = append(append(key, byte(len(list))), list...)
	}
	return string(append(key, 0))
}

// isKey: are they the bytes of some row's levels, by layer 5's words? In a row's levels none depends on one of its own level, and each one on one of the level ahead.
func isKey(s string) bool {
	var levels [][]step
	at, all := 0, 0
	for at < len(s) && s[at] != 0 {
		end := at + 1 + int(s[at])
		if end > len(s) {
			return false
		}
		var level []step
		for _, b := range []byte(s[at+1 : end]) {
			e, ok := steps[b]
			if !ok {
				return false
			}
			level = append(level, e)
		}
		levels = append(levels, level)
		all += len(level)
		at = end
	}
	if at != len(s)-1 || all > 200 {
		return false
	}
	for k, level := range levels {
		for i, e := range level {
			on := func(ahead step) bool { return depends(ahead, e) }
			if i > 0 && level[i-1].thread >= e.thread || slices.ContainsFunc(level[:i], on) || k > 0 && !slices.ContainsFunc(levels[k-1], on) {
				return false
			}
		}
	}
	return true
}

// less: does a stand ahead of b, byte by byte?
func less(a, b string) bool {
	for i := range min(len(a), len(b)) {
		if int(a[i]) != int(b[i]) {
			return int(a[i]) < int(b[i])
		}
	}
	return len(a) < len(b)
}

// mayBe is the chapter's words again.
func mayBe(r report.Report) bool {
	for i, key := range r.Keys {
		if !isKey(key) || i > 0 && !less(r.Keys[i-1], key) {
			return false
		}
	}
	return len(r.Keys) <= 65535
}

// raw: the chapter's bytes, of any first byte and of any texts, as many as are told or not.
func raw(first byte, told int, texts ...string) string {
	out := binary.BigEndian.AppendUint16([]byte{first}, uint16(told))
	for _, text := range texts {
		out = append(binary.BigEndian.AppendUint16(out, uint16(len(text))), text...)
	}
	return string(out)
}

// bytesOf: the chapter's words; empty, if it may not be.
func bytesOf(r report.Report) string {
	first := byte(0)
	if r.Complete {
		first = 1
	}
	if !mayBe(r) {
		return ""
	}
	return raw(first, len(r.Keys), r.Keys...)
}

// end: where a report's bytes end that begin so; behind all that there is, if bytes are missing.
func end(s string) int {
	if len(s) < 3 {
		return 3
	}
	at := 3
	for range binary.BigEndian.Uint16([]byte(s[1:3])) {
		if at+2 > len(s) {
			return at + 2
		}
		at += 2 + int(binary.BigEndian.Uint16([]byte(s[at:at+2])))
	}
	return at
}

// reading is what Read should tell of these bytes.
func reading(s string) (report.Report, api.Errno) {
	last := end(s)
	if last > len(s) {
		return report.Report{}, api.ErrShort
	}
	r := report.Report{Complete: s[0] == 1}
	for at := 3; at < last; {
		size := int(binary.BigEndian.Uint16([]byte(s[at : at+2])))
		r.Keys = append(r.Keys, s[at+2:at+2+size])
		at += 2 + size
		if !mayBe(report.Report{Keys: r.Keys[max(0, len(r.Keys)-2):]}) {
			return report.Report{}, api.ErrForm
		}
	}
	if s[0] > 1 || last < len(s) {
		return report.Report{}, api.ErrForm
	}
	return r, api.OK
}

// together: all keys of these lists, rising, each once.
func together(lists ...[]string) []string {
	var all []string
	for _, list := range lists {
		for _, key := range list {
			at := 0
			for at < len(all) && less(all[at], key) {
				at++
			}
			if at == len(all) || all[at] != key {
				all = slices.Insert(all, at, key)
			}
		}
	}
	return all
}

// same: are two reports one?
func same(a, b report.Report) bool {
	return a.Complete == b.Complete && slices.Equal(a.Keys, b.Keys)
}

// checkRead holds Read of any bytes against the chapter's words; it answers whether they are a report's.
func checkRead(t testing.TB, s string) bool {
	t.Helper()
	want, fault := reading(s)
	got, e := report.Read(s)
	if e != fault || !same(got, want) {
		t.Fatalf("Read(%x): %+v %v, not %+v %v", s, got, e, want, fault)
	}
	if e == api.OK && (!report.Right(got) || report.Print(got) != s) {
		t.Fatalf("Read(%x): %+v, which is printed otherwise", s, got)
	}
	return e == api.OK
}

// checkFault: no report's bytes.
func checkFault(t testing.TB, s string, fault api.Errno) {
	t.Helper()
	if got, e := report.Read(s); e != fault || !same(got, report.Report{}) {
		t.Errorf("Read(%x): %+v %v, not %v", s, got, e, fault)
	}
}

// checkWrong: a report that may not be.
func checkWrong(t testing.TB, r report.Report) {
	t.Helper()
	if s := report.Print(r); report.Right(r) || s != "" {
		t.Errorf("%d keys, %x: Right %v, Print %x", len(r.Keys), r.Keys[:min(len(r.Keys), 5)], report.Right(r), s)
	}
}

// checkReport holds all calls of any report against the chapter's words; it answers whether it may be.
func checkReport(t testing.TB, r report.Report) bool {
	t.Helper()
	want := bytesOf(r)
	if want == "" {
		checkWrong(t, r)
		return false
	}
	if !report.Right(r) || report.Print(r) != want {
		t.Fatalf("%x: Right %v, Print %x, not %x", r.Keys, report.Right(r), report.Print(r), want)
	}
	if back, e := report.Read(want); e != api.OK || !same(back, r) {
		t.Fatalf("Read(%x): %+v %v, not %+v", want, back, e, r)
	}
	if again := report.Merge(r.Complete, r.Keys); !same(again, r) {
		t.Fatalf("Merge(%v, %x): %+v", r.Complete, r.Keys, again)
	}
	return true
}

// checkMerge holds Merge of any lists against the chapter's words, and answers it.
func checkMerge(t testing.TB, complete bool, lists ...[]string) report.Report {
	t.Helper()
	want := report.Report{Keys: together(lists...), Complete: complete}
	got := report.Merge(complete, lists...)
	if !same(got, want) {
		t.Fatalf("Merge(%v, %x): %+v, not %x", complete, lists, got, want.Keys)
	}
	checkReport(t, got)
	return got
}
