package event_test

import (
	"slices"
	"strings"
	"testing"

	"sinnet/api"
	"sinnet/event"
)

// byteOf: the chapter's sum; of an event that may be.
func byteOf(e api.Event) int {
	sum := e.Thread + 4*e.Kind + 32*e.Obj
	if e.Fail {
		sum += 128
	}
	return sum
}

// printed: rows of events, and the bytes that the chapter gives them.
func printed() map[string][]api.Event {
	return map[string][]api.Event{
		"":         nil,
		"\x04":     {ev(0, api.ELocal, 0)},
		"\x84":     {fails(0)},
		"\x87":     {fails(3)},
		"\x08":     {ev(0, api.ERead, 0)},
		"\x6b":     {ev(3, api.ERead, 3)},
		"\x0c":     {ev(0, api.EWrite, 0)},
		"\x6f":     {ev(3, api.EWrite, 3)},
		"\x10":     {ev(0, api.ELock, 0)},
		"\x33":     {ev(3, api.ELock, 1)},
		"\x14":     {ev(0, api.EUnlock, 0)},
		"\x37":     {ev(3, api.EUnlock, 1)},
		"\x87\x6e": {fails(3), ev(2, api.EWrite, 3)},
		"\x6e\x87": {ev(2, api.EWrite, 3), fails(3)},
		"\x10\x2d\x2a\x14\x11\x11\x86": {
			ev(0, api.ELock, 0), ev(1, api.EWrite, 1), ev(2, api.ERead, 1), ev(0, api.EUnlock, 0),
			ev(1, api.ELock, 0), ev(1, api.ELock, 0), fails(2),
		},
	}
}

// wantEvents reads s, which is these events' bytes.
func wantEvents(t *testing.T, s string, want []api.Event) {
	t.Helper()
	if got, e := event.Read(s); e != api.OK || !slices.Equal(got, want) {
		t.Errorf("Read(%x): %+v %v, not %+v", s, got, e, want)
	}
}

// wantForm reads s, which is no events' bytes.
func wantForm(t *testing.T, s string) {
	t.Helper()
	if got, e := event.Read(s); e != api.ErrForm || len(got) != 0 {
		t.Errorf("Read(%x): %+v %v", s, got, e)
	}
}

func TestPrintAndRead(t *testing.T) {
	for s, list := range printed() {
		if got := event.Print(list); got != s {
			t.Errorf("Print(%+v): %x, not %x", list, got, s)
		}
		wantEvents(t, s, list)
	}
	if s := event.Print([]api.Event{}); s != "" {
		t.Errorf("of an empty list: %x", s)
	}
}

// bytesOfAll: every event that may be, by its byte.
func bytesOfAll() map[byte]api.Event {
	all := map[byte]api.Event{}
	for _, e := range rightEvents() {
		all[byte(byteOf(e))] = e
	}
	return all
}

func TestPrintOfEveryEvent(t *testing.T) {
	for _, e := range rightEvents() {
		if got := event.Print([]api.Event{e}); got != string([]byte{byte(byteOf(e))}) {
			t.Errorf("Print(%+v): %x", e, got)
		}
	}
	if n := len(bytesOfAll()); n != len(rightEvents()) {
		t.Errorf("%d events have %d bytes", len(rightEvents()), n)
	}
}

func TestReadOfEveryByte(t *testing.T) {
	all := bytesOfAll()
	for b := range 256 {
		s := string([]byte{byte(b)})
		if e, ok := all[byte(b)]; ok {
			wantEvents(t, s, []api.Event{e})
		} else {
			wantForm(t, s)
		}
	}
}

func TestReadOfEveryTwoBytes(t *testing.T) {
	all := bytesOfAll()
	for b := range 256 * 256 {
		first, second := byte(b/256), byte(b%256)
		s := string([]byte{first, second})
		a, ok := all[first]
		c, too := all[second]
		if ok && too {
			wantEvents(t, s, []api.Event{a, c})
		} else {
			wantForm(t, s)
		}
	}
}

// Each byte is none's for one reason: no kind, an object too far, or one that fails and may not.
func TestReadOfBytesThatAreNone(t *testing.T) {
	right := event.Print(rightEvents())
	for _, s := range []string{
		"\x00", "\x03", "\x18", "\x1c", "\x1f", // no kind 0, 6, 7
		"\x24", "\x44", "\x64", "\xa4", // a local event of an object
		"\x50", "\x70", "\x54", "\x77", // a mutex 2, 3
		"\x88", "\x8c", "\x90", "\x94", "\xff", // fails, but isn't local
		"\x00\xff", "\xff\x00",
	} {
		wantForm(t, s)
		wantForm(t, s+right)
		wantForm(t, right+s)
		wantForm(t, right+s+right)
		wantForm(t, s+right+s)
	}
}

func TestPrintOfEventsThatMayNotBe(t *testing.T) {
	right := rightEvents()
	for _, e := range wrongEvents() {
		for _, list := range [][]api.Event{
			{e}, {e, e}, {e, ev(0, api.ELocal, 0)}, {ev(0, api.ELocal, 0), e},
			slices.Concat([]api.Event{e}, right), slices.Concat(right, []api.Event{e}), slices.Concat(right, []api.Event{e}, right),
		} {
			if s := event.Print(list); s != "" {
				t.Errorf("Print of %d events with %+v: %x", len(list), e, s)
			}
		}
	}
	may := bytesOfAll()
	for _, e := range oddEvents() {
		want := ""
		if like, ok := may[byte(byteOf(e))]; ok && like == e {
			want = string([]byte{byte(byteOf(e))})
		}
		if s := event.Print([]api.Event{e}); s != want {
			t.Errorf("Print(%+v): %x", e, s)
		}
	}
}

func TestLongRows(t *testing.T) {
	list := slices.Repeat(rightEvents(), 5000)
	s := event.Print(list)
	if s != strings.Repeat(event.Print(rightEvents()), 5000) {
		t.Fatal("Print of a long row")
	}
	got, e := event.Read(s)
	if e != api.OK || !slices.Equal(got, list) {
		t.Fatalf("Read of a long row: %d events, %v", len(got), e)
	}
	wantForm(t, s[:len(s)-1]+"\x00")
	if event.Print(append(list, api.Event{})) != "" {
		t.Error("Print of a long row with a wrong end")
	}
}

func TestReadAnswersNewMemory(t *testing.T) {
	s := event.Print(rightEvents())
	first, _ := event.Read(s)
	for i := range first {
		first[i] = ev(9, 9, 9)
	}
	wantEvents(t, s, rightEvents())
}

// checkRead: what holds of any bytes.
func checkRead(t *testing.T, s string) {
	t.Helper()
	all := bytesOfAll()
	var want []api.Event
	for i := range len(s) {
		e, ok := all[s[i]]
		if !ok {
			wantForm(t, s)
			return
		}
		want = append(want, e)
	}
	wantEvents(t, s, want)
	if got := event.Print(want); got != s {
		t.Errorf("Print(Read(%x)): %x", s, got)
	}
}

func FuzzRead(f *testing.F) {
	for s := range printed() {
		f.Add(s)
	}
	f.Add("\x04\x00")
	f.Fuzz(checkRead)
}
