package driver_test

import (
	"slices"
	"testing"

	"sinnet/api"
	"sinnet/driver"
	"sinnet/foata"
	"sinnet/machine"
	"sinnet/report"
	"sinnet/state"
	"sinnet/walk"
)

// setup is what a machine is made of.
type setup struct {
	p                     api.Prog
	fuel, workers, budget int
}

func (s setup) begin() (*machine.Machine, api.Errno) {
	return machine.New(s.p, s.fuel, s.workers, s.budget)
}

func (s setup) play(picks []driver.Pick) (report.Report, api.Errno) {
	return driver.Play(s.p, s.fuel, s.workers, s.budget, picks)
}

func (s setup) drive() (report.Report, []driver.Pick, api.Errno) {
	return driver.Drive(s.p, s.fuel, s.workers, s.budget)
}

// keysOf: all workers' keys, rising, each once.
func keysOf(m *machine.Machine) []string {
	found := map[string]bool{}
	var keys []string
	for worker := range m.Workers() {
		for _, key := range m.Keys(worker) {
			if !found[key] {
				found[key] = true
				keys = append(keys, key)
			}
		}
	}
	slices.Sort(keys)
	return keys
}

// spell: layer 15's words again: a report's bytes.
func spell(keys []string, complete bool) string {
	out := []byte{0, byte(len(keys) / 256), byte(len(keys) % 256)}
	if complete {
		out[0] = 1
	}
	for _, key := range keys {
		out = append(out, byte(len(key)/256), byte(len(key)%256))
		out = append(out, key...)
	}
	return string(out)
}

// checkReport: it is what that machine found, byte by byte.
func checkReport(t testing.TB, name string, got report.Report, m *machine.Machine) {
	t.Helper()
	keys := keysOf(m)
	if !slices.Equal(got.Keys, keys) || got.Complete != m.Complete() || got.Complete != (m.Complete() && m.Halted()) {
		t.Fatalf("%s: Complete %v, keys %x, not %v, %x", name, got.Complete, got.Keys, m.Complete(), keys)
	}
	if len(keys) <= 65535 && report.Print(got) != spell(keys, m.Complete()) {
		t.Fatalf("%s: %x is not %x", name, report.Print(got), spell(keys, m.Complete()))
	}
}

// checkRefused: that error, and nothing beside it.
func (s setup) checkRefused(t testing.TB, name string, picks []driver.Pick, want api.Errno) {
	t.Helper()
	if got, e := s.play(picks); e != want || len(got.Keys) != 0 || got.Complete {
		t.Errorf("%s: Play: %+v %v, not %v", name, got, e, want)
	}
	if got, steps, e := s.drive(); e != want || len(got.Keys) != 0 || got.Complete || len(steps) != 0 {
		t.Errorf("%s: Drive: %+v %v %v, not %v", name, got, steps, e, want)
	}
}

// checkPlay: P16.1: the report is a machine's that did these steps. It answers that one, if there is one.
func (s setup) checkPlay(t testing.TB, name string, picks []driver.Pick) (report.Report, *machine.Machine) {
	t.Helper()
	m, e := s.begin()
	if e != api.OK {
		s.checkRefused(t, name, picks, e)
		return report.Report{}, nil
	}
	for _, pick := range picks {
		m.Step(pick.Worker, pick.Draw)
	}
	got, e := s.play(picks)
	if e != api.OK {
		t.Fatalf("%s: Play: %v", name, e)
	}
	checkReport(t, name, got, m)
	return got, m
}

// checkDrive: P16.2: what is told is right, be it an error.
func (s setup) checkDrive(t testing.TB, name string) (report.Report, []driver.Pick) {
	t.Helper()
	if _, e := s.begin(); e != api.OK {
		s.checkRefused(t, name, nil, e)
		return report.Report{}, nil
	}
	got, picks, e := s.drive()
	if e != api.OK {
		t.Fatalf("%s: Drive: %v", name, e)
	}
	s.checkSteps(t, name, got, picks)
	return got, picks
}

// checkSteps: P16.2: of the steps none is Idle, behind them, and not ahead, the machine is halted, and they lead to that report, of Play, too.
func (s setup) checkSteps(t testing.TB, name string, got report.Report, picks []driver.Pick) {
	t.Helper()
	m, _ := s.begin()
	for i, pick := range picks {
		if m.Halted() {
			t.Fatalf("%s: halted behind %d of %d steps", name, i, len(picks))
		}
		if pick.Worker < 0 || pick.Worker >= s.workers {
			t.Fatalf("%s: step %d: there is no worker %d", name, i, pick.Worker)
		}
		if m.Step(pick.Worker, pick.Draw) == machine.Idle {
			t.Fatalf("%s: step %d: %+v is Idle", name, i, pick)
		}
	}
	if !m.Halted() {
		t.Fatalf("%s: not halted behind all %d steps", name, len(picks))
	}
	checkReport(t, name, got, m)
	again, e := s.play(picks)
	if e != api.OK || !slices.Equal(again.Keys, got.Keys) || again.Complete != got.Complete || report.Print(again) != report.Print(got) {
		t.Fatalf("%s: Play: %+v %v, not %+v", name, again, e, got)
	}
}

// checkAll: P16.3: all classes, and it says so.
func checkAll(t testing.TB, name string, got report.Report, sum walk.Sum) {
	t.Helper()
	if !got.Complete || !slices.Equal(got.Keys, sum.Keys) {
		t.Fatalf("%s: Complete %v, keys %x, not %x", name, got.Complete, got.Keys, sum.Keys)
	}
}

// checkSome: each key is a class, and it is Complete just if none is missing.
func checkSome(t testing.TB, name string, got report.Report, sum walk.Sum) {
	t.Helper()
	for i, key := range got.Keys {
		if _, ok := slices.BinarySearch(sum.Keys, key); !ok || i > 0 && got.Keys[i-1] >= key {
			t.Fatalf("%s: %x is no class, or out of order", name, key)
		}
	}
	if got.Complete && len(got.Keys) != len(sum.Keys) {
		t.Fatalf("%s: Complete, with %d of %d classes", name, len(got.Keys), len(sum.Keys))
	}
}

// isClass: is there an execution with that key? Its levels, one behind the other, are one.
func isClass(p api.Prog, fuel int, key string) bool {
	levels, e := foata.Read(key)
	if e != api.OK {
		return false
	}
	var threads []int
	for _, ev := range foata.Row(levels) {
		threads = append(threads, ev.Thread)
	}
	end, row, e := state.Replay(p, fuel, threads)
	return e == api.OK && len(end.All()) == 0 && foata.Key(row) == key
}
