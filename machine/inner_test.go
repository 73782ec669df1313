package machine

import (
	"slices"
	"testing"

	"sinnet/api"
	"sinnet/mail"
)

// begun: two threads that write one variable, behind so many steps of the worker 0.
func begun(t *testing.T, workers, budget, steps int) *Machine {
	t.Helper()
	write := []api.Instr{{Kind: api.OStore}}
	m, e := New(api.Prog{Vars: 1, Threads: [][]api.Instr{write, write}}, 8, workers, budget)
	if e != api.OK {
		t.Fatal(e)
	}
	for range steps {
		m.Step(0, 0)
	}
	return m
}

// told is all that a machine tells.
func told(m *Machine) []int {
	list := []int{m.Nodes(), m.Claims(), m.Blocked(), m.todo.Total(), m.letters.Total()}
	for worker := range m.Workers() {
		list = append(list, len(m.Keys(worker)))
	}
	return list
}

// P14.2: nobody is left where a prefix is popped: Done, also where the budget would be met. No steps bring a machine there, so it is laid there by hand.
func TestDoneByHand(t *testing.T) {
	for _, prefix := range []string{"", "\x00", "\x00\x01", "\x01", "\x01\x00"} {
		for _, budget := range []int{5, 6, 100} {
			m := begun(t, 2, budget, 4)
			want := told(m)
			if !m.Halted() || !m.todo.Push(1, prefix) || m.Halted() || m.Complete() {
				t.Fatalf("%q was not laid there", prefix)
			}
			if got := m.Step(1, 7); got != Done {
				t.Errorf("%q, budget %d: %v", prefix, budget, got)
			}
			if !m.Complete() || !slices.Equal(told(m), want) || m.todo.Has(prefix) {
				t.Errorf("%q, budget %d: %v, not %v, Complete %v", prefix, budget, told(m), want, m.Complete())
			}
		}
	}
}

// P14.2: a letter's node is handed to its reader just if it becomes its work. By steps alone it is the reader's already.
func TestReadHandsByHand(t *testing.T) {
	m := begun(t, 3, 100, 0)
	prefix, _ := m.todo.Pop(0)
	m.letters.Send(2, mail.Letter{Prefix: prefix, Set: everyone})
	if got := m.Step(2, 0); got != Read || m.nodes.Owner("") != 2 || m.todo.Len(2) != 1 {
		t.Errorf("%v, of %d, who has %d", got, m.nodes.Owner(""), m.todo.Len(2))
	}
	m.letters.Send(1, mail.Letter{Prefix: prefix, Set: everyone})
	if got := m.Step(1, 0); got != Read || m.nodes.Owner("") != 2 || m.todo.Len(1) != 0 {
		t.Errorf("%v, of %d, though 2 has it; 1 has %d", got, m.nodes.Owner(""), m.todo.Len(1))
	}
	m = begun(t, 2, 100, 4)
	m.letters.Send(1, mail.Letter{Prefix: "", Set: everyone})
	if got := m.Step(1, 0); got != Read || m.nodes.Owner("") != 0 || !m.Complete() {
		t.Errorf("%v, of %d, though nobody is left there", got, m.nodes.Owner(""))
	}
}

// P14.2: the first letter first.
func TestLettersInOrder(t *testing.T) {
	m := begun(t, 2, 100, 1)
	for range m.todo.Total() {
		m.todo.Pop(0)
	}
	m.letters.Send(1, mail.Letter{Prefix: "", Set: everyone})
	m.letters.Send(1, mail.Letter{Prefix: "\x00", Set: everyone})
	for _, prefix := range []string{"", "\x00"} {
		if got := m.Step(1, 0); got != Read || !m.todo.Has(prefix) {
			t.Errorf("%v, and nobody has %q", got, prefix)
		}
	}
	if m.letters.Total() != 0 || m.todo.Len(1) != 2 {
		t.Errorf("%d letters, 1 has %d", m.letters.Total(), m.todo.Len(1))
	}
}
