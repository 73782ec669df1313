package machine

import (
	"slices"

	"sinnet/foata"
	"sinnet/mail"
	"sinnet/race"
	"sinnet/sleep"
)

// everyone is whom to ask a node for: it takes of these those who may there.
const everyone = ^sleep.Set(0)

// readLetter: false, if the worker has none.
func (m *Machine) readLetter(worker, _ int) (Deed, bool) {
	letter, ok := m.letters.Take(worker)
	if !ok {
		return Idle, false
	}
	m.nodes.Mark(letter.Prefix, letter.Set)
	// Whoever has a node as work is its owner, as letters go to owners.
	if m.pushIfLeft(worker, letter.Prefix) {
		m.nodes.Hand(letter.Prefix, worker)
	}
	return Read, true
}

// steal: false, if the worker has work of its own.
func (m *Machine) steal(worker, draw int) (Deed, bool) {
	if m.todo.Len(worker) > 0 {
		return Idle, false
	}
	prefix, ok := m.todo.Steal(worker, modulo(draw, m.Workers()))
	if !ok {
		return Idle, true
	}
	m.nodes.Hand(prefix, worker)
	return Stole, true
}

// goOn: the worker, which has work, goes into somebody at its deepest node.
func (m *Machine) goOn(worker, draw int) (Deed, bool) {
	prefix, _ := m.todo.Pop(worker)
	if !m.somebodyLeft(prefix) {
		return Done, true
	}
	if m.Nodes() >= m.budget {
		m.met = true
		return Over, true
	}
	thread, asleep, _ := m.nodes.Claim(prefix, draw)
	m.pushIfLeft(worker, prefix)
	m.open(worker, prefix+string([]byte{byte(thread)}), asleep, draw)
	return Into, true
}

// open makes a node, with what it asks of those ahead of it, and with one who is to be gone into there.
func (m *Machine) open(worker int, prefix string, asleep sleep.Set, draw int) {
	m.nodes.Make(prefix, asleep, worker)
	behind, row, _ := m.nodes.At(prefix)
	for _, r := range race.Races(behind, row) {
		m.ask(worker, prefix[:r.At])
	}
	if awake := slices.DeleteFunc(behind.All(), asleep.Has); len(awake) > 0 {
		m.nodes.Mark(prefix, sleep.Of(awake[modulo(draw, len(awake))]))
		m.todo.Push(worker, prefix)
	} else if sleep.Blocked(behind, asleep) {
		m.blocked++
	} else {
		m.keys[worker] = append(m.keys[worker], foata.Key(row))
	}
}

// ask: a worker wants all who may at a node to be gone into there, which is done, or told to its owner.
func (m *Machine) ask(worker int, prefix string) {
	if owner := m.nodes.Owner(prefix); owner != worker {
		m.letters.Send(owner, mail.Letter{Prefix: prefix, Set: everyone})
		return
	}
	m.nodes.Mark(prefix, everyone)
	m.pushIfLeft(worker, prefix)
}

// pushIfLeft: a node is work of that worker, if somebody is left there, and nobody has it.
func (m *Machine) pushIfLeft(worker int, prefix string) bool {
	return m.somebodyLeft(prefix) && m.todo.Push(worker, prefix)
}

// somebodyLeft: is somebody left at a node?
func (m *Machine) somebodyLeft(prefix string) bool {
	return len(m.nodes.Left(prefix)) > 0
}

// modulo: which one of so many a draw means, as 64 bits without a sign.
func modulo(draw, many int) int {
	return int(uint64(draw) % uint64(many))
}
