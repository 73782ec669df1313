package state

import "sinnet/api"

// Step: it does it.
func (s *State) Step(thread int) (api.Event, api.Errno) {
	if s == nil {
		return api.Event{}, api.ErrNil
	}
	if !below(thread, s.threads) {
		return api.Event{}, api.ErrRange
	}
	in, ok := s.instr(thread)
	if !ok {
		return api.Event{}, api.ErrNone
	}
	next := s.event(thread, in)
	if !s.may(next) {
		return api.Event{}, api.ErrState
	}
	s.do(thread, in)
	return next, api.OK
}

// Replay: threads' steps, one behind the other.
func Replay(p api.Prog, fuel int, row []int) (*State, []api.Event, api.Errno) {
	s, e := New(p, fuel)
	if e != api.OK {
		return nil, nil, e
	}
	var events []api.Event
	for _, thread := range row {
		next, e := s.Step(thread)
		if e != api.OK {
			return nil, nil, e
		}
		events = append(events, next)
	}
	return s, events, api.OK
}

// do: a thread does its next instruction, which it may.
func (s *State) do(thread int, in api.Instr) {
	t := &s.each[thread]
	t.fuel--
	// On to the next one ahead of the deed, so that a jump has the last word.
	t.at++
	deed := deeds()[in.Kind]
	deed(s, thread, in)
}

// deeds: how an instruction is done, by its Kind. New takes no other kinds than these.
func deeds() [api.OAssert + 1]func(*State, int, api.Instr) {
	return [...]func(*State, int, api.Instr){
		api.OLoad:   (*State).load,
		api.OStore:  (*State).store,
		api.OSet:    (*State).set,
		api.OAdd:    (*State).add,
		api.OLock:   (*State).lock,
		api.OUnlock: (*State).unlock,
		api.OJump:   (*State).jump,
		api.OAssert: (*State).assert,
	}
}

func (s *State) load(thread int, in api.Instr) {
	s.each[thread].regs[in.R] = s.values[in.X]
}

func (s *State) store(thread int, in api.Instr) {
	s.values[in.X] = s.each[thread].regs[in.R]
}

func (s *State) set(thread int, in api.Instr) {
	s.each[thread].regs[in.R] = in.N
}

func (s *State) add(thread int, in api.Instr) {
	s.each[thread].regs[in.R] += in.N
}

func (s *State) lock(thread int, in api.Instr) {
	s.holders[in.X] = thread
}

// unlock leaves a mutex that is another one's, or free: that fails, and does no more.
func (s *State) unlock(thread int, in api.Instr) {
	if s.holders[in.X] == thread {
		s.holders[in.X] = nobody
	}
}

func (s *State) jump(thread int, in api.Instr) {
	if t := &s.each[thread]; t.regs[in.R] != 0 {
		t.at = in.X
	}
}

// assert has nothing to do: whether it fails, its event tells.
func (s *State) assert(int, api.Instr) {}
