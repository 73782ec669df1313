package driver

import (
	"sync"

	"sinnet/machine"
)

// crew is what all workers share: while they run, nobody touches it without the mutex.
type crew struct {
	mutex sync.Mutex
	m     *machine.Machine
	picks []Pick // the steps that weren't Idle, in order
}

// run lets all workers step, round by round, till the machine is halted. It answers the steps that weren't Idle.
func run(m *machine.Machine) []Pick {
	c := &crew{m: m}
	for draw := 0; !m.Halted(); draw = (draw + 1) % m.Workers() {
		c.round(m.Workers(), draw)
	}
	return c.picks
}

// round lets each worker have a turn, in whatever order they come. Who has nothing to do waits for the others by the round's end, so that nobody asks again and again.
func (c *crew) round(workers, draw int) {
	var all sync.WaitGroup
	all.Add(workers)
	for worker := range workers {
		go func() {
			defer all.Done()
			c.turn(Pick{worker, draw})
		}()
	}
	all.Wait()
}

// turn: a worker's step; a thief goes on with what it stole in the same turn, as else two could steal one prefix from each other for ever.
func (c *crew) turn(pick Pick) {
	c.mutex.Lock()
	defer c.mutex.Unlock()
	if c.step(pick) == machine.Stole {
		c.step(pick)
	}
}

// step does a step, and keeps it, unless it was Idle.
func (c *crew) step(pick Pick) machine.Deed {
	deed := c.m.Step(pick.Worker, pick.Draw)
	if deed != machine.Idle {
		c.picks = append(c.picks, pick)
	}
	return deed
}
