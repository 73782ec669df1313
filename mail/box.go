package mail

// box is a worker's letters: a chain, and not a slice, as a slice would keep the room of those that are gone.
type box struct {
	first, last *link // nil, if there is none
	count       int
}

// link is a letter, and the one behind it.
type link struct {
	letter Letter
	next   *link
}

// put: it is the last one.
func (x *box) put(l Letter) {
	one := &link{letter: l}
	if x.first == nil {
		x.first = one
	} else {
		x.last.next = one
	}
	x.last = one
	x.count++
}

// take: the first one of a box that has one; it is gone then.
func (x *box) take() Letter {
	one := x.first
	x.first = one.next
	if x.first == nil {
		x.last = nil // or it would be kept
	}
	x.count--
	return one.letter
}
