package mail_test

import (
	"math"
	"runtime"
	"strings"
	"testing"
	"unsafe"

	"sinnet/api"
	"sinnet/mail"
	"sinnet/sleep"
)

// letters: ordinary ones and odd ones, each another one.
func letters() []mail.Letter {
	return []mail.Letter{
		{},
		{Set: 255},
		{Prefix: "\x00"},
		{Prefix: "\x00", Set: 255},
		{Prefix: "\x00", Set: 128},
		{Prefix: "\x00\x01", Set: 1},
		{Prefix: "\x01\x00", Set: 1},
		{Prefix: "\x03\x02\x01\x00", Set: sleep.Of(0, 1, 2, 3)},
		{Prefix: "\x80", Set: 2},
		{Prefix: "\xff", Set: 254},
		{Prefix: "\xff\x80\x00\x7f", Set: 127},
		{Prefix: "\xef\xbf\xbd", Set: 4}, // what bytes that are no rune are read as
		{Prefix: "any text", Set: 240},
		{Prefix: strings.Repeat("\x00\x01\x02\x03", 8), Set: 8},
		{Prefix: strings.Repeat("\xff", 300), Set: 16},
	}
}

// text: a letter whose prefix is of that number.
func text(n int) mail.Letter {
	return mail.Letter{Prefix: string([]byte{byte(n >> 24), byte(n >> 16), byte(n >> 8), byte(n)}), Set: sleep.Set(n * 7)}
}

func TestChapterExample(t *testing.T) {
	b := boxes(t, 2)
	one, two := mail.Letter{Prefix: "\x00", Set: sleep.Of(1)}, mail.Letter{Prefix: "\x01", Set: sleep.Of(0)}
	checkSend(t, b, 1, one, api.OK)
	checkSend(t, b, 1, two, api.OK)
	checkTake(t, b, 1, one, true)
	checkTake(t, b, 0, mail.Letter{}, false)
	checkTake(t, b, 1, two, true)
	checkTake(t, b, 1, mail.Letter{}, false)
}

// P12.1: 1 to 64 workers, each of whom there is.
func TestNewOfEachNumberOfWorkers(t *testing.T) {
	for workers := 1; workers <= 64; workers++ {
		p := begin(t, workers)
		p.checkEmpty(t)
		for worker := range workers {
			p.send(t, worker, text(worker))
		}
		p.drain(t)
	}
}

// P12.1: ErrArg, and no boxes.
func TestNewOfWrongNumbers(t *testing.T) {
	for _, workers := range []int{0, 65, -1, 66, -64, 128, 1 << 8, 1<<8 + 1, 1 << 32, 1<<32 + 1, 1 - 1<<32, math.MinInt, math.MinInt + 1, math.MaxInt} {
		if b, e := mail.New(workers); b != nil || e != api.ErrArg {
			t.Errorf("New(%d): %v %v", workers, b, e)
		}
	}
}

// P12.1: a worker that there is not gets nothing and has nothing, and nothing has changed.
func TestNoSuchWorker(t *testing.T) {
	for workers := 1; workers <= 64; workers++ {
		for _, filled := range []bool{false, true} {
			p := begin(t, workers)
			for n := range 2 * workers {
				if filled {
					p.send(t, n%workers, text(n))
				}
			}
			for _, worker := range noWorkers(workers) {
				for _, l := range []mail.Letter{{}, text(9), {Prefix: "\xff", Set: 255}} {
					checkSend(t, p.b, worker, l, api.ErrRange)
					checkTake(t, p.b, worker, mail.Letter{}, false)
				}
				p.checkLens(t)
			}
			p.drain(t)
		}
	}
}

// P12.1: the last one is behind all others, the first one is taken.
func TestLettersToOneWorkerInOrder(t *testing.T) {
	for _, worker := range []int{0, 3, 63} {
		p := begin(t, 64)
		for _, l := range letters() {
			p.send(t, worker, l)
		}
		for i, want := range letters() {
			checkTake(t, p.b, worker, want, true)
			if got := p.b.Len(worker); got != len(letters())-i-1 {
				t.Fatalf("Len: %d behind %d", got, i+1)
			}
		}
		checkTake(t, p.b, worker, mail.Letter{}, false)
	}
}

// Letters alone: each is what was sent, whatever bytes and threads there are.
func TestEachLetterAlone(t *testing.T) {
	for worker := range 3 {
		b := boxes(t, 3)
		for _, l := range letters() {
			checkSend(t, b, worker, l, api.OK)
			checkTake(t, b, worker, l, true)
			checkTake(t, b, worker, mail.Letter{}, false)
		}
		for set := range 256 {
			for _, prefix := range []string{"", string([]byte{byte(set)})} {
				l := mail.Letter{Prefix: prefix, Set: sleep.Set(set)}
				checkSend(t, b, worker, l, api.OK)
				checkTake(t, b, worker, l, true)
			}
		}
	}
}

// P12.2: letters to several workers in turns, worked out by hand.
func TestLettersInTurns(t *testing.T) {
	b := boxes(t, 4)
	for i, to := range []int{2, 0, 2, 3, 0, 2} {
		checkSend(t, b, to, text(i), api.OK)
	}
	for worker, want := range []int{2, 0, 3, 1} {
		if got := b.Len(worker); got != want {
			t.Errorf("Len(%d): %d, not %d", worker, got, want)
		}
	}
	checkTake(t, b, 0, text(1), true)
	checkTake(t, b, 2, text(0), true)
	checkTake(t, b, 1, mail.Letter{}, false)
	checkSend(t, b, 0, text(6), api.OK)
	checkTake(t, b, 0, text(4), true)
	checkTake(t, b, 2, text(2), true)
	checkTake(t, b, 3, text(3), true)
	checkTake(t, b, 3, mail.Letter{}, false)
	checkTake(t, b, 0, text(6), true)
	checkTake(t, b, 0, mail.Letter{}, false)
	checkTake(t, b, 2, text(5), true)
	checkTake(t, b, 2, mail.Letter{}, false)
	if b.Total() != 0 {
		t.Errorf("Total: %d", b.Total())
	}
}

// P12.2: of each number of workers, each one's letters are its own, in order, whoever takes first.
func TestEachWorkerHasItsOwn(t *testing.T) {
	for _, workers := range []int{1, 2, 3, 7, 63, 64} {
		for _, forth := range []bool{false, true} {
			p := begin(t, workers)
			for round := range 4 {
				for worker := range workers {
					for range (worker + round) % 3 {
						p.send(t, worker, text(len(p.m.row)))
					}
				}
			}
			for n := range workers {
				worker := n
				if !forth {
					worker = workers - 1 - n
				}
				for range p.m.len(worker) + 1 {
					p.take(t, worker)
				}
			}
			p.checkEmpty(t)
		}
	}
}

// The same letter is taken as often as it was sent, to one and to several.
func TestSameLetterMoreOften(t *testing.T) {
	for _, l := range letters() {
		p := begin(t, 3)
		for _, to := range []int{1, 1, 2, 1, 0, 2} {
			p.send(t, to, l)
		}
		p.take(t, 1)
		p.send(t, 1, l)
		p.send(t, 1, text(3))
		p.send(t, 1, l)
		for _, want := range []mail.Letter{l, l, l, text(3), l} {
			checkTake(t, p.b, 1, want, true)
			p.m.take(1)
		}
		p.drain(t)
	}
}

// Boxes that were never filled, and that were emptied and are filled again.
func TestEmptiedAndFilledAgain(t *testing.T) {
	p := begin(t, 3)
	for round := range 6 {
		p.checkEmpty(t)
		for n := range round {
			p.send(t, 1, text(n))
			p.send(t, round%3, text(n+100))
		}
		for p.m.len(1) > 0 {
			p.take(t, 1)
		}
		p.take(t, 1)
		p.send(t, 1, mail.Letter{})
		if l, ok := p.take(t, 1); l != (mail.Letter{}) || !ok {
			t.Fatal("an empty letter, that was there")
		}
		p.drain(t)
	}
}

// Boxes that New did not make have no workers.
func TestBoxesWithoutWorkers(t *testing.T) {
	p := pair{new(mail.Boxes), &model{}}
	p.checkEmpty(t)
	for _, worker := range append(noWorkers(1), 0, 63) {
		p.send(t, worker, text(1))
	}
	p.checkEmpty(t)
}

func TestNilBoxes(t *testing.T) {
	var b *mail.Boxes
	for range 2 {
		for _, worker := range append(noWorkers(64), 0, 1, 63) {
			for _, l := range letters() {
				checkSend(t, b, worker, l, api.ErrNil)
			}
			checkTake(t, b, worker, mail.Letter{}, false)
			if b.Len(worker) != 0 || b.Total() != 0 {
				t.Fatalf("Len(%d): %d, Total: %d", worker, b.Len(worker), b.Total())
			}
		}
	}
}

// What is done to some boxes touches no others.
func TestTwoBoxes(t *testing.T) {
	one, two := begin(t, 2), begin(t, 3)
	one.send(t, 0, text(1))
	two.send(t, 0, text(2))
	one.send(t, 1, text(3))
	two.checkLens(t)
	two.send(t, 2, text(4))
	one.checkLens(t)
	one.send(t, 2, text(5))
	two.take(t, 1)
	two.take(t, 0)
	one.checkLens(t)
	one.drain(t)
	two.checkLens(t)
	two.send(t, 0, text(6))
	one.checkEmpty(t)
	two.drain(t)
	one.checkEmpty(t)
}

// Rule 5: what is handed in is not kept, though it is a piece of a longer text.
func TestPrefixIsNotKept(t *testing.T) {
	whole := []byte("a long text that is the caller's")
	b := boxes(t, 1)
	checkSend(t, b, 0, mail.Letter{Prefix: unsafe.String(&whole[2], 4), Set: 3}, api.OK)
	clear(whole)
	checkTake(t, b, 0, mail.Letter{Prefix: "long", Set: 3}, true)
}

// So many that a call that went over all of them would not come to an end.
func TestManyLetters(t *testing.T) {
	const many = 1 << 19
	for _, workers := range []int{1, 3, 64} {
		b := boxes(t, workers)
		for n := range many {
			checkSend(t, b, n%workers, text(n), api.OK)
		}
		for n := range many {
			if b.Total() != many-n || b.Len(n%workers) != (many-n+workers-1)/workers {
				t.Fatalf("Total: %d, Len: %d behind %d", b.Total(), b.Len(n%workers), n)
			}
			checkTake(t, b, n%workers, text(n), true)
		}
		for worker := range workers {
			checkTake(t, b, worker, mail.Letter{}, false)
		}
		if b.Total() != 0 {
			t.Fatalf("Total: %d", b.Total())
		}
	}
}

// Many letters that come and go, with few of them there at once.
func TestManyLettersComeAndGo(t *testing.T) {
	const many, there = 1 << 19, 5
	b := boxes(t, 2)
	for n := range many {
		checkSend(t, b, 1, text(n), api.OK)
		if n >= there {
			checkTake(t, b, 1, text(n-there), true)
		}
	}
	if b.Len(0) != 0 || b.Len(1) != there || b.Total() != there {
		t.Fatalf("Len: %d and %d, Total: %d", b.Len(0), b.Len(1), b.Total())
	}
}

// Letters that are gone are kept nowhere, though one behind them is still there.
func TestNoRoomOfThoseThatAreGone(t *testing.T) {
	const many = 1 << 18
	b := boxes(t, 1)
	before := heldBytes()
	for n := range many {
		checkSend(t, b, 0, text(n), api.OK)
	}
	for n := range many - 1 {
		checkTake(t, b, 0, text(n), true)
	}
	if after := heldBytes(); after > before+many {
		t.Errorf("%d bytes for one letter", after-before)
	}
	checkTake(t, b, 0, text(many-1), true)
	checkSend(t, b, 0, mail.Letter{Prefix: strings.Repeat("a", many)}, api.OK)
	b.Take(0)
	if after := heldBytes(); after > before+many/2 {
		t.Errorf("%d bytes for none", after-before)
	}
	runtime.KeepAlive(b)
}

// heldBytes: how many are held, once what nobody holds is gone.
func heldBytes() uint64 {
	runtime.GC()
	var all runtime.MemStats
	runtime.ReadMemStats(&all)
	return all.HeapAlloc
}
