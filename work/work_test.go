package work_test

import (
	"math"
	"slices"
	"strings"
	"testing"
	"unsafe"

	"sinnet/api"
	"sinnet/work"
)

// falling is prefixes of which each one comes ahead of all that follow it, worked out by hand; many of them begin with one another.
func falling() []string {
	return []string{
		strings.Repeat("\xff", 300),
		strings.Repeat("\x03\x02\x01\x00", 8),
		strings.Repeat("\xff", 32),
		"\x00\x01\x02",
		"\x03\x02\x01",
		"\x80\x00\xff",
		"\xef\xbf\xbd", // what bytes that are no rune are read as
		"\xff\xff\xff",
		"\x00\x01",
		"\x03\x02",
		"\x80\x00",
		"\xc3\xa9", // a letter of two bytes
		"\x00",
		"\x03",
		"\x7f",
		"\x80",
		"\xff",
		"",
	}
}

// rising is the same ones, the other way round.
func rising() []string {
	list := falling()
	slices.Reverse(list)
	return list
}

// text is the prefix of that number; of two of them the one of the lesser number comes ahead.
func text(n int) string {
	return string([]byte{byte(n >> 16), byte(n >> 8), byte(n)})
}

// texts: that many, from that number on.
func texts(from, many int) []string {
	var list []string
	for n := range many {
		list = append(list, text(from+n))
	}
	return list
}

func TestChapterExample(t *testing.T) {
	b := begin(t, 2)
	b.fill(t, 0, "a", "")
	checkSteal(t, b.w, 1, 0, "", true)
	b.m.steal(1, 0)
	b.check(t)
	checkPop(t, b.w, 0, "a", true)
	checkPop(t, b.w, 0, "", false)
	checkPop(t, b.w, 1, "", true)
	checkHas(t, b.w, nil, []string{"a", ""})
}

// P13.1: 1 to 64 workers, each of whom there is, and begins with nothing.
func TestNewOfEachNumberOfWorkers(t *testing.T) {
	for workers := 1; workers <= 64; workers++ {
		b := begin(t, workers)
		b.checkEmpty(t)
		for worker := range workers {
			b.fill(t, worker, text(worker))
		}
		for worker := range workers {
			checkPop(t, b.w, worker, text(worker), true)
			b.m.pop(worker)
		}
		b.checkEmpty(t)
	}
}

// P13.1: ErrArg, and no work.
func TestNewOfWrongNumbers(t *testing.T) {
	for _, workers := range []int{0, 65, -1, 66, -64, 128, 1 << 8, 1<<8 + 1, 1 << 32, 1<<32 + 1, 1 - 1<<32, math.MinInt, math.MinInt + 1, math.MaxInt} {
		if w, e := work.New(workers); w != nil || e != api.ErrArg {
			t.Errorf("New(%d): %v %v", workers, w, e)
		}
	}
}

// P13.1: to no worker nothing is pushed, and nothing has changed; so the prefix may still be pushed to one.
func TestPushToNoSuchWorker(t *testing.T) {
	for workers := 1; workers <= 64; workers++ {
		for _, filled := range []int{0, 2} {
			b := begin(t, workers)
			for worker := range workers {
				b.fill(t, worker, texts(filled*worker, filled)...)
			}
			for _, worker := range noWorkers(workers) {
				for _, prefix := range []string{"", text(0), "\xff", "other"} {
					checkPush(t, b.w, worker, prefix, false)
				}
			}
			b.check(t)
			b.fill(t, workers-1, "", "\xff", "other")
			b.drain(t)
		}
	}
}

// P13.1: while a prefix is had, it can be pushed to nobody; behind its pop it can be again, to each.
func TestPushAgain(t *testing.T) {
	for _, prefix := range falling() {
		b := begin(t, 3)
		b.fill(t, 0, "one", "two")
		b.fill(t, 2, "three")
		for _, owner := range []int{1, 1, 0, 2, 2, 1} {
			b.fill(t, owner, prefix)
			for range 2 {
				for worker := range 3 {
					checkPush(t, b.w, worker, prefix, false)
				}
				b.check(t)
			}
			for b.m.owner(prefix) != nobody {
				b.pop(t, owner)
			}
			for _, one := range []had{{0, "one"}, {0, "two"}, {2, "three"}} {
				b.push(t, one.worker, one.prefix)
			}
		}
		b.drain(t)
	}
}

// P13.1: a prefix that was refused is not there, so it isn't popped twice.
func TestRefusedPushIsNotThere(t *testing.T) {
	for _, prefix := range falling() {
		b := begin(t, 2)
		b.fill(t, 0, prefix)
		for range 3 {
			checkPush(t, b.w, 0, prefix, false)
			checkPush(t, b.w, 1, prefix, false)
		}
		checkPop(t, b.w, 1, "", false)
		checkPop(t, b.w, 0, prefix, true)
		b.m.pop(0)
		b.checkEmpty(t)
	}
}

// P13.1: a worker's pops fall, as its queue's do, in whatever order they were pushed; nobody has what was popped.
func TestPopsFall(t *testing.T) {
	for _, list := range [][]string{falling(), rising()} {
		for worker := range 4 {
			b := begin(t, 4)
			b.fill(t, worker, list...)
			for i, want := range falling() {
				checkPop(t, b.w, (worker+1)%4, "", false)
				checkPop(t, b.w, worker, want, true)
				b.m.pop(worker)
				b.check(t)
				checkHas(t, b.w, falling()[i+1:], falling()[:i+1])
			}
			b.checkEmpty(t)
		}
	}
}

// P13.1: each worker pops its own ones.
func TestEachWorkerPopsItsOwn(t *testing.T) {
	for _, workers := range []int{1, 2, 3, 63, 64} {
		b := begin(t, workers)
		for n := range 3 * workers {
			b.fill(t, n%workers, text(n))
		}
		for n := range 3 * workers {
			worker := workers - 1 - n%workers
			checkPop(t, b.w, worker, text(n/workers*workers+worker), true)
			b.m.pop(worker)
		}
		b.checkEmpty(t)
	}
}

// P13.1: one who has nothing, and nobody, pop nothing; the empty prefix of another one stays there, too.
func TestPopOfNothing(t *testing.T) {
	for _, prefixes := range [][]string{{""}, {"", "\x00"}, {"\xff"}, falling()} {
		b := begin(t, 3)
		b.fill(t, 1, prefixes...)
		for _, worker := range append(noWorkers(3), 0, 2) {
			checkPop(t, b.w, worker, "", false)
			b.check(t)
		}
		checkHas(t, b.w, prefixes, []string{"other"})
		checkPush(t, b.w, 0, prefixes[0], false)
		b.drain(t)
	}
}

// P13.1: steals rise, in whatever order they were pushed; the thief has what it stole, which it pops in the other order.
func TestStealsRise(t *testing.T) {
	for _, list := range [][]string{falling(), rising()} {
		b := begin(t, 3)
		b.fill(t, 2, list...)
		for i, want := range rising() {
			checkSteal(t, b.w, 0, 2, want, true)
			b.m.steal(0, 2)
			b.check(t)
			if b.w.Len(0) != i+1 || b.w.Len(1) != 0 || b.w.Len(2) != len(list)-i-1 {
				t.Fatalf("Len: %d, %d, %d behind %d", b.w.Len(0), b.w.Len(1), b.w.Len(2), i+1)
			}
		}
		checkSteal(t, b.w, 0, 2, "", false)
		for _, want := range falling() {
			checkPop(t, b.w, 0, want, true)
			b.m.pop(0)
		}
		b.checkEmpty(t)
	}
}

// P13.1: a victim with one prefix has nothing then; one with nothing loses nothing.
func TestStealOfOneAndOfNothing(t *testing.T) {
	for _, prefix := range falling() {
		b := begin(t, 4)
		b.fill(t, 3, "more")
		checkSteal(t, b.w, 0, 1, "", false)
		b.fill(t, 1, prefix)
		checkSteal(t, b.w, 0, 2, "", false)
		b.check(t)
		checkSteal(t, b.w, 0, 1, prefix, true)
		b.m.steal(0, 1)
		b.check(t)
		for _, worker := range []int{0, 2, 3} {
			checkSteal(t, b.w, worker, 1, "", false)
		}
		b.check(t)
		checkPop(t, b.w, 1, "", false)
		b.drain(t)
	}
}

// P13.1: nobody steals from itself, no such worker steals, and from no such victim nothing is stolen; nothing has changed.
func TestStealThatMayNotBe(t *testing.T) {
	for workers := 1; workers <= 64; workers++ {
		for _, filled := range []int{0, 1, 2} {
			b := begin(t, workers)
			for worker := range workers {
				b.fill(t, worker, texts(filled*worker, filled)...)
			}
			for worker := range workers {
				checkSteal(t, b.w, worker, worker, "", false)
			}
			for _, none := range noWorkers(workers) {
				checkSteal(t, b.w, none, 0, "", false)
				checkSteal(t, b.w, none, workers-1, "", false)
				checkSteal(t, b.w, 0, none, "", false)
				checkSteal(t, b.w, workers-1, none, "", false)
				checkSteal(t, b.w, none, none, "", false)
			}
			b.check(t)
			b.drain(t)
		}
	}
}

// P13.2: what was stolen is had by the thief alone, till it pops it.
func TestStolenIsHadByTheThiefAlone(t *testing.T) {
	for _, prefix := range falling() {
		b := begin(t, 3)
		b.fill(t, 0, prefix)
		b.steal(t, 2, 0)
		for worker := range 3 {
			checkPush(t, b.w, worker, prefix, false)
		}
		checkPop(t, b.w, 0, "", false)
		checkPop(t, b.w, 1, "", false)
		checkSteal(t, b.w, 1, 0, "", false)
		b.check(t)
		checkHas(t, b.w, []string{prefix}, nil)
		checkPop(t, b.w, 2, prefix, true)
		checkHas(t, b.w, nil, []string{prefix})
		checkPush(t, b.w, 0, prefix, true)
		checkPop(t, b.w, 2, "", false)
		checkPop(t, b.w, 0, prefix, true)
	}
}

// P13.1: what was stolen may be stolen back, and on from one to the next one.
func TestStolenBackAndOn(t *testing.T) {
	for _, prefix := range falling() {
		b := begin(t, 64)
		b.fill(t, 0, prefix)
		for range 3 {
			checkSteal(t, b.w, 1, 0, prefix, true)
			checkSteal(t, b.w, 0, 1, prefix, true)
			b.check(t)
		}
		for worker := 1; worker < 64; worker++ {
			checkSteal(t, b.w, worker, worker-1, prefix, true)
			checkSteal(t, b.w, worker, worker-1, "", false)
		}
		b.m.row[0].worker = 63
		b.check(t)
		checkPop(t, b.w, 0, "", false)
		checkPop(t, b.w, 63, prefix, true)
		b.m.pop(63)
		b.checkEmpty(t)
	}
}

// P13.1: what is stolen stands among the thief's own ones as if it had been pushed to it, worked out by hand.
func TestStolenAmongOwnOnes(t *testing.T) {
	b := begin(t, 3)
	b.fill(t, 0, "ab", "c", "abc", "\xff")
	b.fill(t, 1, "b", "ba", "")
	b.fill(t, 2, "aa", "\x80")
	checkSteal(t, b.w, 1, 0, "\xff", true)
	checkSteal(t, b.w, 1, 0, "c", true)
	checkSteal(t, b.w, 1, 2, "\x80", true)
	checkSteal(t, b.w, 2, 1, "", true)
	checkSteal(t, b.w, 2, 1, "\xff", true)
	checkSteal(t, b.w, 1, 0, "ab", true)
	checkSteal(t, b.w, 0, 2, "", true)
	for _, c := range []struct {
		worker int
		prefix string
		ok     bool
	}{
		{1, "ab", true}, {1, "ba", true}, {1, "b", true}, {1, "c", true}, {1, "\x80", true}, {1, "", false},
		{0, "abc", true}, {0, "", true}, {0, "", false},
		{2, "aa", true}, {2, "\xff", true}, {2, "", false},
	} {
		checkPop(t, b.w, c.worker, c.prefix, c.ok)
	}
	b.m.row = nil
	b.checkEmpty(t)
}

// Prefixes that begin with one another are each one of its own: the longest one is popped, the shortest one stolen.
func TestBeginningsOfOneAnother(t *testing.T) {
	for _, whole := range []string{strings.Repeat("\x00", 32), strings.Repeat("\x03\x02\x01\x00", 8), strings.Repeat("\xff", 32)} {
		b := begin(t, 2)
		for size := range len(whole) + 1 {
			b.fill(t, 0, whole[:size])
		}
		short, long := 0, len(whole)
		for short < long {
			checkPop(t, b.w, 0, whole[:long], true)
			checkSteal(t, b.w, 1, 0, whole[:short], true)
			if b.w.Has(whole[:long]) || !b.w.Has(whole[:short]) || !b.w.Has(whole[:short+1]) {
				t.Fatalf("Has: wrong of %d and %d bytes", short, long)
			}
			short, long = short+1, long-1
		}
		checkPop(t, b.w, 0, whole[:short], true)
		for size := short - 1; size >= 0; size-- {
			checkPop(t, b.w, 1, whole[:size], true)
		}
		b.m.row = nil
		b.checkEmpty(t)
	}
}

// Each of the 256 bytes is one of its own.
func TestEachByte(t *testing.T) {
	b := begin(t, 2)
	for n := range 256 {
		b.fill(t, 0, string([]byte{byte(n)}))
	}
	for n := range 128 {
		checkSteal(t, b.w, 1, 0, string([]byte{byte(255 - n)}), true)
		checkPop(t, b.w, 0, string([]byte{byte(n)}), true)
	}
	for n := 128; n < 256; n++ {
		checkPop(t, b.w, 1, string([]byte{byte(n)}), true)
	}
	b.m.row = nil
	b.checkEmpty(t)
}

// Work that was emptied can be filled again.
func TestEmptiedAndFilledAgain(t *testing.T) {
	b := begin(t, 3)
	for round := range 6 {
		b.checkEmpty(t)
		b.fill(t, round%3, falling()...)
		for n := range 2 * round {
			b.steal(t, (round+n+1)%3, round%3)
		}
		b.drain(t)
	}
}

// Work that New did not make has no workers.
func TestWorkWithoutWorkers(t *testing.T) {
	b := pair{new(work.Work), &model{}, map[string]bool{"": true}}
	b.checkEmpty(t)
	for _, worker := range append(noWorkers(1), 0, 63) {
		for _, prefix := range falling() {
			b.push(t, worker, prefix)
		}
	}
	b.checkEmpty(t)
}

func TestNilWork(t *testing.T) {
	b := pair{nil, &model{}, map[string]bool{"": true}}
	for range 2 {
		b.checkEmpty(t)
		for _, worker := range append(noWorkers(64), 0, 1, 63) {
			for _, prefix := range falling() {
				b.push(t, worker, prefix)
			}
			b.pop(t, worker)
			b.steal(t, worker, 0)
			b.steal(t, 1, worker)
		}
	}
}

// What is done to one Work touches no other one.
func TestTwoWorks(t *testing.T) {
	one, two := begin(t, 2), begin(t, 3)
	for i, prefix := range falling() {
		one.fill(t, i%2, prefix)
		two.check(t)
	}
	for i, prefix := range rising() {
		two.fill(t, i%3, prefix)
		one.check(t)
	}
	for range 3 {
		one.pop(t, 0)
		two.check(t)
		two.steal(t, 0, 2)
		one.check(t)
		one.steal(t, 0, 1)
		two.check(t)
	}
	one.drain(t)
	two.check(t)
	two.drain(t)
	one.checkEmpty(t)
}

// Rule 5: what is handed in is not kept, though it is a piece of a longer text.
func TestPrefixIsNotKept(t *testing.T) {
	whole := []byte("a long text that is the caller's")
	b := begin(t, 2)
	checkPush(t, b.w, 0, unsafe.String(&whole[2], 4), true)
	clear(whole)
	checkHas(t, b.w, []string{"long"}, []string{"\x00\x00\x00\x00"})
	checkSteal(t, b.w, 1, 0, "long", true)
	checkPop(t, b.w, 1, "long", true)
	checkHas(t, b.w, nil, []string{"long"})
}

// So many that a call that looked at all of them would not come to an end.
func TestManyPrefixes(t *testing.T) {
	const many, workers = 1 << 17, 4
	b := begin(t, workers)
	for n := range many {
		checkPush(t, b.w, 0, text(n), true)
		checkPush(t, b.w, n%workers, text(n), false)
	}
	for n := range many / 2 {
		checkSteal(t, b.w, 1+n%(workers-1), 0, text(many-1-n), true)
		checkPop(t, b.w, 0, text(n), true)
		if b.w.Total() != many-n-1 || b.w.Len(0) != many-2*n-2 || b.w.Has(text(n)) || !b.w.Has(text(many-1-n)) {
			t.Fatalf("Total: %d, Len: %d behind %d", b.w.Total(), b.w.Len(0), n)
		}
	}
	for n := many / 2; n < many; n++ {
		checkPop(t, b.w, 1+(many-1-n)%(workers-1), text(n), true)
	}
	b.checkEmpty(t)
}
