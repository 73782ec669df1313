package sleep_test

import (
	"math"
	"slices"
	"testing"

	"sinnet/sleep"
)

// sets: how many sets of the threads 0 to 7 there are; each is its number.
const sets = 256

// among is the chapter's words: is the bit of thread 1?
func among(n, thread int) bool {
	for range thread {
		n /= 2
	}
	return n%2 == 1
}

// threadsOf: the threads of the set n, rising.
func threadsOf(n int) []int {
	var list []int
	for thread := range 8 {
		if among(n, thread) {
			list = append(list, thread)
		}
	}
	return list
}

// none: threads that no set is of; some have the last bits of one that it could be of.
func none() []int {
	list := []int{-1, -7, -8, -9, 8, 9, 31, 32, 63, 64, 65, math.MinInt, math.MaxInt, math.MinInt32, math.MaxInt32}
	for _, from := range []int{-256, -64, -16, -8, 8, 16, 32, 64, 128, 256, 1 << 16, math.MinInt, math.MinInt / 2, math.MaxInt/2 + 1, math.MaxInt - 7} {
		for thread := range 8 {
			list = append(list, from+thread)
		}
	}
	return list
}

func TestOf(t *testing.T) {
	if sleep.Of() != 0 || sleep.Of(nil...) != 0 || sleep.Of([]int{}...) != 0 {
		t.Error("of nobody")
	}
	if sleep.Of(0) != 1 || sleep.Of(3) != 8 || sleep.Of(7) != 128 || sleep.Of(2, 0) != 5 || sleep.Of(1, 1, 1) != 2 {
		t.Error("of some")
	}
	for n := range sets {
		rising := threadsOf(n)
		falling := slices.Clone(rising)
		slices.Reverse(falling)
		for _, list := range [][]int{rising, falling, slices.Concat(rising, falling), slices.Repeat(rising, 3)} {
			if got := sleep.Of(list...); got != sleep.Set(n) {
				t.Errorf("Of(%v): %d, not %d", list, got, n)
			}
		}
	}
}

func TestOfThreadsThatAreNone(t *testing.T) {
	far := none()
	if got := sleep.Of(far...); got != 0 {
		t.Errorf("Of(%v): %d", far, got)
	}
	for _, thread := range far {
		if got := sleep.Of(thread); got != 0 {
			t.Errorf("Of(%d): %d", thread, got)
		}
		if got := sleep.Of(thread, 6, thread, 1, thread); got != 66 {
			t.Errorf("Of(6, 1), and %d: %d", thread, got)
		}
	}
	for n := range sets {
		if got := sleep.Of(slices.Concat(far, threadsOf(n), far)...); got != sleep.Set(n) {
			t.Errorf("Of(%v), and many that are none: %d", threadsOf(n), got)
		}
	}
}

func TestHas(t *testing.T) {
	for n := range sets {
		for thread := range 8 {
			if got := sleep.Set(n).Has(thread); got != among(n, thread) {
				t.Errorf("%d: Has(%d): %v", n, thread, got)
			}
		}
		for _, thread := range none() {
			if sleep.Set(n).Has(thread) {
				t.Errorf("%d: Has(%d)", n, thread)
			}
		}
	}
}

func TestWithAndWithout(t *testing.T) {
	for n := range sets {
		for thread, bit := range []int{1, 2, 4, 8, 16, 32, 64, 128} {
			with, without := n, n
			if among(n, thread) {
				without -= bit
			} else {
				with += bit
			}
			if got := sleep.Set(n).With(thread); got != sleep.Set(with) {
				t.Errorf("%d: With(%d): %d, not %d", n, thread, got, with)
			}
			if got := sleep.Set(n).Without(thread); got != sleep.Set(without) {
				t.Errorf("%d: Without(%d): %d, not %d", n, thread, got, without)
			}
		}
		for _, thread := range none() {
			if got := sleep.Set(n).With(thread); got != sleep.Set(n) {
				t.Errorf("%d: With(%d): %d", n, thread, got)
			}
			if got := sleep.Set(n).Without(thread); got != sleep.Set(n) {
				t.Errorf("%d: Without(%d): %d", n, thread, got)
			}
		}
	}
}

func TestUnion(t *testing.T) {
	for a := range sets {
		for b := range sets {
			got := sleep.Set(a).Union(sleep.Set(b))
			for thread := range 8 {
				if among(int(got), thread) != (among(a, thread) || among(b, thread)) {
					t.Fatalf("%d: Union(%d): %d", a, b, got)
				}
			}
		}
	}
}

func TestAllAndLen(t *testing.T) {
	for n, want := range map[sleep.Set][]int{0: nil, 1: {0}, 128: {7}, 5: {0, 2}, 0xf0: {4, 5, 6, 7}, 255: {0, 1, 2, 3, 4, 5, 6, 7}} {
		if got := n.All(); !slices.Equal(got, want) || n.Len() != len(want) {
			t.Errorf("%d: %v, %d", n, got, n.Len())
		}
	}
	for n := range sets {
		want := threadsOf(n)
		if got := sleep.Set(n).All(); !slices.Equal(got, want) {
			t.Errorf("%d: All: %v, not %v", n, got, want)
		}
		if got := sleep.Set(n).Len(); got != len(want) {
			t.Errorf("%d: Len: %d, not %d", n, got, len(want))
		}
	}
}

// Rule 5: what is handed in stays, its spare room too, and no answer is its memory, or another answer's.
func TestListsStay(t *testing.T) {
	whole := []int{5, -3, 2, 2, 99, 7, 1}
	want := slices.Clone(whole)
	if got := sleep.Of(whole[:4]...); got != 36 || !slices.Equal(whole, want) {
		t.Errorf("%d, %v", got, whole)
	}
	all := sleep.Set(255)
	first := all.All()
	clear(first[:cap(first)])
	if got := all.All(); !slices.Equal(got, threadsOf(255)) || all != 255 {
		t.Errorf("%v", got)
	}
}
