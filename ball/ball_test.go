package ball

import (
	"math"
	"slices"
	"testing"

	"quipu/api"
)

// wrongCounts has numbers that are below 0 or far above MaxBits.
func wrongCounts() []int {
	return []int{-1, -2, -12, 13, 14, 31, 32, 33, 63, 64, 65, 100, 1 << 32, -1 << 32, 1<<32 + 3, math.MinInt32, math.MaxInt32, math.MinInt, math.MinInt + 1, math.MaxInt - 1, math.MaxInt}
}

// wrongWords has numbers that are no words of n bits.
func wrongWords(n int) []uint32 {
	words := []uint32{4096, 4097, 1 << 16, 1<<16 + 1, 1<<31 - 1, 1 << 31, math.MaxUint32 - 1, math.MaxUint32}
	for bit := n; bit < 32; bit++ {
		words = append(words, 1<<bit, 1<<bit|(1<<n-1))
	}
	return words
}

func checkDist(t *testing.T, n int, a, b uint32, want int, wantErr api.Errno) {
	t.Helper()
	if got, err := Dist(n, a, b); got != want || err != wantErr {
		t.Errorf("Dist of %d, %d, %d: %d, %d, want %d, %d", n, a, b, got, err, want, wantErr)
	}
}

func checkNear(t *testing.T, n int, a uint32, r int, want []uint32, wantErr api.Errno) {
	t.Helper()
	if got, err := Ball(n, a, r); !slices.Equal(got, want) || err != wantErr {
		t.Errorf("Ball of %d, %d, %d: %v, %d, want %v, %d", n, a, r, got, err, want, wantErr)
	}
}

func checkSize(t *testing.T, n, r int, want int64, wantErr api.Errno) {
	t.Helper()
	if got, err := Size(n, r); got != want || err != wantErr {
		t.Errorf("Size of %d, %d: %d, %d, want %d, %d", n, r, got, err, want, wantErr)
	}
}

// countApart goes through the bits one by one, as the promise tells it.
func countApart(n int, a, b uint32) int {
	count := 0
	for range n {
		if a%2 != b%2 {
			count++
		}
		a, b = a/2, b/2
	}
	return count
}

// wordsBelow answers all words of n bits, rising.
func wordsBelow(n int) []uint32 {
	words := make([]uint32, 1<<n)
	for place := range words {
		words[place] = uint32(place)
	}
	return words
}

// growBall answers the words that come of a when up to r bits of it are turned, one after the other: no distance is counted.
func growBall(n int, a uint32, r int) []uint32 {
	words := []uint32{a}
	for range r {
		for _, w := range slices.Clone(words) {
			for bit := range n {
				words = append(words, w^1<<bit)
			}
		}
		slices.Sort(words)
		words = slices.Compact(words)
	}
	return words
}

func TestSomeDistances(t *testing.T) {
	cases := []struct {
		n    int
		a, b uint32
		want int
	}{
		{3, 5, 6, 2}, // the document's example
		{0, 0, 0, 0}, // 0 is the only word of no bits
		{1, 0, 0, 0},
		{1, 0, 1, 1},
		{1, 1, 1, 0},
		{2, 1, 2, 2},
		{3, 0, 7, 3},
		{4, 9, 9, 0},
		{4, 8, 7, 4},
		{12, 5, 6, 2}, // bits that neither of them has change nothing
		{12, 0, 4095, 12},
		{12, 4095, 4095, 0},
		{12, 2048, 2047, 12},
		{12, 2730, 1365, 12},
		{12, 4095, 1365, 6},
	}
	for _, c := range cases {
		checkDist(t, c.n, c.a, c.b, c.want, api.OK)
		checkDist(t, c.n, c.b, c.a, c.want, api.OK)
	}
}

func TestAllDistances(t *testing.T) {
	for n := range 9 {
		for _, a := range wordsBelow(n) {
			for _, b := range wordsBelow(n) {
				checkDist(t, n, a, b, countApart(n, a, b), api.OK)
			}
		}
	}
	for n := 9; n <= api.MaxBits; n++ {
		for _, a := range []uint32{0, 1, 85, 255, 1 << (n - 1), 1<<n - 2, 1<<n - 1} {
			for _, b := range wordsBelow(n) {
				checkDist(t, n, a, b, countApart(n, a, b), api.OK)
			}
		}
	}
}

func TestSomeBalls(t *testing.T) {
	cases := []struct {
		n    int
		a    uint32
		r    int
		want []uint32
	}{
		{3, 0, 1, []uint32{0, 1, 2, 4}}, // the document's example
		{0, 0, 0, []uint32{0}},
		{1, 0, 0, []uint32{0}},
		{1, 1, 0, []uint32{1}},
		{1, 1, 1, []uint32{0, 1}},
		{3, 5, 0, []uint32{5}},
		{3, 5, 1, []uint32{1, 4, 5, 7}},
		{3, 5, 2, []uint32{0, 1, 3, 4, 5, 6, 7}},
		{3, 5, 3, []uint32{0, 1, 2, 3, 4, 5, 6, 7}},
		{12, 4095, 0, []uint32{4095}},
		{12, 0, 1, []uint32{0, 1, 2, 4, 8, 16, 32, 64, 128, 256, 512, 1024, 2048}},
		{12, 4095, 1, []uint32{2047, 3071, 3583, 3839, 3967, 4031, 4063, 4079, 4087, 4091, 4093, 4094, 4095}},
	}
	for _, c := range cases {
		checkNear(t, c.n, c.a, c.r, c.want, api.OK)
		checkSize(t, c.n, c.r, int64(len(c.want)), api.OK)
	}
}

// TestAllBalls has each ball of few bits, and some of as many as there may be: the Size is that of the ball of each word.
func TestAllBalls(t *testing.T) {
	for n := range 8 {
		for r := range n + 1 {
			for _, a := range wordsBelow(n) {
				want := growBall(n, a, r)
				checkNear(t, n, a, r, want, api.OK)
				checkSize(t, n, r, int64(len(want)), api.OK)
			}
		}
	}
	for n := 8; n <= api.MaxBits; n++ {
		for r := range n + 1 {
			for _, a := range []uint32{0, 85, 1 << (n - 1), 1<<n - 1} {
				want := growBall(n, a, r)
				checkNear(t, n, a, r, want, api.OK)
				checkSize(t, n, r, int64(len(want)), api.OK)
			}
		}
	}
}

func TestSomeSizes(t *testing.T) {
	for r, want := range []int64{1, 13, 79, 299, 794, 1586, 2510, 3302, 3797, 4017, 4083, 4095, 4096} {
		checkSize(t, 12, r, want, api.OK)
	}
	checkSize(t, 0, 0, 1, api.OK)
	checkSize(t, 5, 2, 16, api.OK)
	for n := range api.MaxBits + 1 {
		checkSize(t, n, 0, 1, api.OK)
		checkSize(t, n, n, 1<<n, api.OK)
	}
}

// TestWrongBits has all else right or wrong: the count of bits is named first.
func TestWrongBits(t *testing.T) {
	for _, n := range wrongCounts() {
		for _, a := range append(wrongWords(12), 0, 1, 4095) {
			for _, b := range []uint32{0, 1, 4095, 4096, math.MaxUint32} {
				checkDist(t, n, a, b, 0, api.ErrLarge)
				checkDist(t, n, b, a, 0, api.ErrLarge)
			}
			for _, r := range append(wrongCounts(), 0, 1, 12) {
				checkNear(t, n, a, r, nil, api.ErrLarge)
			}
		}
		for _, r := range append(wrongCounts(), 0, 1, 12, n) {
			checkSize(t, n, r, 0, api.ErrLarge)
		}
	}
}

// TestWrongWords has a word that is none in each place, and in both.
func TestWrongWords(t *testing.T) {
	for n := range api.MaxBits + 1 {
		for _, w := range wrongWords(n) {
			for _, other := range []uint32{0, 1<<n - 1, 1 << n, w, w ^ 1, math.MaxUint32} {
				checkDist(t, n, w, other, 0, api.ErrRange)
				checkDist(t, n, other, w, 0, api.ErrRange)
			}
			for _, r := range append(wrongCounts(), 0, n, n+1) {
				checkNear(t, n, w, r, nil, api.ErrRange)
			}
		}
		last := uint32(1)<<n - 1
		checkDist(t, n, last, last, 0, api.OK)
		checkNear(t, n, last, 0, []uint32{last}, api.OK)
	}
}

func TestWrongRadius(t *testing.T) {
	for n := range api.MaxBits + 1 {
		for _, r := range append(wrongCounts(), n+1, n+2) {
			for _, a := range []uint32{0, 1<<n - 1, 1 << n} {
				checkNear(t, n, a, r, nil, api.ErrRange)
			}
			checkSize(t, n, r, 0, api.ErrRange)
		}
	}
}

// TestAnswersAreNew spoils an answer, up to its capacity, and asks again.
func TestAnswersAreNew(t *testing.T) {
	got, _ := Ball(3, 0, 1)
	kept, _ := Ball(3, 0, 1)
	got = got[:cap(got)]
	for place := range got {
		got[place] = 77
	}
	want := []uint32{0, 1, 2, 4}
	if !slices.Equal(kept, want) {
		t.Errorf("another answer is changed to %v", kept)
	}
	checkNear(t, 3, 0, 1, want, api.OK)
}
