package flip

import (
	"math"
	"slices"
	"testing"

	"quipu/api"
)

// wrongCounts has numbers that are below 0 or above MaxBits.
func wrongCounts() []int {
	return []int{-1, -2, -12, 13, 14, 31, 32, 33, 63, 64, 65, 100, 1 << 32, -1 << 32, 1<<32 + 3, math.MinInt32, math.MaxInt32, math.MinInt, math.MinInt + 1, math.MaxInt - 1, math.MaxInt}
}

// notBelow has numbers that are not below 2^n: they are no words of n bits.
func notBelow(n int) []uint32 {
	numbers := []uint32{4096, 4097, 1<<31 - 1, math.MaxUint32 - 1, math.MaxUint32}
	for bit := n; bit < 32; bit++ {
		numbers = append(numbers, 1<<bit, 1<<bit|(1<<n-1))
	}
	return numbers
}

// listsOf has each list of at most max numbers below end, those with a number twice among them.
func listsOf(max int, end uint32) [][]uint32 {
	lists := [][]uint32{nil}
	for i := 0; i < len(lists); i++ {
		for w := uint32(0); w < end && len(lists[i]) < max; w++ {
			lists = append(lists, append(slices.Clone(lists[i]), w))
		}
	}
	return lists
}

// ownBits has the twelve bits of the word, found without a shift.
func ownBits(w uint32) [api.MaxBits]uint32 {
	var all [api.MaxBits]uint32
	for place := range all {
		all[place] = w % 2
		w /= 2
	}
	return all
}

// ownWord has the word of the bits.
func ownWord(all [api.MaxBits]uint32) uint32 {
	var w uint32
	for _, bit := range slices.Backward(all[:]) {
		w = 2*w + bit
	}
	return w
}

// ownBad sums up, for each check, the products of its bits and those of w.
func ownBad(checks []uint32, w uint32) int {
	count := 0
	for _, check := range checks {
		common := uint32(0)
		for place, bit := range ownBits(check) {
			common += bit * ownBits(w)[place]
		}
		count += int(common % 2)
	}
	return count
}

// ownStep lists how many are bad by each bit's turning, and looks for the least of those in the list.
func ownStep(n int, checks []uint32, w uint32) (uint32, bool) {
	var words []uint32
	var counts []int
	for place := range n {
		all := ownBits(w)
		all[place] = 1 - all[place]
		words = append(words, ownWord(all))
		counts = append(counts, ownBad(checks, ownWord(all)))
	}
	if n == 0 || slices.Min(counts) >= ownBad(checks, w) {
		return w, false
	}
	return words[slices.Index(counts, slices.Min(counts))], true
}

// ownRun goes on from what the first step makes.
func ownRun(n int, checks []uint32, w uint32) (uint32, int) {
	turned, is := ownStep(n, checks, w)
	if !is {
		return w, 0
	}
	last, steps := ownRun(n, checks, turned)
	return last, steps + 1
}

func checkBad(t *testing.T, n int, checks []uint32, w uint32, want int, wantErr api.Errno) {
	t.Helper()
	if got, err := Bad(n, checks, w); got != want || err != wantErr {
		t.Errorf("Bad of %d, %v, %d: %d, %d, want %d, %d", n, checks, w, got, err, want, wantErr)
	}
}

func checkStep(t *testing.T, n int, checks []uint32, w, want uint32, wantIs bool, wantErr api.Errno) {
	t.Helper()
	if got, is, err := Step(n, checks, w); got != want || is != wantIs || err != wantErr {
		t.Errorf("Step of %d, %v, %d: %d, %t, %d, want %d, %t, %d", n, checks, w, got, is, err, want, wantIs, wantErr)
	}
}

func checkRun(t *testing.T, n int, checks []uint32, w, want uint32, wantSteps int, wantErr api.Errno) {
	t.Helper()
	if got, steps, err := Run(n, checks, w); got != want || steps != wantSteps || err != wantErr {
		t.Errorf("Run of %d, %v, %d: %d, %d, %d, want %d, %d, %d", n, checks, w, got, steps, err, want, wantSteps, wantErr)
	}
}

// checkGood has checks and a word that are not wrong.
func checkGood(t *testing.T, n int, checks []uint32, w uint32) {
	t.Helper()
	checkBad(t, n, checks, w, ownBad(checks, w), api.OK)
	turned, is := ownStep(n, checks, w)
	checkStep(t, n, checks, w, turned, is, api.OK)
	last, steps := ownRun(n, checks, w)
	checkRun(t, n, checks, w, last, steps, api.OK)
}

// checkWrong has something wrong: all calls tell the same.
func checkWrong(t *testing.T, n int, checks []uint32, w uint32, want api.Errno) {
	t.Helper()
	checkBad(t, n, checks, w, 0, want)
	checkStep(t, n, checks, w, 0, false, want)
	checkRun(t, n, checks, w, 0, 0, want)
}

// checkFault has a count of bits or checks at fault: that is told whether the word is right or wrong.
func checkFault(t *testing.T, n int, checks []uint32, want api.Errno) {
	t.Helper()
	for _, w := range []uint32{0, 1, 2, 255, 256, 4095, 4096, math.MaxUint32} {
		checkWrong(t, n, checks, w, want)
	}
}

// TestAllFewChecks has each list of few checks of few bits, and of some numbers that are no such words, and all words.
func TestAllFewChecks(t *testing.T) {
	for n := range 4 {
		for _, checks := range listsOf(3, 1<<n+2) {
			if len(checks) > 0 && slices.Max(checks) >= 1<<n {
				checkFault(t, n, checks, api.ErrRange)
				continue
			}
			for w := range uint32(1 << n) {
				checkGood(t, n, checks, w)
			}
		}
	}
}

// TestGreatChecks has checks of up to as many bits, and up to as many checks, as there may be.
func TestGreatChecks(t *testing.T) {
	for n := range api.MaxBits + 1 {
		for count := range api.MaxRows + 1 {
			for _, factor := range []uint32{0, 37, 2047} {
				checks := make([]uint32, count)
				for place := range checks {
					next := uint32(place + 1)
					checks[place] = (next*next*factor + next) % (1 << n)
				}
				for w := uint32(0); w < 1<<n; w += 1 + 1<<n/32 {
					checkGood(t, n, checks, w)
				}
			}
		}
	}
}

// TestSomeWords has named words: how many checks are bad, what a step makes of them, and what a run does.
func TestSomeWords(t *testing.T) {
	cases := []struct {
		name         string
		n            int
		checks       []uint32
		w            uint32
		bad          int
		turned, last uint32
		steps        int
	}{
		{"the document's example", 3, []uint32{3, 6}, 2, 2, 0, 0, 1},
		{"one check is bad", 3, []uint32{3, 6}, 1, 1, 0, 0, 1},
		{"the last bit", 3, []uint32{3, 6}, 4, 1, 0, 0, 1},
		{"to all bits", 3, []uint32{3, 6}, 5, 2, 7, 7, 1},
		{"none is bad", 3, []uint32{3, 6}, 7, 0, 7, 7, 0},
		{"no bit and no check", 0, nil, 0, 0, 0, 0, 0},
		{"no bit", 0, []uint32{0, 0}, 0, 0, 0, 0, 0},
		{"no check", 3, nil, 5, 0, 5, 5, 0},
		{"checks without a bit", 3, []uint32{0, 0}, 5, 0, 5, 5, 0},
		{"the first of several bits", 3, []uint32{7}, 2, 1, 3, 3, 1},
		{"the first of several bits, which was set", 3, []uint32{7}, 1, 1, 0, 0, 1},
		{"the first of several bits, behind one that is in no check", 3, []uint32{6}, 5, 1, 7, 7, 1},
		{"a later bit leaves fewer", 2, []uint32{3, 2}, 2, 2, 0, 0, 1},
		{"as few by a later bit: the first one, and then another", 3, []uint32{1, 5, 6}, 3, 3, 2, 0, 2},
		{"a check twice counts twice", 2, []uint32{1, 3, 3}, 1, 3, 0, 0, 1},
		{"one is bad, and each bit leaves more", 2, []uint32{1, 3, 3}, 3, 1, 3, 3, 0},
		{"two are bad, and each bit leaves as many", 2, []uint32{1, 3, 2}, 3, 2, 3, 3, 0},
		{"two steps", 4, []uint32{3, 12}, 5, 2, 4, 0, 2},
		{"a step, and no other though one is bad", 3, []uint32{1, 3, 3, 4}, 7, 2, 3, 3, 1},
		{"as many steps as checks", 8, []uint32{1, 2, 4, 8, 16, 32, 64, 128}, 255, 8, 254, 0, 8},
		{"the greatest word", 12, []uint32{4095}, 4095, 0, 4095, 4095, 0},
		{"the last of twelve bits", 12, []uint32{2048, 2048}, 4095, 2, 2047, 2047, 1},
		{"the same check eight times", 12, []uint32{4095, 4095, 4095, 4095, 4095, 4095, 4095, 4095}, 2048, 8, 2049, 2049, 1},
	}
	for _, c := range cases {
		t.Run(c.name, func(t *testing.T) {
			checkBad(t, c.n, c.checks, c.w, c.bad, api.OK)
			checkStep(t, c.n, c.checks, c.w, c.turned, c.turned != c.w, api.OK)
			checkRun(t, c.n, c.checks, c.w, c.last, c.steps, api.OK)
		})
	}
}

// TestOneTurnedBitComesBack turns each bit of words of which no check is bad, where each bit is in some checks, and no two are in just the same.
func TestOneTurnedBitComesBack(t *testing.T) {
	cases := []struct {
		name   string
		n      int
		checks []uint32
	}{
		{"three bits that are the same", 3, []uint32{3, 6, 5}},
		{"four bits that are the same", 4, []uint32{3, 5, 9, 6, 10, 12}},
		{"nine bits in rows and columns", 9, []uint32{7, 56, 448, 73, 146, 292}},
	}
	for _, c := range cases {
		t.Run(c.name, func(t *testing.T) {
			for w := range uint32(1 << c.n) {
				if ownBad(c.checks, w) != 0 {
					continue
				}
				for place := range c.n {
					all := ownBits(w)
					all[place] = 1 - all[place]
					checkStep(t, c.n, c.checks, ownWord(all), w, true, api.OK)
					checkRun(t, c.n, c.checks, ownWord(all), w, 1, api.OK)
				}
			}
		})
	}
}

// TestRunIsSteps takes the steps one by one.
func TestRunIsSteps(t *testing.T) {
	checks := []uint32{4095, 1365, 2730, 819, 3276, 240, 15, 3855}
	for first := range uint32(1 << 12) {
		w, steps, is, err := first, -1, true, api.OK
		for is && err == api.OK {
			steps++
			w, is, err = Step(12, checks, w)
		}
		checkRun(t, 12, checks, first, w, steps, err)
	}
}

// TestWrongBits has all else right or wrong: the count of bits is named first.
func TestWrongBits(t *testing.T) {
	lists := [][]uint32{nil, {}, {0}, {0, 1}, {1, 1}, {4095, 0}, {4096}, {math.MaxUint32, math.MaxUint32}, make([]uint32, 8), make([]uint32, 9)}
	for _, n := range wrongCounts() {
		for _, checks := range lists {
			checkFault(t, n, checks, api.ErrLarge)
		}
	}
}

// TestTooManyChecks has more checks than there may be; that is named ahead of a check that is wrong.
func TestTooManyChecks(t *testing.T) {
	for n := range api.MaxBits + 1 {
		checkBad(t, n, make([]uint32, api.MaxRows), 0, 0, api.OK)
		checkStep(t, n, make([]uint32, api.MaxRows), 0, 0, false, api.OK)
		checkRun(t, n, make([]uint32, api.MaxRows), 0, 0, 0, api.OK)
		for _, count := range []int{api.MaxRows + 1, api.MaxRows + 2, 31, 32, 33, 64, 65, 1000} {
			checkFault(t, n, make([]uint32, count), api.ErrLarge)
			checkFault(t, n, slices.Repeat([]uint32{math.MaxUint32}, count), api.ErrLarge)
			wrongAtEnd := make([]uint32, count)
			wrongAtEnd[count-1] = 1 << n
			checkFault(t, n, wrongAtEnd, api.ErrLarge)
		}
	}
}

// TestWrongChecks has one check that is wrong, at each place of lists of each length.
func TestWrongChecks(t *testing.T) {
	for n := range api.MaxBits + 1 {
		for _, wrong := range notBelow(n) {
			for count := 1; count <= api.MaxRows; count++ {
				for place := range count {
					checks := make([]uint32, count)
					checks[place] = wrong
					checkFault(t, n, checks, api.ErrRange)
				}
			}
		}
	}
}

// TestWrongWords has checks that are right, and words with more bits than there are, and the greatest one that is right.
func TestWrongWords(t *testing.T) {
	for n := range api.MaxBits + 1 {
		for count := range api.MaxRows + 1 {
			checks := make([]uint32, count)
			for _, w := range notBelow(n) {
				checkWrong(t, n, checks, w, api.ErrRange)
			}
			checkGood(t, n, checks, 1<<n-1)
		}
	}
}

// TestChecksStayAsTheyAre hands in a piece of a list: neither it nor what lies behind it is changed, and that is not read.
func TestChecksStayAsTheyAre(t *testing.T) {
	whole := []uint32{6, 0, 3, 6, 1, 1 << 20, 1, 1, 1, 1}
	checks := whole[:4]
	for range 3 {
		checkBad(t, 3, checks, 5, 3, api.OK)
		checkStep(t, 3, checks, 5, 7, true, api.OK)
		checkRun(t, 3, checks, 5, 7, 1, api.OK)
		checkWrong(t, 3, checks, 8, api.ErrRange)
		checkWrong(t, 2, checks, 0, api.ErrRange)
	}
	if !slices.Equal(whole, []uint32{6, 0, 3, 6, 1, 1 << 20, 1, 1, 1, 1}) {
		t.Errorf("checks are changed to %v", whole)
	}
}
