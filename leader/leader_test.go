package leader

import (
	"math"
	"slices"
	"testing"

	"quipu/api"
)

// wrongCounts has numbers that are below 0 or above MaxBits.
func wrongCounts() []int {
	return []int{-1, -2, -12, 13, 14, 31, 32, 33, 63, 64, 65, 100, 1 << 32, -1 << 32, 1<<32 + 3, math.MinInt32, math.MaxInt32, math.MinInt, math.MinInt + 1, math.MaxInt - 1, math.MaxInt}
}

// notBelow has numbers that are not below 2^n: as words of n bits, or as marks by n checks, they are wrong.
func notBelow(n int) []uint32 {
	numbers := []uint32{4096, 4097, 1<<31 - 1, math.MaxUint32 - 1, math.MaxUint32}
	for bit := n; bit < 32; bit++ {
		numbers = append(numbers, 1<<bit, 1<<bit|(1<<n-1))
	}
	return numbers
}

// listsOf has each list of at most max numbers below end, those with a number twice among them.
func listsOf(max int, end uint32) [][]uint32 {
	lists := [][]uint32{nil}
	for i := 0; i < len(lists); i++ {
		for w := uint32(0); w < end && len(lists[i]) < max; w++ {
			lists = append(lists, append(slices.Clone(lists[i]), w))
		}
	}
	return lists
}

// bitsOf has the bits of the word that are set, found without a shift.
func bitsOf(w uint32) []int {
	var set []int
	for bit := 0; w > 0; bit++ {
		if w%2 == 1 {
			set = append(set, bit)
		}
		w /= 2
	}
	return set
}

// wordOf has just the given bits, each of them once.
func wordOf(set []int) uint32 {
	var w uint32
	for _, bit := range set {
		value := uint32(1)
		for range bit {
			value *= 2
		}
		w += value
	}
	return w
}

// ownMark counts the bits that w has in common with each check.
func ownMark(checks []uint32, w uint32) uint32 {
	var odd []int
	for place, check := range checks {
		common := 0
		for _, bit := range bitsOf(check) {
			if slices.Contains(bitsOf(w), bit) {
				common++
			}
		}
		if common%2 != 0 {
			odd = append(odd, place)
		}
	}
	return wordOf(odd)
}

// ownSum has the bits that just one of both words has.
func ownSum(a, b uint32) uint32 {
	var set []int
	for bit := range 32 {
		if slices.Contains(bitsOf(a), bit) != slices.Contains(bitsOf(b), bit) {
			set = append(set, bit)
		}
	}
	return wordOf(set)
}

// ownLeaders tells which mark each word has, goes through the words with the fewest bits first, of several the lesser first, and has the first one of each mark; -1 where there is none.
func ownLeaders(n int, checks []uint32) (marks []uint32, leaders []int) {
	for range 1 << len(checks) {
		leaders = append(leaders, -1)
	}
	for w := range uint32(1 << n) {
		marks = append(marks, ownMark(checks, w))
	}
	for count := range n + 1 {
		for w, mark := range marks {
			if leaders[mark] < 0 && len(bitsOf(uint32(w))) == count {
				leaders[mark] = w
			}
		}
	}
	return marks, leaders
}

func checkMark(t *testing.T, n int, checks []uint32, w, want uint32, wantErr api.Errno) {
	t.Helper()
	if got, err := Mark(n, checks, w); got != want || err != wantErr {
		t.Errorf("Mark of %d, %v, %d: %d, %d, want %d, %d", n, checks, w, got, err, want, wantErr)
	}
}

func checkLeader(t *testing.T, n int, checks []uint32, mark, want uint32, wantErr api.Errno) {
	t.Helper()
	if got, err := Leader(n, checks, mark); got != want || err != wantErr {
		t.Errorf("Leader of %d, %v, %d: %d, %d, want %d, %d", n, checks, mark, got, err, want, wantErr)
	}
}

func checkFix(t *testing.T, n int, checks []uint32, w, want uint32, wantErr api.Errno) {
	t.Helper()
	if got, err := Fix(n, checks, w); got != want || err != wantErr {
		t.Errorf("Fix of %d, %v, %d: %d, %d, want %d, %d", n, checks, w, got, err, want, wantErr)
	}
}

// checkGoodChecks has checks that are not wrong, and asks of each mark by them and of each step-th word.
func checkGoodChecks(t *testing.T, n int, checks []uint32, step int) {
	t.Helper()
	marks, leaders := ownLeaders(n, checks)
	for w := 0; w < len(marks); w += step {
		mark := marks[w]
		checkMark(t, n, checks, uint32(w), mark, api.OK)
		checkFix(t, n, checks, uint32(w), ownSum(uint32(w), uint32(leaders[mark])), api.OK)
	}
	for mark, leader := range leaders {
		if leader < 0 {
			checkLeader(t, n, checks, uint32(mark), 0, api.ErrNone)
			continue
		}
		checkLeader(t, n, checks, uint32(mark), uint32(leader), api.OK)
	}
}

// checkFault has a count of bits or checks at fault: all calls tell that, whether word and mark are right or wrong.
func checkFault(t *testing.T, n int, checks []uint32, want api.Errno) {
	t.Helper()
	for _, number := range []uint32{0, 1, 2, 255, 256, 4095, 4096, math.MaxUint32} {
		checkMark(t, n, checks, number, 0, want)
		checkLeader(t, n, checks, number, 0, want)
		checkFix(t, n, checks, number, 0, want)
	}
}

// TestAllFewChecks has each list of few checks of few bits, and of some numbers that are no such words.
func TestAllFewChecks(t *testing.T) {
	for n := range 4 {
		for _, checks := range listsOf(3, 1<<n+2) {
			if len(checks) > 0 && slices.Max(checks) >= 1<<n {
				checkFault(t, n, checks, api.ErrRange)
				continue
			}
			checkGoodChecks(t, n, checks, 1)
		}
	}
}

// TestGreatChecks has checks of up to as many bits, and up to as many checks, as there may be.
func TestGreatChecks(t *testing.T) {
	for n := range api.MaxBits + 1 {
		for count := range api.MaxRows + 1 {
			for _, factor := range []uint32{0, 37, 2047} {
				checks := make([]uint32, count)
				for place := range checks {
					next := uint32(place + 1)
					checks[place] = (next*next*factor + next) % (1 << n)
				}
				checkGoodChecks(t, n, checks, 1+1<<n/16)
			}
		}
	}
}

func TestSomeMarks(t *testing.T) {
	cases := []struct {
		n       int
		checks  []uint32
		w, want uint32
	}{
		{3, []uint32{3, 6}, 0, 0},
		{3, []uint32{3, 6}, 1, 1},
		{3, []uint32{3, 6}, 2, 3},
		{3, []uint32{3, 6}, 3, 2},
		{3, []uint32{3, 6}, 4, 2},
		{3, []uint32{3, 6}, 5, 3},
		{3, []uint32{3, 6}, 7, 0},
		{3, []uint32{6, 3}, 1, 2},
		{3, []uint32{7}, 7, 1},
		{3, []uint32{7, 7}, 4, 3},
		{3, []uint32{0, 7}, 7, 2},
		{3, nil, 7, 0},
		{0, nil, 0, 0},
		{0, []uint32{0, 0, 0}, 0, 0},
		{12, []uint32{4095}, 4095, 0},
		{12, []uint32{4095}, 2048, 1},
		{12, []uint32{16, 32, 64, 128, 256, 512, 1024, 2048}, 4095, 255},
		{12, []uint32{16, 32, 64, 128, 256, 512, 1024, 2048}, 2063, 128},
	}
	for _, c := range cases {
		checkMark(t, c.n, c.checks, c.w, c.want, api.OK)
	}
}

// TestSomeLeaders asks of each mark by the checks: leaders has -1 of those that no word has.
func TestSomeLeaders(t *testing.T) {
	cases := []struct {
		name    string
		n       int
		checks  []uint32
		leaders []int
	}{
		{"the document's example", 3, []uint32{3, 6}, []int{0, 1, 4, 2}},
		{"turned round", 3, []uint32{6, 3}, []int{0, 4, 1, 2}},
		{"no check", 3, nil, []int{0}},
		{"no bit and no check", 0, nil, []int{0}},
		{"no bit", 0, []uint32{0, 0}, []int{0, -1, -1, -1}},
		{"a check without a bit", 2, []uint32{0}, []int{0, -1}},
		{"a check twice", 2, []uint32{2, 2}, []int{0, -1, -1, 2}},
		{"a check and a sum of others", 2, []uint32{1, 2, 3}, []int{0, -1, -1, 3, -1, 1, 2, -1}},
		{"one bit of several: the lesser word", 3, []uint32{7}, []int{0, 1}},
		{"one bit of several that are not the first ones", 4, []uint32{12}, []int{0, 4}},
		{"two bits of several: the lesser word", 4, []uint32{3, 12}, []int{0, 1, 4, 5}},
		{"fewer bits ahead of the lesser word", 3, []uint32{5, 6}, []int{0, 1, 2, 4}},
		{"one bit ahead of three", 4, []uint32{9, 10, 12}, []int{0, 1, 2, 3, 4, 5, 6, 8}},
	}
	for _, c := range cases {
		t.Run(c.name, func(t *testing.T) {
			for mark, leader := range c.leaders {
				if leader < 0 {
					checkLeader(t, c.n, c.checks, uint32(mark), 0, api.ErrNone)
					continue
				}
				checkLeader(t, c.n, c.checks, uint32(mark), uint32(leader), api.OK)
			}
		})
	}
}

func TestSomeFixes(t *testing.T) {
	cases := []struct {
		n       int
		checks  []uint32
		w, want uint32
	}{
		{3, []uint32{3, 6}, 0, 0},
		{3, []uint32{3, 6}, 4, 0},
		{3, []uint32{3, 6}, 5, 7},
		{3, []uint32{3, 6}, 7, 7},
		{3, []uint32{7}, 7, 6},
		{3, []uint32{7}, 1, 0},
		{3, []uint32{7}, 2, 3},
		{3, nil, 5, 5},
		{3, []uint32{0, 0}, 5, 5},
		{0, nil, 0, 0},
		{2, []uint32{1, 2}, 3, 0},
		{12, nil, 4095, 4095},
		{12, []uint32{4095}, 2048, 2049},
		{12, []uint32{2048}, 4095, 2047},
	}
	for _, c := range cases {
		checkFix(t, c.n, c.checks, c.w, c.want, api.OK)
	}
}

// TestTurnedBitsComeBack spoils words without a mark that are so far apart that each spoilt one is nearest to what it was.
func TestTurnedBitsComeBack(t *testing.T) {
	cases := []struct {
		name   string
		n      int
		checks []uint32
		turned int
	}{
		{"three bits that are the same", 3, []uint32{3, 6}, 1},
		{"five bits that are the same", 5, []uint32{3, 6, 12, 24}, 2},
		{"nine bits that are the same", 9, []uint32{3, 6, 12, 24, 48, 96, 192, 384}, 4},
		{"seven bits with three checks", 7, []uint32{85, 102, 120}, 1},
		{"a check of all bits beside", 8, []uint32{85, 102, 120, 255}, 1},
		{"twelve bits with four checks", 12, []uint32{1365, 1638, 2168, 3968}, 1},
	}
	for _, c := range cases {
		t.Run(c.name, func(t *testing.T) {
			for w := range uint32(1 << c.n) {
				if ownMark(c.checks, w) == 0 {
					checkComesBack(t, c.n, c.checks, w, c.turned)
				}
			}
		})
	}
}

// checkComesBack turns up to so many bits of the word in all ways.
func checkComesBack(t *testing.T, n int, checks []uint32, w uint32, turned int) {
	t.Helper()
	for spoil := range uint32(1 << n) {
		if len(bitsOf(spoil)) <= turned {
			checkFix(t, n, checks, ownSum(w, spoil), w, api.OK)
		}
	}
}

// TestWrongBits has all else right or wrong: the count of bits is named first.
func TestWrongBits(t *testing.T) {
	lists := [][]uint32{nil, {}, {0}, {0, 1}, {1, 1}, {4095, 0}, {4096}, {math.MaxUint32, math.MaxUint32}, make([]uint32, 8), make([]uint32, 9)}
	for _, n := range wrongCounts() {
		for _, checks := range lists {
			checkFault(t, n, checks, api.ErrLarge)
		}
	}
}

// TestTooManyChecks has more checks than there may be; that is named ahead of a check that is wrong.
func TestTooManyChecks(t *testing.T) {
	for n := range api.MaxBits + 1 {
		checkMark(t, n, make([]uint32, api.MaxRows), 0, 0, api.OK)
		checkLeader(t, n, make([]uint32, api.MaxRows), 0, 0, api.OK)
		checkFix(t, n, make([]uint32, api.MaxRows), 0, 0, api.OK)
		for _, count := range []int{api.MaxRows + 1, api.MaxRows + 2, 31, 32, 33, 64, 65, 1000} {
			checkFault(t, n, make([]uint32, count), api.ErrLarge)
			checkFault(t, n, slices.Repeat([]uint32{math.MaxUint32}, count), api.ErrLarge)
			wrongAtEnd := make([]uint32, count)
			wrongAtEnd[count-1] = 1 << n
			checkFault(t, n, wrongAtEnd, api.ErrLarge)
		}
	}
}

// TestWrongChecks has one check that is wrong, at each place of lists of each length.
func TestWrongChecks(t *testing.T) {
	for n := range api.MaxBits + 1 {
		for _, wrong := range notBelow(n) {
			for count := 1; count <= api.MaxRows; count++ {
				for place := range count {
					checks := make([]uint32, count)
					checks[place] = wrong
					checkFault(t, n, checks, api.ErrRange)
				}
			}
		}
	}
}

// TestWrongWords has checks that are right, and words with more bits than there are, and the greatest one that is right.
func TestWrongWords(t *testing.T) {
	for n := range api.MaxBits + 1 {
		for count := range api.MaxRows + 1 {
			checks := make([]uint32, count)
			for _, w := range notBelow(n) {
				checkMark(t, n, checks, w, 0, api.ErrRange)
				checkFix(t, n, checks, w, 0, api.ErrRange)
			}
			checkMark(t, n, checks, 1<<n-1, 0, api.OK)
			checkFix(t, n, checks, 1<<n-1, 1<<n-1, api.OK)
		}
	}
}

// TestWrongMarks has marks with more bits than there are checks: that is another fault than a mark that no word has. How many bits the words have is nothing to it.
func TestWrongMarks(t *testing.T) {
	for n := range api.MaxBits + 1 {
		for count := range api.MaxRows + 1 {
			checks := make([]uint32, count)
			for _, mark := range notBelow(count) {
				checkLeader(t, n, checks, mark, 0, api.ErrRange)
			}
			for mark := uint32(1); mark < 1<<count; mark++ {
				checkLeader(t, n, checks, mark, 0, api.ErrNone)
			}
			checkLeader(t, n, checks, 0, 0, api.OK)
		}
	}
}

// TestChecksStayAsTheyAre hands in a piece of a list: neither it nor what lies behind it is changed, and that is not read.
func TestChecksStayAsTheyAre(t *testing.T) {
	whole := []uint32{6, 0, 3, 6, 1, 1 << 20, 1, 1, 1, 1}
	checks := whole[:4]
	for range 3 {
		checkMark(t, 3, checks, 5, 13, api.OK)
		checkLeader(t, 3, checks, 13, 2, api.OK)
		checkLeader(t, 3, checks, 2, 0, api.ErrNone)
		checkLeader(t, 3, checks, 16, 0, api.ErrRange)
		checkFix(t, 3, checks, 5, 7, api.OK)
		checkFix(t, 3, checks, 8, 0, api.ErrRange)
	}
	if !slices.Equal(whole, []uint32{6, 0, 3, 6, 1, 1 << 20, 1, 1, 1, 1}) {
		t.Errorf("checks are changed to %v", whole)
	}
}
