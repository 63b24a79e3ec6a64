package book

import (
	"math"
	"slices"
	"testing"

	"quipu/api"
)

// wrongCounts has numbers that are below 0 or above MaxBits.
func wrongCounts() []int {
	return []int{-1, -2, -12, 13, 14, 31, 32, 33, 63, 64, 65, 100, 1 << 32, -1 << 32, 1<<32 + 3, math.MinInt32, math.MaxInt32, math.MinInt, math.MinInt + 1, math.MaxInt - 1, math.MaxInt}
}

// wrongWords has numbers that are no words of n bits.
func wrongWords(n int) []uint32 {
	words := []uint32{4096, 4097, 1 << 16, 1<<31 - 1, math.MaxUint32 - 1, math.MaxUint32}
	for bit := n; bit < 32; bit++ {
		words = append(words, 1<<bit, 1<<bit|(1<<n-1))
	}
	return words
}

// wordsBelow answers the numbers below the given one, rising.
func wordsBelow(end int) []uint32 {
	words := make([]uint32, end)
	for place := range words {
		words[place] = uint32(place)
	}
	return words
}

// allLists has each list of at most max of the words, those with a word twice among them.
func allLists(max int, from []uint32) [][]uint32 {
	lists := [][]uint32{nil}
	for i := 0; i < len(lists); i++ {
		if len(lists[i]) == max {
			continue
		}
		for _, w := range from {
			lists = append(lists, append(slices.Clone(lists[i]), w))
		}
	}
	return lists
}

// countApart goes through the bits one by one, as the document tells it.
func countApart(n int, a, b uint32) int {
	count := 0
	for range n {
		if a%2 != b%2 {
			count++
		}
		a, b = a/2, b/2
	}
	return count
}

// faultOf tells what Check is to tell of few words: the fault of the first one that has one.
func faultOf(n int, words []uint32) api.Errno {
	came := map[uint32]int{}
	for _, w := range words {
		if uint64(w) >= uint64(1)<<n {
			return api.ErrRange
		}
		came[w]++
		if came[w] > 1 {
			return api.ErrForm
		}
	}
	return api.OK
}

// leastOf takes the least of all distances of two places that differ.
func leastOf(n int, words []uint32) int {
	var all []int
	for i, a := range words {
		for j, b := range words {
			if i != j {
				all = append(all, countApart(n, a, b))
			}
		}
	}
	return slices.Min(all)
}

// nearOf asks for each distance, from 0 on, which word is the first that is so far.
func nearOf(n int, words []uint32, w uint32) (int, int) {
	for far := range n + 1 {
		isSoFar := func(word uint32) bool { return countApart(n, word, w) == far }
		if place := slices.IndexFunc(words, isSoFar); place >= 0 {
			return place, far
		}
	}
	return -1, -1
}

// growOf crosses out what is too near to a word that it takes, by turning bits of it: no distance is counted.
func growOf(n, d int) []uint32 {
	crossed := make([]bool, 1<<n)
	var taken []uint32
	for w := range crossed {
		if crossed[w] {
			continue
		}
		taken = append(taken, uint32(w))
		crossOut(crossed, n, uint32(w), 0, d-1)
	}
	return taken
}

// crossOut crosses out the word and all that come of it when up to left of its bits from the given one on are turned.
func crossOut(crossed []bool, n int, w uint32, from, left int) {
	crossed[w] = true
	for bit := from; bit < n && left > 0; bit++ {
		crossOut(crossed, n, w^1<<bit, bit+1, left-1)
	}
}

func checkBook(t *testing.T, n int, words []uint32, want api.Errno) {
	t.Helper()
	if got := Check(n, words); got != want {
		t.Errorf("Check of %d, %v: %d, want %d", n, words, got, want)
	}
}

func checkLeast(t *testing.T, n int, words []uint32, want int, wantErr api.Errno) {
	t.Helper()
	if got, err := Least(n, words); got != want || err != wantErr {
		t.Errorf("Least of %d, %v: %d, %d, want %d, %d", n, words, got, err, want, wantErr)
	}
}

func checkNear(t *testing.T, n int, words []uint32, w uint32, wantPlace, wantFar int, wantErr api.Errno) {
	t.Helper()
	if place, far, err := Near(n, words, w); place != wantPlace || far != wantFar || err != wantErr {
		t.Errorf("Near of %d, %v, %d: %d, %d, %d, want %d, %d, %d", n, words, w, place, far, err, wantPlace, wantFar, wantErr)
	}
}

func checkGrow(t *testing.T, n, d int, want []uint32, wantErr api.Errno) {
	t.Helper()
	if got, err := Grow(n, d); !slices.Equal(got, want) || err != wantErr {
		t.Errorf("Grow of %d, %d: %v, %d, want %v, %d", n, d, got, err, want, wantErr)
	}
}

// checkFault has a book at fault: all that take a book tell that, whatever else they are given.
func checkFault(t *testing.T, n int, words []uint32, want api.Errno) {
	t.Helper()
	checkBook(t, n, words, want)
	checkLeast(t, n, words, 0, want)
	for _, w := range []uint32{0, 1, 4095, 4096, math.MaxUint32} {
		checkNear(t, n, words, w, 0, 0, want)
	}
}

func TestCheck(t *testing.T) {
	cases := []struct {
		name  string
		n     int
		words []uint32
		want  api.Errno
	}{
		{"nil", 3, nil, api.OK},
		{"no word", 3, []uint32{}, api.OK},
		{"no word of no bits", 0, nil, api.OK},
		{"the word of no bits", 0, []uint32{0}, api.OK},
		{"that word twice", 0, []uint32{0, 0}, api.ErrForm},
		{"no word of no bits is 1", 0, []uint32{1}, api.ErrRange},
		{"ordinary", 3, []uint32{0, 3, 5, 6}, api.OK},
		{"not rising", 3, []uint32{6, 0, 7, 1}, api.OK},
		{"the last word", 12, []uint32{4095}, api.OK},
		{"one too great", 12, []uint32{4096}, api.ErrRange},
		{"the same side by side", 3, []uint32{1, 1}, api.ErrForm},
		{"the same far apart", 3, []uint32{1, 2, 3, 4, 1}, api.ErrForm},
		{"the same, then too great", 3, []uint32{1, 1, 8}, api.ErrForm},
		{"too great, then the same", 3, []uint32{1, 8, 1}, api.ErrRange},
		{"too great twice", 3, []uint32{8, 8}, api.ErrRange},
		{"the last is too great", 3, []uint32{0, 1, 2, 8}, api.ErrRange},
	}
	for _, c := range cases {
		if got := Check(c.n, c.words); got != c.want {
			t.Errorf("%s: %d, want %d", c.name, got, c.want)
		}
	}
}

// TestAllSmallBooks has each list of few words of few bits, and of some numbers that are no such words.
func TestAllSmallBooks(t *testing.T) {
	for n := range 4 {
		for _, words := range allLists(4, wordsBelow(1<<n+2)) {
			if err := faultOf(n, words); err != api.OK {
				checkFault(t, n, words, err)
				continue
			}
			checkGoodBook(t, n, words)
		}
	}
}

// checkGoodBook asks all there is to ask of a book that has no fault.
func checkGoodBook(t *testing.T, n int, words []uint32) {
	t.Helper()
	checkBook(t, n, words, api.OK)
	if len(words) < 2 {
		checkLeast(t, n, words, 0, api.ErrNone)
	} else {
		checkLeast(t, n, words, leastOf(n, words), api.OK)
	}
	for _, w := range wordsBelow(1 << n) {
		if len(words) == 0 {
			checkNear(t, n, words, w, 0, 0, api.ErrNone)
			continue
		}
		place, far := nearOf(n, words, w)
		checkNear(t, n, words, w, place, far, api.OK)
	}
	for _, w := range wrongWords(n) {
		checkNear(t, n, words, w, 0, 0, api.ErrRange)
	}
}

// TestGreatBooks has books of many bits, of up to as many words as there may be, in several orders.
func TestGreatBooks(t *testing.T) {
	for n := 6; n <= api.MaxBits; n++ {
		for _, count := range []int{0, 1, 2, 3, 17, 63, 64} {
			for _, factor := range []uint32{1, 5, 37, 2047, 4095} {
				words := make([]uint32, count)
				for place := range words {
					// The factors are odd, so that no word comes twice.
					words[place] = (uint32(place)*factor + 11) % (1 << n)
				}
				checkGoodBook(t, n, words)
			}
		}
	}
}

func TestSomeLeast(t *testing.T) {
	cases := []struct {
		n     int
		words []uint32
		want  int
	}{
		{1, []uint32{0, 1}, 1},
		{1, []uint32{1, 0}, 1},
		{3, []uint32{0, 3, 5}, 2},
		{3, []uint32{0, 3, 5, 6}, 2},
		{3, []uint32{0, 7}, 3},
		{3, []uint32{7, 0}, 3},
		{3, []uint32{0, 7, 6}, 1},      // the last two
		{3, []uint32{6, 7, 0}, 1},      // the first two
		{3, []uint32{6, 0, 7}, 1},      // the first and the last
		{12, []uint32{0, 7}, 3},        // bits that none of them has change nothing
		{12, []uint32{0, 4095}, 12},    // as far as can be
		{12, []uint32{2730, 1365}, 12}, // and once more
		{12, []uint32{0, 4095, 63}, 6},
	}
	for _, c := range cases {
		checkLeast(t, c.n, c.words, c.want, api.OK)
	}
}

func TestNotTwo(t *testing.T) {
	for n := range api.MaxBits + 1 {
		checkLeast(t, n, nil, 0, api.ErrNone)
		checkLeast(t, n, []uint32{}, 0, api.ErrNone)
		checkLeast(t, n, []uint32{0}, 0, api.ErrNone)
		checkLeast(t, n, []uint32{1<<n - 1}, 0, api.ErrNone)
	}
}

func TestSomeNear(t *testing.T) {
	cases := []struct {
		n          int
		words      []uint32
		w          uint32
		place, far int
	}{
		{0, []uint32{0}, 0, 0, 0},
		{1, []uint32{1}, 0, 0, 1},
		{3, []uint32{0, 7}, 3, 1, 1},
		{3, []uint32{0, 7}, 4, 0, 1},
		{3, []uint32{7, 0}, 4, 1, 1},
		{3, []uint32{0, 3, 5, 6}, 5, 2, 0}, // a word of the book
		{3, []uint32{0, 3, 5, 6}, 1, 0, 1}, // three are as near
		{3, []uint32{6, 5, 3, 0}, 1, 1, 1}, // the first one of them, not the least
		{3, []uint32{0, 3, 5, 6}, 7, 1, 1},
		{12, []uint32{0}, 4095, 0, 12},
		{12, []uint32{4095, 0}, 63, 0, 6},
		{12, []uint32{0, 4095}, 63, 0, 6},
	}
	for _, c := range cases {
		checkNear(t, c.n, c.words, c.w, c.place, c.far, api.OK)
	}
}

// TestNearOfNone has no word to be near to: that w is no word is named ahead of it.
func TestNearOfNone(t *testing.T) {
	for n := range api.MaxBits + 1 {
		for _, words := range [][]uint32{nil, {}} {
			checkNear(t, n, words, 0, 0, 0, api.ErrNone)
			checkNear(t, n, words, 1<<n-1, 0, 0, api.ErrNone)
			for _, w := range wrongWords(n) {
				checkNear(t, n, words, w, 0, 0, api.ErrRange)
			}
		}
	}
}

// TestWrongBits has all else right or wrong: the count of bits is named first.
func TestWrongBits(t *testing.T) {
	books := [][]uint32{nil, {}, {0}, {0, 1}, {1, 1}, {4095, 0}, {4096}, {math.MaxUint32, math.MaxUint32}, wordsBelow(64), wordsBelow(65)}
	for _, n := range wrongCounts() {
		for _, words := range books {
			checkFault(t, n, words, api.ErrLarge)
		}
		for _, d := range append(wrongCounts(), 0, 1, 2, 12, n) {
			checkGrow(t, n, d, nil, api.ErrLarge)
		}
	}
}

// TestTooManyWords has as many words as there may be, and one more; that is named ahead of what is wrong with a word.
func TestTooManyWords(t *testing.T) {
	for n := 6; n <= api.MaxBits; n++ {
		checkBook(t, n, wordsBelow(api.MaxCode), api.OK)
	}
	for n := range api.MaxBits + 1 {
		checkFault(t, n, wordsBelow(api.MaxCode+1), api.ErrLarge)
		checkFault(t, n, make([]uint32, api.MaxCode+1), api.ErrLarge)
		checkFault(t, n, slices.Repeat([]uint32{math.MaxUint32}, api.MaxCode+1), api.ErrLarge)
		checkFault(t, n, wordsBelow(100000), api.ErrLarge)
		checkFault(t, n, make([]uint32, api.MaxCode), api.ErrForm)
	}
	for n := range 6 {
		checkFault(t, n, wordsBelow(api.MaxCode), api.ErrRange)
	}
}

// TestFaultAtEachPlace spoils a book of as many words as there may be at one place, and leaves the last one wrong otherwise.
func TestFaultAtEachPlace(t *testing.T) {
	for place := 1; place < api.MaxCode-1; place++ {
		for _, great := range []uint32{4096, 1 << 31, math.MaxUint32} {
			words := wordsBelow(api.MaxCode)
			words[place] = great
			checkFault(t, 12, words, api.ErrRange)
			words[api.MaxCode-1] = 0
			checkFault(t, 12, words, api.ErrRange)
			words[place] = uint32(place - 1)
			checkFault(t, 12, words, api.ErrForm)
			words[api.MaxCode-1] = great
			checkFault(t, 12, words, api.ErrForm)
		}
	}
}

func TestWrongWords(t *testing.T) {
	for n := range api.MaxBits + 1 {
		for _, w := range wrongWords(n) {
			checkFault(t, n, []uint32{w}, api.ErrRange)
			checkFault(t, n, []uint32{w, w}, api.ErrRange)
			checkFault(t, n, []uint32{0, w, 0}, api.ErrRange)
			checkFault(t, n, []uint32{0, 0, w}, api.ErrForm)
			checkNear(t, n, []uint32{0}, w, 0, 0, api.ErrRange)
		}
	}
}

func TestSomeGrown(t *testing.T) {
	cases := []struct {
		n, d int
		want []uint32
	}{
		{3, 2, []uint32{0, 3, 5, 6}}, // the document's example
		{1, 1, []uint32{0, 1}},
		{2, 1, []uint32{0, 1, 2, 3}},
		{2, 2, []uint32{0, 3}},
		{3, 1, []uint32{0, 1, 2, 3, 4, 5, 6, 7}},
		{3, 3, []uint32{0, 7}},
		{4, 3, []uint32{0, 7}},
		{5, 3, []uint32{0, 7, 25, 30}},
		{6, 3, []uint32{0, 7, 25, 30, 42, 45, 51, 52}},
		{6, 4, []uint32{0, 15, 51, 60}},
		{7, 3, []uint32{0, 7, 25, 30, 42, 45, 51, 52, 75, 76, 82, 85, 97, 102, 120, 127}},
		{8, 8, []uint32{0, 255}},
		{12, 8, []uint32{0, 255, 3855, 4080}},
		{12, 9, []uint32{0, 511}},
		{12, 12, []uint32{0, 4095}},
	}
	for _, c := range cases {
		checkGrow(t, c.n, c.d, c.want, api.OK)
	}
}

// TestAllGrown has all there is to grow; what is grown is a book whose words are no less than d apart.
func TestAllGrown(t *testing.T) {
	for n := 1; n <= api.MaxBits; n++ {
		for d := 1; d <= n; d++ {
			want := growOf(n, d)
			if len(want) > api.MaxCode {
				checkGrow(t, n, d, nil, api.ErrLarge)
				continue
			}
			checkGrow(t, n, d, want, api.OK)
			checkBook(t, n, want, api.OK)
			if least, err := Least(n, want); least < d || err != api.OK {
				t.Errorf("Grow of %d, %d: words are only %d apart, %d", n, d, least, err)
			}
		}
	}
}

// TestGrownLimit has those that take just as many as may be taken, and those that would take more with one bit more.
func TestGrownLimit(t *testing.T) {
	for _, c := range []struct{ n, d int }{{6, 1}, {7, 2}, {10, 3}, {11, 4}} {
		if got, err := Grow(c.n, c.d); len(got) != api.MaxCode || err != api.OK {
			t.Errorf("Grow of %d, %d: %d words, %d, want %d", c.n, c.d, len(got), err, api.MaxCode)
		}
		checkGrow(t, c.n+1, c.d, nil, api.ErrLarge)
	}
	checkGrow(t, 6, 1, wordsBelow(64), api.OK)
	checkGrow(t, 12, 1, nil, api.ErrLarge)
}

// TestWrongApart has words of no bits too: of those no d is right.
func TestWrongApart(t *testing.T) {
	for n := range api.MaxBits + 1 {
		for _, d := range append(wrongCounts(), 0, n+1, n+2) {
			checkGrow(t, n, d, nil, api.ErrRange)
		}
	}
}

// TestListsStayAsTheyAre hands in a piece of a list: neither it nor what lies behind it is changed, and that is not read.
func TestListsStayAsTheyAre(t *testing.T) {
	whole := []uint32{6, 0, 5, 6, 4, 1 << 20}
	words := whole[:3]
	checkBook(t, 3, words, api.OK)
	checkLeast(t, 3, words, 2, api.OK)
	checkNear(t, 3, words, 4, 0, 1, api.OK)
	checkLeast(t, 3, whole[:1], 0, api.ErrNone)
	checkNear(t, 3, whole[:0], 6, 0, 0, api.ErrNone)
	if !slices.Equal(whole, []uint32{6, 0, 5, 6, 4, 1 << 20}) {
		t.Errorf("a list is changed to %v", whole)
	}
}

// TestAnswersAreNew spoils an answer, up to its capacity, and asks again.
func TestAnswersAreNew(t *testing.T) {
	got, _ := Grow(3, 2)
	kept, _ := Grow(3, 2)
	got = got[:cap(got)]
	for place := range got {
		got[place] = 77
	}
	want := []uint32{0, 3, 5, 6}
	if !slices.Equal(kept, want) {
		t.Errorf("another answer is changed to %v", kept)
	}
	checkGrow(t, 3, 2, want, api.OK)
}
