package drop

import (
	"math"
	"slices"
	"testing"

	"quipu/api"
)

// maxBits is how many bits there may be.
const maxBits = 12

// wrongCounts has numbers that are below 0 or above maxBits.
func wrongCounts() []int {
	return []int{-1, -2, -12, -13, 13, 14, 31, 32, 33, 63, 64, 65, 100, 1 << 32, -1 << 32, 1<<32 + 3, math.MinInt32, math.MaxInt32, math.MinInt, math.MinInt + 1, math.MaxInt - 1, math.MaxInt}
}

// wrongSums has numbers that are no Sum of n bits.
func wrongSums(n int) []int {
	return []int{-1, -2, -n - 1, -n - 2, n + 1, n + 2, 2*n + 1, 2*n + 2, 100, 1 << 32, 1<<32 + 1, -1 << 32, math.MinInt32, math.MaxInt32, math.MinInt, math.MinInt + 1, math.MaxInt - 1, math.MaxInt}
}

// listsOf has all lists of so many bits, those first whose last bit is 0, and of those the ones first whose last but one is so, and on.
func listsOf(count int) [][]bool {
	lists := [][]bool{{}}
	for range count {
		var longer [][]bool
		for _, last := range []bool{false, true} {
			for _, l := range lists {
				longer = append(longer, append(slices.Clone(l), last))
			}
		}
		lists = longer
	}
	return lists
}

// bitsIn has the bits of a text of zeros and ones.
func bitsIn(text string) []bool {
	var l []bool
	for _, c := range text {
		l = append(l, c == '1')
	}
	return l
}

// ownSum goes round as many places as there are bits, and one more, by each set bit's place.
func ownSum(l []bool) int {
	at := 0
	for i := range l {
		for range i + 1 {
			if !l[i] {
				break
			}
			at++
			if at > len(l) {
				at = 0
			}
		}
	}
	return at
}

// ownWords keeps those of all lists that have the Sum: they come in the order of their words.
func ownWords(n, a int) []uint32 {
	var words []uint32
	for w, l := range listsOf(n) {
		if ownSum(l) == a {
			words = append(words, uint32(w))
		}
	}
	return words
}

// without has l but for the bit at i.
func without(l []bool, i int) []bool {
	return slices.Delete(slices.Clone(l), i, i+1)
}

// isLeft tells whether short is left when one bit of long is gone.
func isLeft(short, long []bool) bool {
	for i := range long {
		if slices.Equal(short, without(long, i)) {
			return true
		}
	}
	return false
}

func checkSum(t *testing.T, l []bool, want int, wantErr api.Errno) {
	t.Helper()
	if got, err := Sum(l); got != want || err != wantErr {
		t.Errorf("Sum of %v: %d, %d, want %d, %d", l, got, err, want, wantErr)
	}
}

func checkWords(t *testing.T, n, a int, want []uint32, wantErr api.Errno) {
	t.Helper()
	if got, err := Words(n, a); !slices.Equal(got, want) || err != wantErr {
		t.Errorf("Words of %d, %d: %v, %d, want %v, %d", n, a, got, err, want, wantErr)
	}
}

func checkFill(t *testing.T, a int, l, want []bool, wantErr api.Errno) {
	t.Helper()
	if got, err := Fill(a, l); !slices.Equal(got, want) || err != wantErr {
		t.Errorf("Fill of %d, %v: %v, %d, want %v, %d", a, l, got, err, want, wantErr)
	}
}

// TestAllSums has all lists that are not too long.
func TestAllSums(t *testing.T) {
	for n := range maxBits + 1 {
		for _, l := range listsOf(n) {
			checkSum(t, l, ownSum(l), api.OK)
		}
	}
}

// TestAllWords has each count of bits, and each Sum of those.
func TestAllWords(t *testing.T) {
	for n := range maxBits + 1 {
		for a := range n + 1 {
			checkWords(t, n, a, ownWords(n, a), api.OK)
		}
	}
}

// TestAllFills takes each bit of each list away, and has it back.
func TestAllFills(t *testing.T) {
	for n := 1; n <= maxBits; n++ {
		for _, l := range listsOf(n) {
			for i := range l {
				checkFill(t, ownSum(l), without(l, i), l, api.OK)
			}
		}
	}
}

// TestEachSumIsFilled has short lists and all Sums: one list alone has that Sum and leaves the short one.
func TestEachSumIsFilled(t *testing.T) {
	for n := range 8 {
		longer := listsOf(n + 1)
		for _, l := range listsOf(n) {
			for a := range n + 2 {
				var right [][]bool
				for _, long := range longer {
					if ownSum(long) == a && isLeft(l, long) {
						right = append(right, long)
					}
				}
				if len(right) != 1 {
					t.Fatalf("%v leave %v and have the Sum %d", right, l, a)
				}
				checkFill(t, a, l, right[0], api.OK)
			}
		}
	}
}

// TestLongLists has the longest lists that may be filled, and all Sums.
func TestLongLists(t *testing.T) {
	for _, l := range listsOf(maxBits - 1) {
		for a := range maxBits + 1 {
			got, err := Fill(a, l)
			if err != api.OK || len(got) != maxBits || ownSum(got) != a || !isLeft(l, got) {
				t.Errorf("Fill of %d, %v: %v, %d", a, l, got, err)
			}
		}
	}
}

// TestSomeSums has named lists.
func TestSomeSums(t *testing.T) {
	cases := []struct {
		name, bits string
		want       int
	}{
		{"the document's example", "101", 0},
		{"no bit", "", 0},
		{"one bit, not set", "0", 0},
		{"one bit", "1", 1},
		{"the first of two", "10", 1},
		{"the last of two", "01", 2},
		{"as many as there are bits", "110", 3},
		{"one more than there are bits", "11", 0},
		{"above that", "1111", 0},
		{"more than once above that", "111111", 0},
		{"none of twelve", "000000000000", 0},
		{"the last of twelve", "000000000001", 12},
		{"the last two of twelve", "000000000011", 10},
		{"all of twelve", "111111111111", 0},
		{"all but the first of twelve", "011111111111", 12},
	}
	for _, c := range cases {
		t.Run(c.name, func(t *testing.T) {
			checkSum(t, bitsIn(c.bits), c.want, api.OK)
		})
	}
}

// TestSomeWords has named counts of bits.
func TestSomeWords(t *testing.T) {
	cases := []struct {
		name string
		n, a int
		want []uint32
	}{
		{"the Sum of the document's example", 3, 0, []uint32{0, 5}},
		{"no bit", 0, 0, []uint32{0}},
		{"one bit, not set", 1, 0, []uint32{0}},
		{"one bit", 1, 1, []uint32{1}},
		{"bit 0 stands at the place 1", 2, 1, []uint32{1}},
		{"bit 1 stands at the place 2", 2, 2, []uint32{2}},
		{"none and all", 2, 0, []uint32{0, 3}},
		{"the greatest Sum", 3, 3, []uint32{3, 4}},
		{"four bits", 4, 0, []uint32{0, 6, 9, 15}},
		{"four bits, another Sum", 4, 1, []uint32{1, 7, 10}},
	}
	for _, c := range cases {
		t.Run(c.name, func(t *testing.T) {
			checkWords(t, c.n, c.a, c.want, api.OK)
		})
	}
}

// TestSomeFills has named lists.
func TestSomeFills(t *testing.T) {
	cases := []struct {
		name       string
		a          int
		bits, want string
	}{
		{"the document's example", 0, "11", "101"},
		{"of no bit, one that is not set", 0, "", "0"},
		{"of no bit, one that is set", 1, "", "1"},
		{"a bit 0 at the end", 3, "11", "110"},
		{"a bit 0 ahead of all", 1, "11", "011"},
		{"a bit 1 among the same", 2, "11", "111"},
		{"a bit 1 ahead of all", 1, "00", "100"},
		{"a bit 1 in the middle", 2, "00", "010"},
		{"a bit 1 at the end", 3, "00", "001"},
		{"a bit 0 among the same", 0, "00", "000"},
		{"the longest, a bit 1 at the end", 12, "00000000000", "000000000001"},
		{"the longest, a bit 0 at the end", 1, "11111111111", "111111111110"},
		{"the longest, a bit 0 ahead of all", 12, "11111111111", "011111111111"},
		{"the longest, a bit 1 among the same", 0, "11111111111", "111111111111"},
	}
	for _, c := range cases {
		t.Run(c.name, func(t *testing.T) {
			checkFill(t, c.a, bitsIn(c.bits), bitsIn(c.want), api.OK)
		})
	}
}

// TestWordsAreFarApart takes one bit of each word of a list away: no two words leave the same.
func TestWordsAreFarApart(t *testing.T) {
	for n := 1; n <= 9; n++ {
		for a := range n + 1 {
			words, err := Words(n, a)
			if err != api.OK {
				t.Fatalf("Words of %d, %d: %d", n, a, err)
			}
			lists := listsOf(n)
			for _, w := range words {
				for i := range n {
					checkFill(t, a, without(lists[w], i), lists[w], api.OK)
				}
			}
		}
	}
}

// TestTooManyBits has longer lists than there may be; that is named ahead of a wrong Sum.
func TestTooManyBits(t *testing.T) {
	for _, count := range []int{12, 13, 14, 31, 32, 33, 64, 65, 1000} {
		for _, bit := range []bool{false, true} {
			l := slices.Repeat([]bool{bit}, count)
			if count > maxBits {
				checkSum(t, l, 0, api.ErrLarge)
			}
			for _, a := range append(wrongSums(count+1), 0, 1, 11, 12, 13, count, count+1) {
				checkFill(t, a, l, nil, api.ErrLarge)
			}
		}
	}
}

// TestWrongCounts has each Sum right or wrong; the count of bits is named first.
func TestWrongCounts(t *testing.T) {
	for _, n := range wrongCounts() {
		for _, a := range append(wrongSums(n), 0, 1, 2, 11, 12, 13, n-1, n) {
			checkWords(t, n, a, nil, api.ErrLarge)
		}
	}
}

// TestWrongSums has counts of bits that are right.
func TestWrongSums(t *testing.T) {
	for n := range maxBits + 1 {
		for _, a := range wrongSums(n) {
			checkWords(t, n, a, nil, api.ErrRange)
			if n > 0 {
				checkFill(t, a, make([]bool, n-1), nil, api.ErrRange)
				checkFill(t, a, slices.Repeat([]bool{true}, n-1), nil, api.ErrRange)
			}
		}
	}
}

// TestListsStayAsTheyAre hands in a piece of a list: neither it nor what lies behind it is changed, and that is not read.
func TestListsStayAsTheyAre(t *testing.T) {
	for _, text := range []string{"110111", "111000", "110010", "11000000000000000000"} {
		whole := bitsIn(text)
		l := whole[:2]
		for range 3 {
			checkSum(t, l, 0, api.OK)
			checkFill(t, 0, l, bitsIn("101"), api.OK)
			checkFill(t, 1, l, bitsIn("011"), api.OK)
			checkFill(t, 2, l, bitsIn("111"), api.OK)
			checkFill(t, 3, l, bitsIn("110"), api.OK)
			checkFill(t, 4, l, nil, api.ErrRange)
		}
		if !slices.Equal(whole, bitsIn(text)) {
			t.Errorf("the list is changed to %v", whole)
		}
	}
}

// spoil turns each bit of an answer, and what lies behind it.
func spoil(l []bool) {
	l = l[:cap(l)]
	for i := range l {
		l[i] = !l[i]
	}
}

// TestAnswersAreNew spoils what came, and asks again: neither what was handed in nor the next answer is other than before.
func TestAnswersAreNew(t *testing.T) {
	l := bitsIn("11")
	for range 3 {
		for a := range 4 {
			got, _ := Fill(a, l)
			spoil(got)
		}
		words, _ := Words(4, 0)
		words = words[:cap(words)]
		for i := range words {
			words[i] = 7
		}
		checkFill(t, 3, l, bitsIn("110"), api.OK)
		checkFill(t, 0, l, bitsIn("101"), api.OK)
		checkWords(t, 4, 0, []uint32{0, 6, 9, 15}, api.OK)
	}
	if !slices.Equal(l, bitsIn("11")) {
		t.Errorf("what was handed in is changed to %v", l)
	}
}
