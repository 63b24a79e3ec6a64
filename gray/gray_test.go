package gray

import (
	"math"
	"math/bits"
	"slices"
	"testing"

	"quipu/api"
)

// maxBits is how many bits a word may have.
const maxBits = 12

// maxOwnRound is how many bits may come once each in a Round.
const maxOwnRound = 6

// wrongCounts has numbers that are below 0 or above maxBits.
func wrongCounts() []int {
	return []int{-1, -2, -12, -13, 13, 14, 31, 32, 33, 63, 64, 65, 100, 1 << 32, -1 << 32, 1<<32 + 3, math.MinInt32, math.MaxInt32, math.MinInt, math.MinInt + 1, math.MaxInt - 1, math.MaxInt}
}

// wrongWords has words that are not below 2^n.
func wrongWords(n int) []uint32 {
	words := []uint32{1<<n + 1, 3 << n, math.MaxUint32, math.MaxUint32 - 1, math.MaxUint32 << n}
	for at := n; at < 32; at++ {
		words = append(words, 1<<at)
	}
	return words
}

// bitsOf has the bits of a text of zeros and ones.
func bitsOf(text string) []bool {
	var l []bool
	for _, c := range text {
		l = append(l, c == '1')
	}
	return l
}

// ownOrder has the words of n bits in order, as the document has it.
func ownOrder(n int) []uint32 {
	words := []uint32{0}
	for bit := range n {
		back := slices.Clone(words)
		slices.Reverse(back)
		for _, w := range back {
			words = append(words, w+1<<bit)
		}
	}
	return words
}

// ownRound looks through all that came for each bit anew.
func ownRound(n int) []bool {
	l := make([]bool, n)
	for len(l) < 1<<n {
		longer := append(slices.Clone(l), true)
		end := longer[len(longer)-n:]
		for at := range len(l) - n + 1 {
			if slices.Equal(l[at:at+n], end) {
				longer[len(l)] = false
				break
			}
		}
		l = longer
	}
	return l
}

func checkCode(t *testing.T, n int, i, want uint32, wantErr api.Errno) {
	t.Helper()
	if got, err := Code(n, i); got != want || err != wantErr {
		t.Errorf("Code of %d, %d: %d, %d, want %d, %d", n, i, got, err, want, wantErr)
	}
}

func checkPlace(t *testing.T, n int, w, want uint32, wantErr api.Errno) {
	t.Helper()
	if got, err := Place(n, w); got != want || err != wantErr {
		t.Errorf("Place of %d, %d: %d, %d, want %d, %d", n, w, got, err, want, wantErr)
	}
}

func checkRound(t *testing.T, n int, want []bool, wantErr api.Errno) {
	t.Helper()
	if got, err := Round(n); !slices.Equal(got, want) || err != wantErr {
		t.Errorf("Round of %d: %v, %d, want %v, %d", n, got, err, want, wantErr)
	}
}

// TestAllWords has each count of bits, and each word of those.
func TestAllWords(t *testing.T) {
	for n := range maxBits + 1 {
		for i, w := range ownOrder(n) {
			checkCode(t, n, uint32(i), w, api.OK)
			checkPlace(t, n, w, uint32(i), api.OK)
		}
	}
}

// TestSomeWords has named words.
func TestSomeWords(t *testing.T) {
	cases := []struct {
		name string
		n    int
		i, w uint32
	}{
		{"the first of the document's example", 2, 0, 0},
		{"the second of the document's example", 2, 1, 1},
		{"the third of the document's example", 2, 2, 3},
		{"the last of the document's example", 2, 3, 2},
		{"of no bit", 0, 0, 0},
		{"of one bit, the first", 1, 0, 0},
		{"of one bit, the last", 1, 1, 1},
		{"the last one without the greatest bit", 3, 3, 2},
		{"the first one with the greatest bit", 3, 4, 6},
		{"the last one", 3, 7, 4},
		{"all bits", 3, 5, 7},
		{"the second one, of the most bits", 12, 1, 1},
		{"the last one without the greatest bit, of the most bits", 12, 2047, 1024},
		{"the first one with the greatest bit, of the most bits", 12, 2048, 3072},
		{"all bits, of the most", 12, 2730, 4095},
		{"the last one, of the most bits", 12, 4095, 2048},
	}
	for _, c := range cases {
		t.Run(c.name, func(t *testing.T) {
			checkCode(t, c.n, c.i, c.w, api.OK)
			checkPlace(t, c.n, c.w, c.i, api.OK)
		})
	}
}

// TestOneBitIsTurned goes from each word to the next one, and from the last one to the first.
func TestOneBitIsTurned(t *testing.T) {
	for n := 1; n <= maxBits; n++ {
		last, err := Code(n, 1<<n-1)
		if err != api.OK {
			t.Fatalf("Code of %d, %d: %d", n, 1<<n-1, err)
		}
		for i := range uint32(1) << n {
			w, err := Code(n, i)
			if err != api.OK || bits.OnesCount32(w^last) != 1 {
				t.Errorf("Code of %d, %d: %d, %d, behind %d", n, i, w, err, last)
			}
			last = w
		}
	}
}

// TestAllRounds has each count of bits.
func TestAllRounds(t *testing.T) {
	for n := 1; n <= maxOwnRound; n++ {
		checkRound(t, n, ownRound(n), api.OK)
	}
}

// TestSomeRounds has named counts of bits.
func TestSomeRounds(t *testing.T) {
	cases := []struct {
		name string
		n    int
		want string
	}{
		{"the document's example", 2, "0011"},
		{"one bit", 1, "01"},
		{"three bits", 3, "00011101"},
		{"four bits", 4, "0000111101100101"},
		{"five bits", 5, "00000111110111001101011000101001"},
		{"the most bits", 6, "0000001111110111100111010111000110110100110010110000101010001001"},
	}
	for _, c := range cases {
		t.Run(c.name, func(t *testing.T) {
			checkRound(t, c.n, bitsOf(c.want), api.OK)
		})
	}
}

// TestAllBitsComeOnce goes once round: each n bits stand there at one place alone.
func TestAllBitsComeOnce(t *testing.T) {
	for n := 1; n <= maxOwnRound; n++ {
		l, err := Round(n)
		if err != api.OK || len(l) != 1<<n {
			t.Fatalf("Round of %d: %v, %d", n, l, err)
		}
		seen := map[int]int{}
		for at := range l {
			w := 0
			for i := range n {
				w *= 2
				if l[(at+i)%len(l)] {
					w++
				}
			}
			seen[w]++
		}
		if len(seen) != 1<<n {
			t.Errorf("Round of %d has %d of all bits", n, len(seen))
		}
	}
}

// TestWrongCounts has each word right or wrong; the count of bits is named first.
func TestWrongCounts(t *testing.T) {
	for _, n := range wrongCounts() {
		for _, w := range []uint32{0, 1, 2, 4095, 4096, 8191, 1 << 31, math.MaxUint32} {
			checkCode(t, n, w, 0, api.ErrLarge)
			checkPlace(t, n, w, 0, api.ErrLarge)
		}
	}
}

// TestWrongWords has counts of bits that are right.
func TestWrongWords(t *testing.T) {
	for n := range maxBits + 1 {
		for _, w := range wrongWords(n) {
			checkCode(t, n, w, 0, api.ErrRange)
			checkPlace(t, n, w, 0, api.ErrRange)
		}
	}
}

// TestWrongRounds has counts below 1 or above 6.
func TestWrongRounds(t *testing.T) {
	for _, n := range append(wrongCounts(), 0, 7, 8, 9, 10, 11, 12) {
		checkRound(t, n, nil, api.ErrRange)
	}
}

// TestAnswersAreNew spoils what came, and asks again.
func TestAnswersAreNew(t *testing.T) {
	for n := 1; n <= maxOwnRound; n++ {
		for range 3 {
			got, _ := Round(n)
			got = got[:cap(got)]
			for i := range got {
				got[i] = !got[i]
			}
			checkRound(t, n, ownRound(n), api.OK)
		}
	}
}
