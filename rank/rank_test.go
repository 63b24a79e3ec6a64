package rank

import (
	"math"
	"math/bits"
	"slices"
	"testing"

	"quipu/api"
)

// wrongCounts has numbers that are below 0 or far above each limit.
func wrongCounts() []int {
	return []int{-1, -2, -12, 100, 1 << 32, -1 << 32, 1<<32 + 3, math.MinInt32, math.MaxInt32, math.MinInt, math.MinInt + 1, math.MaxInt}
}

// wrongRanks has numbers that are below 0 or above the rank of each word and list.
func wrongRanks() []int64 {
	return []int64{-1, -2, -40320, 40321, 1 << 32, -1 << 32, math.MinInt32, math.MaxInt32, math.MinInt64, math.MinInt64 + 1, math.MaxInt64}
}

func checkMany(t *testing.T, n, k int, want int64, wantErr api.Errno) {
	t.Helper()
	if got, err := Many(n, k); got != want || err != wantErr {
		t.Errorf("Many of %d, %d: %d, %d, want %d, %d", n, k, got, err, want, wantErr)
	}
}

func checkRank(t *testing.T, n int, w uint32, want int64, wantErr api.Errno) {
	t.Helper()
	if got, err := Rank(n, w); got != want || err != wantErr {
		t.Errorf("Rank of %d, %d: %d, %d, want %d, %d", n, w, got, err, want, wantErr)
	}
}

func checkWord(t *testing.T, n, k int, i int64, want uint32, wantErr api.Errno) {
	t.Helper()
	if got, err := Word(n, k, i); got != want || err != wantErr {
		t.Errorf("Word of %d, %d, %d: %d, %d, want %d, %d", n, k, i, got, err, want, wantErr)
	}
}

func checkOrder(t *testing.T, l []int, want int64, wantErr api.Errno) {
	t.Helper()
	if got, err := Order(l); got != want || err != wantErr {
		t.Errorf("Order of %v: %d, %d, want %d, %d", l, got, err, want, wantErr)
	}
}

func checkList(t *testing.T, n int, i int64, want []int, wantErr api.Errno) {
	t.Helper()
	if got, err := List(n, i); !slices.Equal(got, want) || err != wantErr {
		t.Errorf("List of %d, %d: %v, %d, want %v, %d", n, i, got, err, want, wantErr)
	}
}

func TestSomeWords(t *testing.T) {
	cases := []struct {
		n, k int
		many int64
		w    uint32
		rank int64
	}{
		{0, 0, 1, 0, 0}, // 0 is the only number below 2^0
		{1, 0, 1, 0, 0},
		{1, 1, 1, 1, 0},
		{3, 2, 3, 3, 0}, // the document's example
		{3, 2, 3, 5, 1},
		{3, 2, 3, 6, 2},
		{4, 2, 6, 9, 3},
		{5, 2, 10, 9, 3}, // bits above the word's own change no rank
		{12, 0, 1, 0, 0},
		{12, 12, 1, 4095, 0},
		{12, 1, 12, 2048, 11},
		{12, 11, 12, 4094, 11},
		{12, 6, 924, 63, 0},
		{12, 6, 924, 4032, 923},
	}
	for _, c := range cases {
		checkMany(t, c.n, c.k, c.many, api.OK)
		checkRank(t, c.n, c.w, c.rank, api.OK)
		checkWord(t, c.n, c.k, c.rank, c.w, api.OK)
	}
}

// TestAllWords goes through each word there is, in order, and counts those with as many ones.
func TestAllWords(t *testing.T) {
	for n := range api.MaxBits + 1 {
		came := make([]int64, n+1)
		for w := range uint32(1) << n {
			k := bits.OnesCount32(w)
			checkRank(t, n, w, came[k], api.OK)
			checkWord(t, n, k, came[k], w, api.OK)
			came[k]++
		}
		for k, many := range came {
			checkMany(t, n, k, many, api.OK)
			checkWord(t, n, k, many, 0, api.ErrNone)
			checkWord(t, n, k, many+1, 0, api.ErrNone)
			for _, i := range wrongRanks() {
				checkWord(t, n, k, i, 0, api.ErrNone)
			}
		}
	}
}

// TestNoSuchBits takes counts of bits that are too large, with all else right or wrong: they are named first.
func TestNoSuchBits(t *testing.T) {
	for _, n := range append(wrongCounts(), api.MaxBits+1, api.MaxBits+2) {
		for _, k := range append(wrongCounts(), 0, 1, n, n+1) {
			checkMany(t, n, k, 0, api.ErrLarge)
			for _, i := range append(wrongRanks(), 0, 1) {
				checkWord(t, n, k, i, 0, api.ErrLarge)
			}
		}
		for _, w := range []uint32{0, 1, 4095, 4096, 1 << 31, math.MaxUint32} {
			checkRank(t, n, w, 0, api.ErrLarge)
		}
	}
}

// TestNoSuchOnes takes counts of ones that no word has, with any rank: they are named ahead of it.
func TestNoSuchOnes(t *testing.T) {
	for n := range api.MaxBits + 1 {
		for _, k := range append(wrongCounts(), n+1, n+2, api.MaxBits+1) {
			checkMany(t, n, k, 0, api.ErrRange)
			for _, i := range append(wrongRanks(), 0, 1) {
				checkWord(t, n, k, i, 0, api.ErrRange)
			}
		}
	}
}

func TestNoSuchWord(t *testing.T) {
	for n := range api.MaxBits + 1 {
		above := uint32(1) << n
		for _, w := range []uint32{above, above + 1, 2*above - 1, 2 * above, 1 << 13, 1 << 16, 1 << 31, math.MaxUint32 - 1, math.MaxUint32} {
			checkRank(t, n, w, 0, api.ErrRange)
		}
	}
}

func TestSomeLists(t *testing.T) {
	cases := []struct {
		list  []int
		order int64
	}{
		{nil, 0},
		{[]int{}, 0},
		{[]int{0}, 0},
		{[]int{0, 1}, 0},
		{[]int{1, 0}, 1},
		{[]int{1, 0, 2}, 2}, // the document's example
		{[]int{1, 2, 0}, 3},
		{[]int{2, 0, 1}, 4},
		{[]int{3, 2, 1, 0}, 23},
		{[]int{0, 1, 2, 3, 4, 5, 6, 7}, 0},
		{[]int{1, 0, 2, 3, 4, 5, 6, 7}, 5040},
		{[]int{7, 0, 1, 2, 3, 4, 5, 6}, 35280},
		{[]int{7, 6, 5, 4, 3, 2, 1, 0}, 40319},
	}
	for _, c := range cases {
		checkOrder(t, c.list, c.order, api.OK)
		checkList(t, len(c.list), c.order, c.list, api.OK)
	}
}

// allTuples goes through all lists of so many numbers, each from 0 to below most, that with the lesser number where both first differ ahead of the other.
func allTuples(size, most int, see func([]int)) {
	list := make([]int, size)
	for {
		see(list)
		place := size - 1
		for place >= 0 && list[place] == most-1 {
			list[place] = 0
			place--
		}
		if place < 0 {
			return
		}
		list[place]++
	}
}

// hasTwice tells whether a number comes more than once.
func hasTwice(list []int) bool {
	var seen uint64
	for _, number := range list {
		seen |= 1 << number
	}
	return bits.OnesCount64(seen) != len(list)
}

// TestAllLists goes through all lists of numbers up to the length itself, in order: those that have each number below it once are told by how many came, and the others are none.
func TestAllLists(t *testing.T) {
	for n := range 7 {
		var came int64
		allTuples(n, n+1, func(list []int) {
			if hasTwice(list) || slices.Contains(list, n) {
				checkOrder(t, list, 0, api.ErrForm)
				return
			}
			checkOrder(t, list, came, api.OK)
			checkList(t, n, came, list, api.OK)
			came++
		})
		checkList(t, n, came, nil, api.ErrNone)
	}
}

// TestLongLists goes through all lists of as many numbers as there may be, and one less, by the order of what List answers.
func TestLongLists(t *testing.T) {
	for n, many := range map[int]int64{api.MaxWords - 1: 5040, api.MaxWords: 40320} {
		last := []int{}
		for i := range many {
			list, err := List(n, i)
			if err != api.OK || len(list) != n || hasTwice(list) || slices.Min(list) != 0 || slices.Max(list) != n-1 {
				t.Fatalf("List of %d, %d: %v, %d", n, i, list, err)
			}
			if slices.Compare(last, list) >= 0 {
				t.Fatalf("List of %d, %d: %v, not behind %v", n, i, list, last)
			}
			checkOrder(t, list, i, api.OK)
			last = list
		}
		checkList(t, n, many, nil, api.ErrNone)
	}
}

// TestOrderNone puts a wrong number at each place of a list that else is right.
func TestOrderNone(t *testing.T) {
	for n := 1; n <= api.MaxWords; n++ {
		for place := range n {
			for _, wrong := range append(wrongCounts(), n, n+1, (place+1)%n+n, -n) {
				list, _ := List(n, 0)
				list[place] = wrong
				checkOrder(t, list, 0, api.ErrForm)
			}
			for other := range n {
				list, _ := List(n, orders(n)-1)
				if list[place] != other {
					list[place] = other
					checkOrder(t, list, 0, api.ErrForm)
				}
			}
		}
	}
}

func TestListNone(t *testing.T) {
	many := int64(1)
	for n := range api.MaxWords + 1 {
		many *= int64(max(n, 1))
		for _, i := range append(wrongRanks(), many, many+1, 2*many) {
			checkList(t, n, i, nil, api.ErrNone)
		}
	}
}

// TestListsTooLarge stands above MaxWords, with all else right or wrong: it is named first.
func TestListsTooLarge(t *testing.T) {
	for _, n := range []int{api.MaxWords + 1, api.MaxWords + 2, 100, 1 << 20} {
		checkOrder(t, numbersBelow(n), 0, api.ErrLarge)
		if got, err := Order(make([]int, n)); got != 0 || err != api.ErrLarge {
			t.Errorf("Order of %d zeros: %d, %d, want ErrLarge", n, got, err)
		}
	}
	for _, n := range append(wrongCounts(), api.MaxWords+1, api.MaxWords+2, 20, 21, 66) {
		for _, i := range append(wrongRanks(), 0, 1) {
			checkList(t, n, i, nil, api.ErrLarge)
		}
	}
}

// TestListsAreLeftAlone looks at what was handed in, and whether what lies behind its length is read.
func TestListsAreLeftAlone(t *testing.T) {
	for n := range api.MaxWords + 1 {
		for i := range orders(n) {
			list, _ := List(n, i)
			long := append(slices.Clone(list), 0, n, -1)
			was := slices.Clone(long)
			checkOrder(t, long[:n], i, api.OK)
			if !slices.Equal(long, was) {
				t.Fatalf("%v is changed to %v", was, long)
			}
		}
	}
	list, was := []int{0, 2, 2, 1, 3}, []int{0, 2, 2, 1, 3}
	checkOrder(t, list[:3], 0, api.ErrForm)
	checkOrder(t, list, 0, api.ErrForm)
	if !slices.Equal(list, was) {
		t.Errorf("%v is changed to %v", was, list)
	}
}

// TestAnswersAreNew spoils an answer, up to its capacity, and asks again.
func TestAnswersAreNew(t *testing.T) {
	for n := range api.MaxWords + 1 {
		list, _ := List(n, orders(n)-1)
		want := slices.Clone(list)
		list = list[:cap(list)]
		for place := range list {
			list[place] = -7
		}
		checkList(t, n, orders(n)-1, want, api.OK)
		checkOrder(t, want, orders(n)-1, api.OK)
	}
}
