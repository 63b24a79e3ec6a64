package state

import (
	"math"
	"slices"
	"testing"

	"quipu/api"
)

// wrongNumbers has numbers that are no symbol, no count of symbols, and no number of parts.
func wrongNumbers() []int {
	return []int{-1, -2, -8, 65, 100, 1 << 32, -1 << 32, 1<<32 + 1, math.MinInt32, math.MaxInt32, math.MinInt, math.MinInt + 1, math.MaxInt - 1, math.MaxInt}
}

// wrongStates has numbers below 0 or above MaxState.
func wrongStates() []int64 {
	return []int64{-1, -2, -16, api.MaxState + 1, api.MaxState + 2, 2 * api.MaxState, -api.MaxState, math.MinInt32, math.MinInt64, math.MinInt64 + 1, math.MaxInt64 - 1, math.MaxInt64}
}

// wrongParts has lists that are short enough, but have a number of parts or a total that is wrong.
func wrongParts() [][]int {
	lists := [][]int{
		nil, {}, {0}, {0, 0}, make([]int, api.MaxWords), // a total of 0
		{17}, {16, 1}, {1, 16}, {8, 8, 1}, {0, 17, 0}, {2, 2, 2, 2, 2, 2, 2, 3}, // a total of 17
		{-1}, {-1, 2}, {2, -1}, {17, -1}, {-1, 17}, {4, -2, 4}, // right in all, but not each
		{math.MaxInt, math.MaxInt, 3}, {1, math.MaxInt, math.MaxInt, 3}, {math.MaxInt, math.MinInt, 2}, {math.MinInt, math.MaxInt, 2}, {math.MinInt, math.MinInt, 1}, // right in all, were they added with wrap-round
		{1 << 62, 1 << 62, 1 << 62, 1 << 62, 1}, {1 << 32, 1}, {1<<32 + 1}, {1<<32 + 1, 1<<32 + 1},
	}
	for _, wrong := range wrongNumbers() {
		lists = append(lists, []int{wrong}, []int{1, wrong}, []int{wrong, 1}, []int{1, 0, wrong, 2, 0})
	}
	return lists
}

// longParts has lists of more than MaxWords symbols, with all else right or wrong.
func longParts() [][]int {
	return [][]int{
		{1, 1, 1, 1, 1, 1, 1, 1, 1},
		{1, 0, 0, 0, 0, 0, 0, 0, 0},
		{1, 3, 0, 0, 0, 0, 0, 0, -1},
		{-1, 17, 0, 0, 0, 0, 0, 0, 0, 0},
		{math.MaxInt, math.MaxInt, 1, 1, 1, 1, 1, 1, 1},
		make([]int, api.MaxWords+1),
		make([]int, 1<<20),
	}
}

func checkPut(t *testing.T, parts []int, x int64, s int, want int64, wantErr api.Errno) {
	t.Helper()
	if got, err := Put(parts, x, s); got != want || err != wantErr {
		t.Errorf("Put of %v, %d, %d: %d, %d, want %d, %d", parts, x, s, got, err, want, wantErr)
	}
}

func checkTake(t *testing.T, parts []int, x, want int64, wantSymbol int, wantErr api.Errno) {
	t.Helper()
	if got, s, err := Take(parts, x); got != want || s != wantSymbol || err != wantErr {
		t.Errorf("Take of %v, %d: %d, %d, %d, want %d, %d, %d", parts, x, got, s, err, want, wantSymbol, wantErr)
	}
}

func checkWrite(t *testing.T, parts, symbols []int, want int64, wantErr api.Errno) {
	t.Helper()
	if got, err := Write(parts, symbols); got != want || err != wantErr {
		t.Errorf("Write of %v, %v: %d, %d, want %d, %d", parts, symbols, got, err, want, wantErr)
	}
}

func checkRead(t *testing.T, parts []int, x int64, n int, want []int, wantErr api.Errno) {
	t.Helper()
	if got, err := Read(parts, x, n); !slices.Equal(got, want) || err != wantErr {
		t.Errorf("Read of %v, %d, %d: %v, %d, want %v, %d", parts, x, n, got, err, want, wantErr)
	}
}

// checkBack looks at a symbol that is put, and taken again.
func checkBack(t *testing.T, parts []int, x int64, s int, made int64) {
	t.Helper()
	checkPut(t, parts, x, s, made, api.OK)
	checkTake(t, parts, made, x, s, api.OK)
}

// checkText looks at a text that is written, and read again.
func checkText(t *testing.T, parts, symbols []int, made int64) {
	t.Helper()
	checkWrite(t, parts, symbols, made, api.OK)
	checkRead(t, parts, made, len(symbols), symbols, api.OK)
}

// allLists goes through all lists of so many numbers, from 0 on, that are at most so much in all.
func allLists(size, most int, see func(list []int, sum int)) {
	list := make([]int, size)
	var fill func(place, sum int)
	fill = func(place, sum int) {
		if place == size {
			see(list, sum)
			return
		}
		for number := range most - sum + 1 {
			list[place] = number
			fill(place+1, sum+number)
		}
	}
	fill(0, 0)
}

// repeated answers a list that has a symbol so many times.
func repeated(s, times int) []int {
	list := make([]int, times)
	for place := range list {
		list[place] = s
	}
	return list
}

func TestSomePuts(t *testing.T) {
	cases := []struct {
		parts []int
		x     int64
		s     int
		made  int64
	}{
		{[]int{1, 3}, 3, 1, 5}, // the document's example
		{[]int{1, 3}, 3, 0, 12},
		{[]int{1, 3}, 0, 0, 0},
		{[]int{1, 3}, 0, 1, 1},
		{[]int{1, 3}, 2, 1, 3},
		{[]int{1, 3}, 4, 1, 6},
		{[]int{1}, 0, 0, 0},
		{[]int{1}, 7, 0, 7},
		{[]int{16}, 35, 0, 35},
		{[]int{0, 5}, 13, 1, 13},
		{[]int{5, 0}, 13, 0, 13},
		{[]int{2, 0, 3}, 7, 2, 13},
		{[]int{2, 0, 3}, 7, 0, 16},
		{[]int{2, 2, 2, 2, 2, 2, 2, 2}, 5, 7, 47},
		{[]int{0, 0, 0, 0, 0, 0, 0, 1}, 9, 7, 9},
	}
	for _, c := range cases {
		checkBack(t, c.parts, c.x, c.s, c.made)
	}
}

// checkCount counts up: what Put makes of x are the numbers that are the symbol's, also beyond the total, by the order in which they come.
func checkCount(t *testing.T, parts []int, total int, upTo int64) {
	var owner []int
	for s, k := range parts {
		owner = append(owner, repeated(s, k)...)
	}
	came := make([]int64, len(parts))
	for made := range upTo {
		s := owner[made%int64(total)]
		checkBack(t, parts, came[s], s, made)
		came[s]++
	}
}

func TestAllParts(t *testing.T) {
	see := func(parts []int, total int) {
		if total > 0 {
			checkCount(t, parts, total, int64(3*total+1))
		}
	}
	for size := range 5 {
		allLists(size, api.MaxTotal, see)
	}
	for size := 5; size <= api.MaxWords; size++ {
		allLists(size, 5, see)
	}
}

// TestGreatNumbers stands at MaxState and about it.
func TestGreatNumbers(t *testing.T) {
	half := int64(api.MaxState / 2)
	checkBack(t, []int{1}, api.MaxState, 0, api.MaxState)
	checkBack(t, []int{16}, api.MaxState, 0, api.MaxState)
	checkBack(t, []int{0, 7, 0}, api.MaxState, 1, api.MaxState)
	checkBack(t, []int{1, 1}, half-1, 1, api.MaxState-1)
	checkBack(t, []int{1, 1}, half, 0, api.MaxState)
	checkPut(t, []int{1, 1}, half, 1, 0, api.ErrLarge)
	checkPut(t, []int{1, 1}, half+1, 0, 0, api.ErrLarge)
	checkPut(t, []int{1, 1}, api.MaxState, 0, 0, api.ErrLarge)
	checkBack(t, []int{1, 15}, api.MaxState/16, 0, api.MaxState)
	checkPut(t, []int{1, 15}, api.MaxState/16+1, 0, 0, api.ErrLarge)
	checkPut(t, []int{1, 15}, api.MaxState, 0, 0, api.ErrLarge)
	checkPut(t, []int{15, 1}, api.MaxState, 1, 0, api.ErrLarge)
	checkBack(t, []int{15, 1}, api.MaxState/16-1, 1, api.MaxState-1)
	checkPut(t, []int{15, 1}, api.MaxState/16, 1, 0, api.ErrLarge)
}

// TestGreatestPut takes the symbols off the greatest numbers, and puts the number behind: only what is above MaxState is too large.
func TestGreatestPut(t *testing.T) {
	allLists(3, api.MaxTotal, func(parts []int, total int) {
		if total == 0 {
			return
		}
		greatest := make([]int64, len(parts))
		for below := range int64(total) {
			x, s, err := Take(parts, api.MaxState-below)
			if err != api.OK {
				t.Fatalf("Take of %v, %d: %d", parts, api.MaxState-below, err)
			}
			checkPut(t, parts, x, s, api.MaxState-below, api.OK)
			greatest[s] = max(greatest[s], x)
		}
		for s, x := range greatest {
			if x > 0 && x < api.MaxState {
				checkPut(t, parts, x+1, s, 0, api.ErrLarge)
			}
		}
	})
}

// TestNoSuchSymbol takes symbols that are none or have no part, at any x, also where what comes of it would be too large.
func TestNoSuchSymbol(t *testing.T) {
	for _, x := range []int64{0, 1, 3, 1 << 32, api.MaxState} {
		for _, parts := range [][]int{{1}, {1, 3}, {4, 4, 4, 4}, {2, 2, 2, 2, 2, 2, 2, 2}} {
			for _, s := range append(wrongNumbers(), len(parts), len(parts)+1) {
				checkPut(t, parts, x, s, 0, api.ErrArg)
			}
		}
		checkPut(t, []int{0, 1}, x, 0, 0, api.ErrArg)
		checkPut(t, []int{1, 0}, x, 1, 0, api.ErrArg)
		checkPut(t, []int{1, 0, 2}, x, 1, 0, api.ErrArg)
		checkPut(t, []int{0, 0, 0, 0, 0, 0, 0, 16}, x, 6, 0, api.ErrArg)
	}
}

// checkPartsError looks at parts that are wrong, with all else right or wrong: they are named first.
func checkPartsError(t *testing.T, parts []int, want api.Errno) {
	t.Helper()
	for _, x := range append(wrongStates(), 0, 1, api.MaxState) {
		checkTake(t, parts, x, 0, 0, want)
		for _, s := range append(wrongNumbers(), 0, 1, 64) {
			checkPut(t, parts, x, s, 0, want)
			checkRead(t, parts, x, s, nil, want)
		}
	}
	for _, symbols := range [][]int{nil, {}, {0}, {-1}, {1, 9}, repeated(0, api.MaxText), repeated(0, api.MaxText+1), repeated(9, api.MaxText+1)} {
		checkWrite(t, parts, symbols, 0, want)
	}
}

func TestWrongParts(t *testing.T) {
	for _, parts := range wrongParts() {
		checkPartsError(t, parts, api.ErrRange)
	}
}

func TestTooManyParts(t *testing.T) {
	for _, parts := range longParts() {
		if len(parts) < 100 {
			checkPartsError(t, parts, api.ErrLarge)
		} else if _, err := Put(parts, 0, 0); err != api.ErrLarge {
			t.Errorf("Put of %d parts: %d, want ErrLarge", len(parts), err)
		}
	}
}

// TestWrongStates takes an x that is wrong, with all that is named behind it right or wrong.
func TestWrongStates(t *testing.T) {
	for _, parts := range [][]int{{1}, {16}, {1, 3}, {1, 0, 15}, {2, 2, 2, 2, 2, 2, 2, 2}} {
		for _, x := range wrongStates() {
			checkTake(t, parts, x, 0, 0, api.ErrRange)
			for _, s := range append(wrongNumbers(), 0, 1, 8, 64) {
				checkPut(t, parts, x, s, 0, api.ErrRange)
				checkRead(t, parts, x, s, nil, api.ErrRange)
			}
		}
	}
}

func TestSomeTexts(t *testing.T) {
	cases := []struct {
		parts, symbols []int
		made           int64
	}{
		{[]int{1, 3}, nil, 0},
		{[]int{1, 3}, []int{}, 0},
		{[]int{1, 3}, []int{0}, 0},
		{[]int{1, 3}, []int{1}, 1},
		{[]int{1, 3}, []int{0, 1}, 4},
		{[]int{1, 3}, []int{1, 0}, 1},
		{[]int{1, 3}, []int{1, 1}, 2},
		{[]int{1, 3}, []int{0, 1, 1, 1}, 12}, // on from the document's example
		{[]int{1, 3}, []int{1, 1, 1, 1}, 5},
		{[]int{1, 1}, []int{0, 1, 1}, 6},
		{[]int{1, 0, 1}, []int{0, 2, 2}, 6},
		{[]int{1}, repeated(0, api.MaxText), 0},
		{[]int{0, 16, 0}, repeated(1, api.MaxText), 0},
		{[]int{15, 1}, repeated(0, api.MaxText), 0},
	}
	for _, c := range cases {
		checkText(t, c.parts, c.symbols, c.made)
	}
}

// TestAllTexts writes all short texts: each is the same as its Puts, comes back, and is told from all others of its length.
func TestAllTexts(t *testing.T) {
	for _, parts := range [][]int{{1}, {0, 3}, {1, 3}, {3, 1}, {8, 8}, {2, 0, 3}, {1, 2, 13}, {5, 5, 6}, {1, 1, 1, 1}} {
		for n := range 6 {
			from := map[int64][]int{}
			allLists(n, n*(len(parts)-1), func(list []int, _ int) {
				for _, s := range list {
					if s >= len(parts) || parts[s] == 0 {
						return
					}
				}
				var x int64
				for _, s := range slices.Backward(list) {
					x, _ = Put(parts, x, s)
				}
				checkText(t, parts, list, x)
				if other, ok := from[x]; ok {
					t.Errorf("%v and %v are both %d", other, list, x)
				}
				from[x] = slices.Clone(list)
			})
			checkAllReads(t, parts, n, from)
		}
	}
}

// checkAllReads reads small numbers: what is no text's number is told so.
func checkAllReads(t *testing.T, parts []int, n int, from map[int64][]int) {
	t.Helper()
	for x := range int64(300) {
		if text, ok := from[x]; ok {
			checkRead(t, parts, x, n, text, api.OK)
		} else {
			checkRead(t, parts, x, n, nil, api.ErrForm)
		}
	}
}

// TestLongTexts stands at MaxText and MaxState.
func TestLongTexts(t *testing.T) {
	even := []int{1, 1}
	checkText(t, even, repeated(1, 40), api.MaxState-1)
	checkWrite(t, even, repeated(1, 41), 0, api.ErrLarge)
	checkText(t, even, append(repeated(0, 40), 1), api.MaxState)
	checkText(t, even, append(append(repeated(0, 40), 1), repeated(0, 23)...), api.MaxState)
	checkText(t, even, append(repeated(0, 38), 1, 1), 3<<38)
	checkWrite(t, even, append(repeated(0, 39), 1, 1), 0, api.ErrLarge)
	checkRead(t, even, api.MaxState, 40, nil, api.ErrForm)
	checkRead(t, even, api.MaxState-1, 39, nil, api.ErrForm)
	checkRead(t, []int{1}, api.MaxState, api.MaxText, nil, api.ErrForm)
	checkRead(t, []int{1}, 1, api.MaxText, nil, api.ErrForm)
	for _, parts := range [][]int{{15, 1}, {1, 15}, {3, 13}, {0, 1, 15}} {
		checkMixed(t, parts)
	}
}

// checkMixed writes texts of as many symbols as there may be, with each symbol at each place among the one that has the most parts.
func checkMixed(t *testing.T, parts []int) {
	t.Helper()
	most := slices.Index(parts, slices.Max(parts))
	for s, k := range parts {
		for place := range api.MaxText {
			text := repeated(most, api.MaxText)
			text[place] = s
			if k == 0 {
				checkWrite(t, parts, text, 0, api.ErrArg)
				continue
			}
			made, err := Write(parts, text)
			if err != api.OK {
				t.Errorf("Write of %v, %v: %d", parts, text, err)
			}
			checkText(t, parts, text, made)
		}
	}
}

// TestTooLongTexts stands above MaxText, with symbols that are right or wrong: it is named ahead of them.
func TestTooLongTexts(t *testing.T) {
	for _, parts := range [][]int{{1}, {1, 0, 15}, {1, 1}} {
		for _, more := range []int{1, 2, 100} {
			for _, s := range append(wrongNumbers(), 0, 1, 2) {
				checkWrite(t, parts, repeated(s, api.MaxText+more), 0, api.ErrLarge)
			}
		}
		for _, n := range []int{api.MaxText + 1, api.MaxText + 2, 1 << 32, math.MaxInt32, math.MaxInt - 1, math.MaxInt} {
			checkRead(t, parts, 0, n, nil, api.ErrLarge)
			checkRead(t, parts, api.MaxState, n, nil, api.ErrLarge)
		}
	}
}

// TestCountBelowZero is named ahead of what is left of x.
func TestCountBelowZero(t *testing.T) {
	for _, n := range []int{-1, -2, -64, -1 << 32, math.MinInt32, math.MinInt, math.MinInt + 1} {
		for _, x := range []int64{0, 1, 5, api.MaxState} {
			checkRead(t, []int{1, 3}, x, n, nil, api.ErrRange)
		}
	}
}

func TestNothingRead(t *testing.T) {
	checkRead(t, []int{1, 3}, 0, 0, nil, api.OK)
	for _, x := range []int64{1, 2, 4, api.MaxState} {
		checkRead(t, []int{1, 3}, x, 0, nil, api.ErrForm)
	}
}

// TestLastSymbolFirst has several symbols that are wrong, or too many: the last one's error is told.
func TestLastSymbolFirst(t *testing.T) {
	even := []int{1, 1, 0}
	for _, s := range append(wrongNumbers(), 2, 3) {
		checkWrite(t, even, []int{s}, 0, api.ErrArg)
		checkWrite(t, even, []int{s, 0, 1}, 0, api.ErrArg)
		checkWrite(t, even, []int{0, 1, s}, 0, api.ErrArg)
		checkWrite(t, even, append([]int{s}, repeated(1, 40)...), 0, api.ErrArg)
		checkWrite(t, even, append([]int{s}, repeated(1, 41)...), 0, api.ErrLarge)
		checkWrite(t, even, append(repeated(1, 41), s), 0, api.ErrArg)
	}
}

// TestListsAreLeftAlone looks at what was handed in, and whether what lies behind its length is read.
func TestListsAreLeftAlone(t *testing.T) {
	parts, symbols := []int{1, 3, 5, 99, -1}, []int{1, 1, 1, 1, 2, 9}
	wasParts, wasSymbols := slices.Clone(parts), slices.Clone(symbols)
	checkBack(t, parts[:2], 3, 1, 5)
	checkText(t, parts[:2], symbols[:4], 5)
	checkPut(t, parts[:2], 3, 2, 0, api.ErrArg)
	checkWrite(t, parts[:2], symbols, 0, api.ErrArg)
	checkRead(t, parts[:2], 5, 1, nil, api.ErrForm)
	if !slices.Equal(parts, wasParts) || !slices.Equal(symbols, wasSymbols) {
		t.Errorf("%v, %v are changed to %v, %v", wasParts, wasSymbols, parts, symbols)
	}
}

// TestAnswersAreNew spoils an answer, up to its capacity, and asks again.
func TestAnswersAreNew(t *testing.T) {
	parts := []int{1, 3}
	want := []int{0, 1, 1, 1}
	got, _ := Read(parts, 12, 4)
	got = got[:cap(got)]
	for place := range got {
		got[place] = -7
	}
	checkRead(t, parts, 12, 4, want, api.OK)
	if !slices.Equal(parts, []int{1, 3}) {
		t.Errorf("the parts are changed to %v", parts)
	}
}
