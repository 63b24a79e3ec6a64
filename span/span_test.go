package span

import (
	"math"
	"slices"
	"testing"

	"quipu/api"
)

// wrongCounts has numbers that are below 0 or above MaxBits.
func wrongCounts() []int {
	return []int{-1, -2, -12, 13, 14, 31, 32, 33, 63, 64, 65, 100, 1 << 32, -1 << 32, 1<<32 + 3, math.MinInt32, math.MaxInt32, math.MinInt, math.MinInt + 1, math.MaxInt - 1, math.MaxInt}
}

// wrongWords has numbers that are no words of n bits.
func wrongWords(n int) []uint32 {
	words := []uint32{4096, 4097, 1 << 16, 1<<31 - 1, math.MaxUint32 - 1, math.MaxUint32}
	for bit := n; bit < 32; bit++ {
		words = append(words, 1<<bit, 1<<bit|(1<<n-1))
	}
	return words
}

// wordsBelow answers the numbers below the given one, rising.
func wordsBelow(end int) []uint32 {
	words := make([]uint32, end)
	for place := range words {
		words[place] = uint32(place)
	}
	return words
}

// allRows has each list of at most max of the words, those with a word twice among them.
func allRows(max int, from []uint32) [][]uint32 {
	lists := [][]uint32{nil}
	for i := 0; i < len(lists); i++ {
		if len(lists[i]) == max {
			continue
		}
		for _, w := range from {
			lists = append(lists, append(slices.Clone(lists[i]), w))
		}
	}
	return lists
}

// allData has each list of so many bits.
func allData(count int) [][]bool {
	lists := [][]bool{nil}
	for len(lists[0]) < count {
		short := lists[0]
		lists = append(lists[1:], append(slices.Clone(short), false), append(slices.Clone(short), true))
	}
	return lists
}

// hasBit tells whether the word has the bit, without a shift.
func hasBit(w uint32, bit int) bool {
	for range bit {
		w /= 2
	}
	return w%2 == 1
}

// countOf counts the bits of the word one by one.
func countOf(n int, w uint32) int {
	count := 0
	for bit := range n {
		if hasBit(w, bit) {
			count++
		}
	}
	return count
}

// addUp goes bit by bit and counts the words that have it, as the document tells it.
func addUp(n int, words ...uint32) uint32 {
	var sum, value uint32 = 0, 1
	for bit := range n {
		count := 0
		for _, w := range words {
			if hasBit(w, bit) {
				count++
			}
		}
		if count%2 == 1 {
			sum += value
		}
		value *= 2
	}
	return sum
}

// spanOf starts from the sum of none, and adds a row to a word that it has until no other word comes of that.
func spanOf(n int, rows []uint32) []uint32 {
	has := make([]bool, 1<<n)
	has[0] = true
	found := []uint32{0}
	for i := 0; i < len(found); i++ {
		for _, row := range rows {
			if sum := addUp(n, found[i], row); !has[sum] {
				has[sum] = true
				found = append(found, sum)
			}
		}
	}
	return wordsThat(n, func(w uint32) bool { return has[w] })
}

// sizeOf tries which of the rows have the same Span, and takes the fewest.
func sizeOf(n int, rows []uint32) int {
	want := spanOf(n, rows)
	least := len(rows)
	for _, data := range allData(len(rows)) {
		if some := rowsOf(rows, data); len(some) < least && slices.Equal(spanOf(n, some), want) {
			least = len(some)
		}
	}
	return least
}

// rowsOf has those rows whose data is set.
func rowsOf(rows []uint32, data []bool) []uint32 {
	var some []uint32
	for place, isSet := range data {
		if isSet {
			some = append(some, rows[place])
		}
	}
	return some
}

// dualOf counts the bits that a word and a row both have one by one.
func dualOf(n int, rows []uint32) []uint32 {
	return wordsThat(n, func(w uint32) bool {
		for _, row := range rows {
			both := 0
			for bit := range n {
				if hasBit(w, bit) && hasBit(row, bit) {
					both++
				}
			}
			if both%2 != 0 {
				return false
			}
		}
		return true
	})
}

// wordsThat has the words of n bits of which is holds, rising.
func wordsThat(n int, is func(w uint32) bool) []uint32 {
	var words []uint32
	for _, w := range wordsBelow(1 << n) {
		if is(w) {
			words = append(words, w)
		}
	}
	return words
}

// weightsOf asks for each number of bits how many words of the Span have it.
func weightsOf(n int, rows []uint32) []int64 {
	var weights []int64
	words := spanOf(n, rows)
	for weight := range n + 1 {
		var many int64
		for _, w := range words {
			if countOf(n, w) == weight {
				many++
			}
		}
		weights = append(weights, many)
	}
	return weights
}

func checkSpan(t *testing.T, n int, rows, want []uint32, wantErr api.Errno) {
	t.Helper()
	if got, err := Span(n, rows); !slices.Equal(got, want) || err != wantErr {
		t.Errorf("Span of %d, %v: %v, %d, want %v, %d", n, rows, got, err, want, wantErr)
	}
}

func checkSize(t *testing.T, n int, rows []uint32, want int, wantErr api.Errno) {
	t.Helper()
	if got, err := Size(n, rows); got != want || err != wantErr {
		t.Errorf("Size of %d, %v: %d, %d, want %d, %d", n, rows, got, err, want, wantErr)
	}
}

func checkDual(t *testing.T, n int, rows, want []uint32, wantErr api.Errno) {
	t.Helper()
	if got, err := Dual(n, rows); !slices.Equal(got, want) || err != wantErr {
		t.Errorf("Dual of %d, %v: %v, %d, want %v, %d", n, rows, got, err, want, wantErr)
	}
}

func checkWeights(t *testing.T, n int, rows []uint32, want []int64, wantErr api.Errno) {
	t.Helper()
	if got, err := Weights(n, rows); !slices.Equal(got, want) || err != wantErr {
		t.Errorf("Weights of %d, %v: %v, %d, want %v, %d", n, rows, got, err, want, wantErr)
	}
}

func checkPut(t *testing.T, n int, rows []uint32, data []bool, want uint32, wantErr api.Errno) {
	t.Helper()
	if got, err := Put(n, rows, data); got != want || err != wantErr {
		t.Errorf("Put of %d, %v, %v: %d, %d, want %d, %d", n, rows, data, got, err, want, wantErr)
	}
}

// checkGoodRows asks all there is to ask of rows that are not wrong.
func checkGoodRows(t *testing.T, n int, rows []uint32) {
	t.Helper()
	checkSpan(t, n, rows, spanOf(n, rows), api.OK)
	checkSize(t, n, rows, sizeOf(n, rows), api.OK)
	checkDual(t, n, rows, dualOf(n, rows), api.OK)
	checkWeights(t, n, rows, weightsOf(n, rows), api.OK)
	checkAllPut(t, n, rows)
}

// checkAllPut has all data there are for the rows, and some that are too short or too long.
func checkAllPut(t *testing.T, n int, rows []uint32) {
	t.Helper()
	for _, data := range allData(len(rows)) {
		checkPut(t, n, rows, data, addUp(n, rowsOf(rows, data)...), api.OK)
	}
	for count := range api.MaxRows + 3 {
		if count != len(rows) {
			checkPut(t, n, rows, make([]bool, count), 0, api.ErrForm)
			checkPut(t, n, rows, slices.Repeat([]bool{true}, count), 0, api.ErrForm)
		}
	}
}

// checkFault has rows at fault: all calls tell that, and Put does whatever the data are.
func checkFault(t *testing.T, n int, rows []uint32, want api.Errno) {
	t.Helper()
	checkSpan(t, n, rows, nil, want)
	checkSize(t, n, rows, 0, want)
	checkDual(t, n, rows, nil, want)
	checkWeights(t, n, rows, nil, want)
	checkPut(t, n, rows, nil, 0, want)
	for _, count := range []int{0, 1, 7, 8, 9, len(rows), len(rows) + 1} {
		checkPut(t, n, rows, make([]bool, count), 0, want)
		checkPut(t, n, rows, slices.Repeat([]bool{true}, count), 0, want)
	}
}

// TestAllFewRows has each list of few rows of few bits, and of some numbers that are no such words.
func TestAllFewRows(t *testing.T) {
	for n := range 4 {
		for _, rows := range allRows(4, wordsBelow(1<<n+2)) {
			if len(rows) > 0 && slices.Max(rows) >= 1<<n {
				checkFault(t, n, rows, api.ErrRange)
				continue
			}
			checkGoodRows(t, n, rows)
		}
	}
}

// TestGreatRows has rows of up to as many bits, and up to as many rows, as there may be.
func TestGreatRows(t *testing.T) {
	for n := range api.MaxBits + 1 {
		for count := range api.MaxRows + 1 {
			for _, factor := range []uint32{0, 1, 5, 37, 256, 2047} {
				rows := make([]uint32, count)
				for place := range rows {
					next := uint32(place + 1)
					rows[place] = (next*next*factor + next) % (1 << n)
				}
				checkGoodRows(t, n, rows)
			}
		}
	}
}

func TestSomeSpans(t *testing.T) {
	cases := []struct {
		name    string
		n       int
		rows    []uint32
		span    []uint32
		size    int
		dual    []uint32
		weights []int64
	}{
		{"the document's example", 3, []uint32{3, 6}, []uint32{0, 3, 5, 6}, 2, []uint32{0, 7}, []int64{1, 0, 3, 0}},
		{"turned round", 3, []uint32{6, 3}, []uint32{0, 3, 5, 6}, 2, []uint32{0, 7}, []int64{1, 0, 3, 0}},
		{"and their sum", 3, []uint32{3, 6, 5}, []uint32{0, 3, 5, 6}, 2, []uint32{0, 7}, []int64{1, 0, 3, 0}},
		{"no row", 2, nil, []uint32{0}, 0, []uint32{0, 1, 2, 3}, []int64{1, 0, 0}},
		{"a row without a bit", 2, []uint32{0}, []uint32{0}, 0, []uint32{0, 1, 2, 3}, []int64{1, 0, 0}},
		{"a row twice", 2, []uint32{2, 2}, []uint32{0, 2}, 1, []uint32{0, 1}, []int64{1, 1, 0}},
		{"a row three times", 2, []uint32{3, 3, 3}, []uint32{0, 3}, 1, []uint32{0, 3}, []int64{1, 0, 1}},
		{"all words", 2, []uint32{1, 2, 3}, []uint32{0, 1, 2, 3}, 2, []uint32{0}, []int64{1, 2, 1}},
		{"no bit and no row", 0, nil, []uint32{0}, 0, []uint32{0}, []int64{1}},
		{"no bit", 0, []uint32{0, 0}, []uint32{0}, 0, []uint32{0}, []int64{1}},
		{"one bit", 1, []uint32{1}, []uint32{0, 1}, 1, []uint32{0}, []int64{1, 1}},
		{"its own Dual", 2, []uint32{3}, []uint32{0, 3}, 1, []uint32{0, 3}, []int64{1, 0, 1}},
		{"four bits", 4, []uint32{12, 3}, []uint32{0, 3, 12, 15}, 2, []uint32{0, 3, 12, 15}, []int64{1, 0, 2, 0, 1}},
	}
	for _, c := range cases {
		t.Run(c.name, func(t *testing.T) {
			checkSpan(t, c.n, c.rows, c.span, api.OK)
			checkSize(t, c.n, c.rows, c.size, api.OK)
			checkDual(t, c.n, c.rows, c.dual, api.OK)
			checkWeights(t, c.n, c.rows, c.weights, api.OK)
		})
	}
}

// TestMostRows has as many rows as there may be, none of which is a sum of others: as many sums as can be.
func TestMostRows(t *testing.T) {
	low := []uint32{1, 2, 4, 8, 16, 32, 64, 128}
	high := []uint32{16, 32, 64, 128, 256, 512, 1024, 2048}
	var sums []uint32
	for _, w := range wordsBelow(256) {
		sums = append(sums, 16*w)
	}
	checkSpan(t, 8, low, wordsBelow(256), api.OK)
	checkSpan(t, 12, low, wordsBelow(256), api.OK)
	checkSpan(t, 12, high, sums, api.OK)
	checkSize(t, 12, high, 8, api.OK)
	checkDual(t, 8, low, []uint32{0}, api.OK)
	checkDual(t, 12, high, wordsBelow(16), api.OK)
	checkWeights(t, 8, low, []int64{1, 8, 28, 56, 70, 56, 28, 8, 1}, api.OK)
	checkWeights(t, 12, high, []int64{1, 8, 28, 56, 70, 56, 28, 8, 1, 0, 0, 0, 0}, api.OK)
	checkWeights(t, 12, []uint32{4095}, []int64{1, 0, 0, 0, 0, 0, 0, 0, 0, 0, 0, 0, 1}, api.OK)
	checkDual(t, 12, nil, wordsBelow(4096), api.OK)
}

func TestSomePut(t *testing.T) {
	cases := []struct {
		n    int
		rows []uint32
		data []bool
		want uint32
	}{
		{3, nil, nil, 0},
		{3, []uint32{}, []bool{}, 0},
		{0, nil, nil, 0},
		{0, []uint32{0}, []bool{true}, 0},
		{3, []uint32{3, 6}, []bool{false, false}, 0},
		{3, []uint32{3, 6}, []bool{true, false}, 3},
		{3, []uint32{3, 6}, []bool{false, true}, 6},
		{3, []uint32{3, 6}, []bool{true, true}, 5},
		{3, []uint32{5, 5}, []bool{true, true}, 0},
		{3, []uint32{5, 5, 5}, []bool{true, true, true}, 5},
		{12, []uint32{4095, 1}, []bool{true, true}, 4094},
		{12, []uint32{1, 2, 4, 8, 16, 32, 64, 2048}, []bool{true, false, true, false, true, false, true, true}, 2133},
	}
	for _, c := range cases {
		checkPut(t, c.n, c.rows, c.data, c.want, api.OK)
	}
}

// TestDualOfDual takes words of the Dual that have all of it as their sums: their Dual is the Span.
func TestDualOfDual(t *testing.T) {
	for _, c := range []struct {
		n    int
		rows []uint32
	}{
		{0, nil}, {3, []uint32{3, 6}}, {8, nil}, {7, []uint32{15, 51, 85}}, {8, []uint32{15, 51, 85, 255}},
		{12, []uint32{1, 2, 4, 8}}, {12, []uint32{4095, 2730, 819, 15}}, {12, []uint32{1, 3, 7, 15, 31, 63, 127, 255}},
	} {
		dual, err := Dual(c.n, c.rows)
		if err != api.OK {
			t.Fatalf("Dual of %d, %v: %d", c.n, c.rows, err)
		}
		var base []uint32
		for _, w := range dual {
			if sums := spanOf(c.n, base); !slices.Contains(sums, w) {
				base = append(base, w)
			}
		}
		checkSpan(t, c.n, base, dual, api.OK)
		checkDual(t, c.n, base, spanOf(c.n, c.rows), api.OK)
	}
}

// TestWrongBits has all else right or wrong: the count of bits is named first.
func TestWrongBits(t *testing.T) {
	lists := [][]uint32{nil, {}, {0}, {0, 1}, {1, 1}, {4095, 0}, {4096}, {math.MaxUint32, math.MaxUint32}, wordsBelow(8), wordsBelow(9)}
	for _, n := range wrongCounts() {
		for _, rows := range lists {
			checkFault(t, n, rows, api.ErrLarge)
		}
	}
}

// TestTooManyRows has more rows than there may be; that is named ahead of a row that is wrong.
func TestTooManyRows(t *testing.T) {
	for n := range api.MaxBits + 1 {
		checkGoodRows(t, n, make([]uint32, api.MaxRows))
		for _, count := range []int{api.MaxRows + 1, api.MaxRows + 2, 64, 65, 1000} {
			checkFault(t, n, make([]uint32, count), api.ErrLarge)
			checkFault(t, n, slices.Repeat([]uint32{math.MaxUint32}, count), api.ErrLarge)
			wrongAtEnd := make([]uint32, count)
			wrongAtEnd[count-1] = 1 << n
			checkFault(t, n, wrongAtEnd, api.ErrLarge)
		}
	}
}

// TestWrongRows has one row that is wrong, at each place of lists of each length.
func TestWrongRows(t *testing.T) {
	for n := range api.MaxBits + 1 {
		for _, w := range wrongWords(n) {
			for count := 1; count <= api.MaxRows; count++ {
				for place := range count {
					rows := make([]uint32, count)
					rows[place] = w
					checkFault(t, n, rows, api.ErrRange)
				}
			}
		}
	}
}

// TestListsStayAsTheyAre hands in pieces of lists: neither they nor what lies behind them is changed, and that is not read.
func TestListsStayAsTheyAre(t *testing.T) {
	wholeRows := []uint32{6, 0, 3, 6, 1, 1 << 20, 1, 1, 1, 1}
	wholeData := []bool{true, false, true, true, true}
	rows, data := wholeRows[:4], wholeData[:4]
	checkSpan(t, 3, rows, []uint32{0, 3, 5, 6}, api.OK)
	checkSize(t, 3, rows, 2, api.OK)
	checkDual(t, 3, rows, []uint32{0, 7}, api.OK)
	checkWeights(t, 3, rows, []int64{1, 0, 3, 0}, api.OK)
	checkPut(t, 3, rows, data, 3, api.OK)
	checkPut(t, 3, rows, data[:3], 0, api.ErrForm)
	if !slices.Equal(wholeRows, []uint32{6, 0, 3, 6, 1, 1 << 20, 1, 1, 1, 1}) {
		t.Errorf("rows are changed to %v", wholeRows)
	}
	if !slices.Equal(wholeData, []bool{true, false, true, true, true}) {
		t.Errorf("data are changed to %v", wholeData)
	}
}

// TestAnswersAreNew spoils answers, up to their capacity, and asks again.
func TestAnswersAreNew(t *testing.T) {
	rows := []uint32{3, 6, 5}
	for _, ask := range []func(int, []uint32) ([]uint32, api.Errno){Span, Dual} {
		got, _ := ask(3, rows)
		kept, _ := ask(3, rows)
		want := slices.Clone(kept)
		spoil(got, 77)
		again, _ := ask(3, rows)
		if !slices.Equal(kept, want) || !slices.Equal(again, want) {
			t.Errorf("other answers are changed to %v, %v", kept, again)
		}
	}
	got, _ := Weights(3, rows)
	kept, _ := Weights(3, rows)
	spoil(got, 77)
	if !slices.Equal(kept, []int64{1, 0, 3, 0}) {
		t.Errorf("another answer is changed to %v", kept)
	}
	checkWeights(t, 3, rows, []int64{1, 0, 3, 0}, api.OK)
	if !slices.Equal(rows, []uint32{3, 6, 5}) {
		t.Errorf("rows are changed to %v", rows)
	}
}

// spoil writes the number over all that a list has and has room for.
func spoil[T any](list []T, number T) {
	list = list[:cap(list)]
	for place := range list {
		list[place] = number
	}
}
