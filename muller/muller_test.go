package muller

import (
	"math"
	"slices"
	"testing"

	"quipu/api"
)

// wrongRange has r and m, one of which at least is at fault.
type wrongRange struct{ r, m int }

// wrongRanges has m below 0 and above 4, with any r, and r below 0 and above m.
func wrongRanges() []wrongRange {
	var list []wrongRange
	for _, far := range []int{-1, -2, -3, -4, -5, -62, -63, -64, -65, 5, 6, 7, 8, 31, 32, 33, 62, 63, 64, 65, 1 << 32, 1<<32 + 2, -1 << 32, math.MinInt32, math.MaxInt32, math.MinInt, math.MinInt + 1, math.MinInt + 4, math.MaxInt - 1, math.MaxInt} {
		for near := range 5 {
			list = append(list, wrongRange{near, far}, wrongRange{far, near})
		}
		list = append(list, wrongRange{far, far}, wrongRange{-1, far}, wrongRange{far, -1}, wrongRange{5, far}, wrongRange{far, 5})
	}
	for m := range 5 {
		for r := m + 1; r < 7; r++ {
			list = append(list, wrongRange{r, m})
		}
	}
	return list
}

// ownProducts has the products in their order, each of them as a word.
func ownProducts(r, m int) []int {
	inOrder := [][]int{{0}, {1, 2, 4, 8}, {3, 5, 6, 9, 10, 12}, {7, 11, 13, 14}, {15}}
	var list []int
	for _, ofDegree := range inOrder[:r+1] {
		for _, product := range ofDegree {
			if product < powerOf(m) {
				list = append(list, product)
			}
		}
	}
	return list
}

// powerOf has 2 as often times itself as told.
func powerOf(times int) int {
	power := 1
	for range times {
		power *= 2
	}
	return power
}

// has tells whether a word has a variable.
func has(word, variable int) bool {
	return word/powerOf(variable)%2 == 1
}

// hasAll tells whether x has all variables of a product.
func hasAll(x, product int) bool {
	for variable := range 4 {
		if has(product, variable) && !has(x, variable) {
			return false
		}
	}
	return true
}

// alikeBeside tells whether both have the same of those variables that the product has not.
func alikeBeside(x, y, product int) bool {
	for variable := range 4 {
		if !has(product, variable) && has(x, variable) != has(y, variable) {
			return false
		}
	}
	return true
}

// ownPut counts for each x the products that are chosen and that it has.
func ownPut(m int, products []int, data []bool) []bool {
	l := make([]bool, powerOf(m))
	for x := range l {
		count := 0
		for i, product := range products {
			if data[i] && hasAll(x, product) {
				count++
			}
		}
		l[x] = count%2 == 1
	}
	return l
}

// ownVote lets each part vote: a part is told by that one of it that has none of the product's variables.
func ownVote(product int, l []bool) bool {
	ones, zeros := 0, 0
	for first := range l {
		if first != 0 && slices.ContainsFunc([]int{0, 1, 2, 3}, func(v int) bool { return has(first, v) && has(product, v) }) {
			continue
		}
		count := 0
		for x, bit := range l {
			if bit && alikeBeside(x, first, product) {
				count++
			}
		}
		if count%2 == 1 {
			ones++
		} else {
			zeros++
		}
	}
	return ones > zeros
}

// ownGet asks for the products of each degree, from r down, and takes away what they make.
func ownGet(r, m int, l []bool) []bool {
	left := slices.Clone(l)
	var data []bool
	for degree := r; degree >= 0; degree-- {
		ofDegree := ownProducts(degree, m)
		if degree > 0 {
			ofDegree = ofDegree[len(ownProducts(degree-1, m)):]
		}
		var known []bool
		for _, product := range ofDegree {
			known = append(known, ownVote(product, left))
		}
		for x, bit := range ownPut(m, ofDegree, known) {
			left[x] = left[x] != bit
		}
		data = append(known, data...)
	}
	return data
}

// bitsOf has the bits of a text of zeros and ones.
func bitsOf(text string) []bool {
	var l []bool
	for _, c := range text {
		l = append(l, c == '1')
	}
	return l
}

// listsOf has each list of so many bits.
func listsOf(count int) [][]bool {
	var lists [][]bool
	for number := range powerOf(count) {
		l := make([]bool, count)
		for i := range l {
			l[i] = number%2 == 1
			number /= 2
		}
		lists = append(lists, l)
	}
	return lists
}

// someLists has each list of so many bits, or of lists of many bits only some.
func someLists(count int) [][]bool {
	var some [][]bool
	for i, l := range listsOf(count) {
		if count < 12 || i%13 == 0 || i < 64 {
			some = append(some, l)
		}
	}
	return some
}

// turned has the bits with those at the given indexes turned.
func turned(l []bool, indexes ...int) []bool {
	other := slices.Clone(l)
	for _, index := range indexes {
		other[index] = !other[index]
	}
	return other
}

func checkSize(t *testing.T, r, m, want int, wantErr api.Errno) {
	t.Helper()
	if got, err := Size(r, m); got != want || err != wantErr {
		t.Errorf("Size of %d, %d: %d, %d, want %d, %d", r, m, got, err, want, wantErr)
	}
}

func checkPut(t *testing.T, r, m int, data, want []bool, wantErr api.Errno) {
	t.Helper()
	if got, err := Put(r, m, data); !slices.Equal(got, want) || err != wantErr {
		t.Errorf("Put of %d, %d, %v: %v, %d, want %v, %d", r, m, data, got, err, want, wantErr)
	}
}

func checkGet(t *testing.T, r, m int, l, want []bool, wantErr api.Errno) {
	t.Helper()
	if got, err := Get(r, m, l); !slices.Equal(got, want) || err != wantErr {
		t.Errorf("Get of %d, %d, %v: %v, %d, want %v, %d", r, m, l, got, err, want, wantErr)
	}
}

func TestAllSizes(t *testing.T) {
	sizes := [][]int{{1}, {1, 2}, {1, 3, 4}, {1, 4, 7, 8}, {1, 5, 11, 15, 16}}
	for m, bySize := range sizes {
		for r, want := range bySize {
			checkSize(t, r, m, want, api.OK)
		}
	}
}

// TestAllData puts all data of up to 11 products, and some of more.
func TestAllData(t *testing.T) {
	for m := range 5 {
		for r := range m + 1 {
			products := ownProducts(r, m)
			for _, data := range someLists(len(products)) {
				checkPut(t, r, m, data, ownPut(m, products, data), api.OK)
			}
		}
	}
}

// TestAllBits asks for the data of all lists of up to 8 bits, and of some of 16.
func TestAllBits(t *testing.T) {
	for m := range 5 {
		for r := range m + 1 {
			for _, l := range someLists(powerOf(m)) {
				checkGet(t, r, m, l, ownGet(r, m, l), api.OK)
			}
		}
	}
}

// TestDataComeBack puts all data, and asks for them.
func TestDataComeBack(t *testing.T) {
	for m := range 5 {
		for r := range m + 1 {
			for _, data := range someLists(len(ownProducts(r, m))) {
				l, err := Put(r, m, data)
				if err != api.OK {
					t.Fatalf("Put of %d, %d, %v: %d", r, m, data, err)
				}
				checkGet(t, r, m, l, data, api.OK)
			}
		}
	}
}

// TestSpoiltDataComeBack turns as many bits as less than half of the parts can be spoilt by: one part is spoilt by one bit at most.
func TestSpoiltDataComeBack(t *testing.T) {
	for _, c := range []struct{ r, m, most int }{{0, 2, 1}, {0, 3, 3}, {1, 3, 1}, {0, 4, 3}, {1, 4, 3}, {2, 4, 1}} {
		for _, data := range listsOf(len(ownProducts(c.r, c.m))) {
			l, _ := Put(c.r, c.m, data)
			for i := range l {
				checkGet(t, c.r, c.m, turned(l, i), data, api.OK)
				for j := range i * (c.most / 3) {
					checkGet(t, c.r, c.m, turned(l, i, j), data, api.OK)
					for k := range j {
						checkGet(t, c.r, c.m, turned(l, i, j, k), data, api.OK)
					}
				}
			}
		}
	}
}

func TestSomePut(t *testing.T) {
	cases := []struct {
		name    string
		r, m    int
		data, l string
	}{
		{"the document's example", 1, 2, "101", "1100"},
		{"no variable, not set", 0, 0, "0", "0"},
		{"no variable, set", 0, 0, "1", "1"},
		{"one variable, the product without it", 1, 1, "10", "11"},
		{"one variable alone", 1, 1, "01", "01"},
		{"two variables, the first one", 1, 2, "010", "0101"},
		{"two variables, the second one", 1, 2, "001", "0011"},
		{"two variables, both as one product", 2, 2, "0001", "0001"},
		{"two variables, all products", 2, 2, "1111", "1000"},
		{"three variables, the least product of two", 2, 3, "0000100", "00010001"},
		{"three variables, the middle product of two", 2, 3, "0000010", "00000101"},
		{"three variables, the greatest product of two", 2, 3, "0000001", "00000011"},
		{"four variables, none", 0, 4, "1", "1111111111111111"},
		{"four variables, the last one", 1, 4, "00001", "0000000011111111"},
		{"four variables, 6 ahead of 9", 2, 4, "00000001000", "0000001100000011"},
		{"four variables, 9 behind 6", 2, 4, "00000000100", "0000000001010101"},
		{"four variables, 7 behind 12", 3, 4, "000000000001000", "0000000100000001"},
		{"four variables, 14", 3, 4, "000000000000001", "0000000000000011"},
		{"four variables, all in one product", 4, 4, "0000000000000001", "0000000000000001"},
		{"four variables, all products", 4, 4, "1111111111111111", "1000000000000000"},
	}
	for _, c := range cases {
		t.Run(c.name, func(t *testing.T) {
			checkPut(t, c.r, c.m, bitsOf(c.data), bitsOf(c.l), api.OK)
			checkGet(t, c.r, c.m, bitsOf(c.l), bitsOf(c.data), api.OK)
		})
	}
}

func TestSomeGet(t *testing.T) {
	cases := []struct {
		name    string
		r, m    int
		l, data string
	}{
		{"the document's example", 1, 2, "1100", "101"},
		{"as many say either", 0, 1, "10", "0"},
		{"as many say either, the other way round", 0, 1, "01", "0"},
		{"two of four say either", 0, 2, "0110", "0"},
		{"three of four say 1", 0, 2, "1101", "1"},
		{"one of four says 1", 0, 2, "0100", "0"},
		{"eight of sixteen say either", 0, 4, "1010101010101010", "0"},
		{"nine of sixteen say 1", 0, 4, "1010101110101010", "1"},
		{"seven of sixteen say 1", 0, 4, "1010001010101010", "0"},
		{"each variable has as many votes either way", 1, 2, "1000", "000"},
		{"what is known of the variables is taken away ahead of the rest", 1, 2, "0110", "011"},
		{"one bit of eight is turned", 1, 3, "00001110", "0001"},
		{"two bits of eight are turned, and no variable is seen", 1, 3, "00001100", "0000"},
		{"one bit of sixteen is turned", 2, 4, "0001000100010000", "00000100000"},
		{"nothing is set", 3, 4, "0000000000000000", "000000000000000"},
		{"one bit of sixteen is set, each product of three has as many votes either way", 3, 4, "0100000000000000", "000000000000000"},
		{"no bit may be turned", 4, 4, "0100000000000000", "0100011010011101"},
	}
	for _, c := range cases {
		t.Run(c.name, func(t *testing.T) {
			checkGet(t, c.r, c.m, bitsOf(c.l), bitsOf(c.data), api.OK)
		})
	}
}

// TestWrongRange has r or m at fault, with as many bits as may be for others.
func TestWrongRange(t *testing.T) {
	for _, wrong := range wrongRanges() {
		checkSize(t, wrong.r, wrong.m, 0, api.ErrRange)
		for count := range 34 {
			for _, l := range [][]bool{make([]bool, count), slices.Repeat([]bool{true}, count)} {
				checkPut(t, wrong.r, wrong.m, l, nil, api.ErrRange)
				checkGet(t, wrong.r, wrong.m, l, nil, api.ErrRange)
			}
		}
		checkPut(t, wrong.r, wrong.m, nil, nil, api.ErrRange)
		checkGet(t, wrong.r, wrong.m, nil, nil, api.ErrRange)
	}
}

// TestWrongForm has all counts of bits but the one that is right.
func TestWrongForm(t *testing.T) {
	for m := range 5 {
		for r := range m + 1 {
			for count := range 70 {
				for _, l := range [][]bool{make([]bool, count), slices.Repeat([]bool{true}, count)} {
					checkForm(t, r, m, l)
				}
			}
			checkForm(t, r, m, nil)
			checkForm(t, r, m, make([]bool, 1<<16))
		}
	}
}

// checkForm has bits too few or too many for each call that asks for another count of them.
func checkForm(t *testing.T, r, m int, l []bool) {
	t.Helper()
	if len(l) != len(ownProducts(r, m)) {
		checkPut(t, r, m, l, nil, api.ErrForm)
	}
	if len(l) != powerOf(m) {
		checkGet(t, r, m, l, nil, api.ErrForm)
	}
}

// TestListsStayAsTheyAre hands in pieces of a list: neither they nor what lies behind them is changed, and that is not read.
func TestListsStayAsTheyAre(t *testing.T) {
	for _, behind := range []bool{false, true} {
		whole := append(bitsOf("1011"), slices.Repeat([]bool{behind}, 20)...)
		kept := slices.Clone(whole)
		for range 3 {
			checkPut(t, 1, 2, whole[:3], bitsOf("1100"), api.OK)
			checkPut(t, 1, 3, whole[:4], bitsOf("11000011"), api.OK)
			checkGet(t, 1, 2, whole[:4], bitsOf("100"), api.OK)
			checkGet(t, 2, 2, whole[:4], bitsOf("1101"), api.OK)
			checkGet(t, 1, 1, whole[1:3], bitsOf("01"), api.OK)
			checkPut(t, 1, 2, whole[:2], nil, api.ErrForm)
			checkGet(t, 1, 2, whole[:3], nil, api.ErrForm)
		}
		if !slices.Equal(whole, kept) {
			t.Errorf("bits are changed to %v", whole)
		}
	}
}

// spoil turns all bits of the list, and what lies behind it.
func spoil(l []bool) {
	l = l[:cap(l)]
	for i := range l {
		l[i] = !l[i]
	}
}

// TestAnswersAreNew spoils what came, and asks again: neither what was handed in nor the next answer is other than before.
func TestAnswersAreNew(t *testing.T) {
	data, l := bitsOf("1011"), bitsOf("11000011")
	for range 3 {
		put, _ := Put(1, 3, data)
		spoil(put)
		got, _ := Get(1, 3, l)
		spoil(got)
		checkPut(t, 1, 3, data, bitsOf("11000011"), api.OK)
		checkGet(t, 1, 3, l, bitsOf("1011"), api.OK)
		same, _ := Put(0, 0, bitsOf("1"))
		spoil(same)
		checkPut(t, 0, 0, bitsOf("1"), bitsOf("1"), api.OK)
	}
	if !slices.Equal(data, bitsOf("1011")) || !slices.Equal(l, bitsOf("11000011")) {
		t.Errorf("what was handed in is changed to %v, %v", data, l)
	}
}
