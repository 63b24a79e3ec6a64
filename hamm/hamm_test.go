package hamm

import (
	"math"
	"slices"
	"testing"

	"quipu/api"
)

// wrongRanges has numbers that are below 2 or above 4.
func wrongRanges() []int {
	return []int{1, 0, -1, -2, -3, -4, -62, -63, -64, -65, 5, 6, 7, 12, 31, 32, 33, 61, 62, 63, 64, 65, 1 << 32, 1<<32 + 2, -1 << 32, math.MinInt32, math.MaxInt32, math.MinInt, math.MinInt + 1, math.MinInt + 3, math.MaxInt - 1, math.MaxInt}
}

// counted has, for each r from 2 to 4, how many places and how many of data there are.
func counted() map[int][2]int {
	return map[int][2]int{2: {3, 1}, 3: {7, 4}, 4: {15, 11}}
}

// listsOf has each list of so many bits.
func listsOf(count int) [][]bool {
	lists := [][]bool{{}}
	for range count {
		var longer [][]bool
		for _, l := range lists {
			longer = append(longer, append(slices.Clone(l), false), append(slices.Clone(l), true))
		}
		lists = longer
	}
	return lists
}

// bitsOf has the bits of a text of zeros and ones.
func bitsOf(text string) []bool {
	var l []bool
	for _, c := range text {
		l = append(l, c == '1')
	}
	return l
}

// powerOf has 2 as often times itself as told.
func powerOf(times int) int {
	power := 1
	for range times {
		power *= 2
	}
	return power
}

// dataPlaces has the numbers of those places that are no power of 2.
func dataPlaces(places int) []int {
	var list []int
	for place := 1; place <= places; place++ {
		if !slices.Contains([]int{1, 2, 4, 8}, place) {
			list = append(list, place)
		}
	}
	return list
}

// countSet counts the set bits at those places whose number has bit i.
func countSet(l []bool, i int) int {
	count := 0
	for index, bit := range l {
		if bit && (index+1)/powerOf(i)%2 == 1 {
			count++
		}
	}
	return count
}

// countAll counts the set bits.
func countAll(l []bool) int {
	count := 0
	for _, bit := range l {
		if bit {
			count++
		}
	}
	return count
}

// ownPointer puts the pointer together from the counts at the places.
func ownPointer(r int, l []bool) int {
	pointer := 0
	for i := range r {
		if countSet(l, i)%2 == 1 {
			pointer += powerOf(i)
		}
	}
	return pointer
}

// ownData has the bits at the data's places, that at the pointer's turned.
func ownData(l []bool, pointer int) []bool {
	var data []bool
	for _, place := range dataPlaces(len(l)) {
		data = append(data, l[place-1] != (place == pointer))
	}
	return data
}

// turned has the bits with those at the given indexes turned.
func turned(l []bool, indexes ...int) []bool {
	other := slices.Clone(l)
	for _, index := range indexes {
		other[index] = !other[index]
	}
	return other
}

func checkPut(t *testing.T, r int, data, want []bool, wantErr api.Errno) {
	t.Helper()
	if got, err := Put(r, data); !slices.Equal(got, want) || err != wantErr {
		t.Errorf("Put of %d, %v: %v, %d, want %v, %d", r, data, got, err, want, wantErr)
	}
}

func checkPut2(t *testing.T, r int, data, want []bool, wantErr api.Errno) {
	t.Helper()
	if got, err := Put2(r, data); !slices.Equal(got, want) || err != wantErr {
		t.Errorf("Put2 of %d, %v: %v, %d, want %v, %d", r, data, got, err, want, wantErr)
	}
}

func checkFix(t *testing.T, r int, l, want []bool, wantPointer int, wantErr api.Errno) {
	t.Helper()
	if got, pointer, err := Fix(r, l); !slices.Equal(got, want) || pointer != wantPointer || err != wantErr {
		t.Errorf("Fix of %d, %v: %v, %d, %d, want %v, %d, %d", r, l, got, pointer, err, want, wantPointer, wantErr)
	}
}

func checkFix2(t *testing.T, r int, l, want []bool, wantPointer int, wantErr api.Errno) {
	t.Helper()
	if got, pointer, err := Fix2(r, l); !slices.Equal(got, want) || pointer != wantPointer || err != wantErr {
		t.Errorf("Fix2 of %d, %v: %v, %d, %d, want %v, %d, %d", r, l, got, pointer, err, want, wantPointer, wantErr)
	}
}

// TestAllData puts all data there are, and asks of what comes what is promised of it.
func TestAllData(t *testing.T) {
	for r, counts := range counted() {
		for _, data := range listsOf(counts[1]) {
			l, err := Put(r, data)
			if err != api.OK || len(l) != counts[0] {
				t.Fatalf("Put of %d, %v: %v, %d", r, data, l, err)
			}
			for next, place := range dataPlaces(counts[0]) {
				if l[place-1] != data[next] {
					t.Errorf("Put of %d, %v: %v has other data at %d", r, data, l, place)
				}
			}
			for i := range r {
				if countSet(l, i)%2 != 0 {
					t.Errorf("Put of %d, %v: %v has an odd number for bit %d", r, data, l, i)
				}
			}
			checkPut2(t, r, data, append(slices.Clone(l), countAll(l)%2 == 1), api.OK)
		}
	}
}

// TestAllBits fixes all bits there are at all places.
func TestAllBits(t *testing.T) {
	for r, counts := range counted() {
		for _, l := range listsOf(counts[0]) {
			pointer := ownPointer(r, l)
			checkFix(t, r, l, ownData(l, pointer), pointer, api.OK)
		}
	}
}

// TestAllBitsAndOneMore fixes all bits there are at all places, with one more behind them.
func TestAllBitsAndOneMore(t *testing.T) {
	for r, counts := range counted() {
		for _, l := range listsOf(counts[0] + 1) {
			pointer := ownPointer(r, l[:counts[0]])
			if countAll(l)%2 == 0 && pointer != 0 {
				checkFix2(t, r, l, nil, 0, api.ErrSum)
				continue
			}
			checkFix2(t, r, l, ownData(l[:counts[0]], pointer), pointer, api.OK)
		}
	}
}

// TestOneTurnedBitIsFound turns no bit, and each one, of all that Put makes: the pointer is the turned one's place.
func TestOneTurnedBitIsFound(t *testing.T) {
	for r, counts := range counted() {
		for _, data := range listsOf(counts[1]) {
			l, _ := Put(r, data)
			checkFix(t, r, l, data, 0, api.OK)
			for i := range l {
				checkFix(t, r, turned(l, i), data, i+1, api.OK)
			}
		}
	}
}

// TestTwoTurnedBitsAreTold turns no bit, each one, and each two, of all that Put2 makes. The last bit has no place: if it alone is turned the pointer is 0.
func TestTwoTurnedBitsAreTold(t *testing.T) {
	for r, counts := range counted() {
		for _, data := range listsOf(counts[1]) {
			l, _ := Put2(r, data)
			checkFix2(t, r, l, data, 0, api.OK)
			for i := range l {
				checkFix2(t, r, turned(l, i), data, (i+1)%len(l), api.OK)
				for j := range i {
					checkFix2(t, r, turned(l, j, i), nil, 0, api.ErrSum)
				}
			}
		}
	}
}

func TestSomePut(t *testing.T) {
	cases := []struct {
		name            string
		r               int
		data, put, put2 string
	}{
		{"the document's example", 2, "1", "111", "1111"},
		{"nothing set", 2, "0", "000", "0000"},
		{"seven places, nothing set", 3, "0000", "0000000", "00000000"},
		{"seven places, the first one", 3, "1000", "1110000", "11100001"},
		{"seven places, the second one", 3, "0100", "1001100", "10011001"},
		{"seven places, the third one", 3, "0010", "0101010", "01010101"},
		{"seven places, the last one", 3, "0001", "1101001", "11010010"},
		{"seven places, some", 3, "1011", "0110011", "01100110"},
		{"seven places, all", 3, "1111", "1111111", "11111111"},
		{"fifteen places, nothing set", 4, "00000000000", "000000000000000", "0000000000000000"},
		{"fifteen places, the first one", 4, "10000000000", "111000000000000", "1110000000000001"},
		{"fifteen places, the last one", 4, "00000000001", "110100010000001", "1101000100000011"},
		{"fifteen places, all", 4, "11111111111", "111111111111111", "1111111111111111"},
	}
	for _, c := range cases {
		t.Run(c.name, func(t *testing.T) {
			checkPut(t, c.r, bitsOf(c.data), bitsOf(c.put), api.OK)
			checkPut2(t, c.r, bitsOf(c.data), bitsOf(c.put2), api.OK)
		})
	}
}

func TestSomeFix(t *testing.T) {
	cases := []struct {
		name    string
		r       int
		l, data string
		pointer int
	}{
		{"nothing is turned", 2, "111", "1", 0},
		{"the first bit is turned", 2, "011", "1", 1},
		{"the second bit is turned", 2, "101", "1", 2},
		{"the bit with the data is turned", 2, "110", "1", 3},
		{"two bits are turned, and it is not seen", 2, "100", "0", 1},
		{"seven places, nothing is turned", 3, "0110011", "1011", 0},
		{"seven places, a bit with data is turned", 3, "0110111", "1011", 5},
		{"seven places, a bit without data is turned", 3, "0111011", "1011", 4},
		{"seven places, the last bit is turned", 3, "0110010", "1011", 7},
		{"fifteen places, the last bit is turned", 4, "000000000000001", "00000000000", 15},
		{"fifteen places, the greatest bit without data is turned", 4, "111111101111111", "11111111111", 8},
	}
	for _, c := range cases {
		t.Run(c.name, func(t *testing.T) {
			checkFix(t, c.r, bitsOf(c.l), bitsOf(c.data), c.pointer, api.OK)
		})
	}
}

func TestSomeFix2(t *testing.T) {
	cases := []struct {
		name    string
		r       int
		l, data string
		pointer int
		err     api.Errno
	}{
		{"nothing is turned", 2, "1111", "1", 0, api.OK},
		{"the first bit is turned", 2, "0111", "1", 1, api.OK},
		{"the bit with the data is turned", 2, "1101", "1", 3, api.OK},
		{"the last bit is turned", 2, "1110", "1", 0, api.OK},
		{"two bits are turned", 2, "1001", "", 0, api.ErrSum},
		{"two bits are turned, the last one of them", 2, "1100", "", 0, api.ErrSum},
		{"three bits are turned", 2, "1000", "0", 1, api.OK},
		{"all bits are turned", 2, "0000", "0", 0, api.OK},
		{"seven places, two bits without data are turned", 3, "10100110", "", 0, api.ErrSum},
		{"seven places, the last bit is turned", 3, "01100111", "1011", 0, api.OK},
		{"fifteen places, the last one and that behind it are turned", 4, "0000000000000011", "", 0, api.ErrSum},
		{"fifteen places, the last one is turned", 4, "0000000000000010", "00000000000", 15, api.OK},
	}
	for _, c := range cases {
		t.Run(c.name, func(t *testing.T) {
			checkFix2(t, c.r, bitsOf(c.l), bitsOf(c.data), c.pointer, c.err)
		})
	}
}

// TestWrongRange has r at fault, with as many bits as there may be for another r, or none that fits.
func TestWrongRange(t *testing.T) {
	for _, r := range wrongRanges() {
		for count := range 70 {
			for _, l := range [][]bool{make([]bool, count), slices.Repeat([]bool{true}, count)} {
				checkPut(t, r, l, nil, api.ErrRange)
				checkPut2(t, r, l, nil, api.ErrRange)
				checkFix(t, r, l, nil, 0, api.ErrRange)
				checkFix2(t, r, l, nil, 0, api.ErrRange)
			}
		}
		checkPut(t, r, nil, nil, api.ErrRange)
		checkPut2(t, r, nil, nil, api.ErrRange)
		checkFix(t, r, nil, nil, 0, api.ErrRange)
		checkFix2(t, r, nil, nil, 0, api.ErrRange)
	}
}

// TestWrongForm has all counts of bits but the one that is right.
func TestWrongForm(t *testing.T) {
	for r, counts := range counted() {
		for count := range 100 {
			for _, l := range [][]bool{make([]bool, count), slices.Repeat([]bool{true}, count)} {
				checkForm(t, r, l, counts)
			}
		}
		checkForm(t, r, nil, counts)
		checkForm(t, r, make([]bool, 1<<16), counts)
	}
}

// checkForm has bits too few or too many for each call that asks for another count of them.
func checkForm(t *testing.T, r int, l []bool, counts [2]int) {
	t.Helper()
	if len(l) != counts[1] {
		checkPut(t, r, l, nil, api.ErrForm)
		checkPut2(t, r, l, nil, api.ErrForm)
	}
	if len(l) != counts[0] {
		checkFix(t, r, l, nil, 0, api.ErrForm)
	}
	if len(l) != counts[0]+1 {
		checkFix2(t, r, l, nil, 0, api.ErrForm)
	}
}

// TestListsStayAsTheyAre hands in pieces of a list: neither they nor what lies behind them is changed, and that is not read.
func TestListsStayAsTheyAre(t *testing.T) {
	for _, behind := range []bool{false, true} {
		whole := append(bitsOf("0110110"), slices.Repeat([]bool{behind}, 20)...)
		kept := slices.Clone(whole)
		for range 3 {
			checkPut(t, 3, whole[:4], bitsOf("1100110"), api.OK)
			checkPut2(t, 3, whole[:4], bitsOf("11001100"), api.OK)
			checkFix(t, 3, whole[:7], bitsOf("1110"), 2, api.OK)
			checkFix2(t, 2, whole[:4], nil, 0, api.ErrSum)
			checkFix2(t, 2, whole[1:5], bitsOf("1"), 3, api.OK)
			checkFix2(t, 2, whole[2:6], bitsOf("1"), 2, api.OK)
			checkFix(t, 3, whole[:6], nil, 0, api.ErrForm)
			checkPut(t, 3, whole[:3], nil, api.ErrForm)
		}
		if !slices.Equal(whole, kept) {
			t.Errorf("bits are changed to %v", whole)
		}
	}
}

// spoil turns all bits of the list, and what lies behind it.
func spoil(l []bool) {
	l = l[:cap(l)]
	for i := range l {
		l[i] = !l[i]
	}
}

// TestAnswersAreNew spoils what came, and asks again: neither what was handed in nor the next answer is other than before.
func TestAnswersAreNew(t *testing.T) {
	data, l, l2 := bitsOf("1011"), bitsOf("0110011"), bitsOf("01100110")
	for range 3 {
		put, _ := Put(3, data)
		spoil(put)
		put2, _ := Put2(3, data)
		spoil(put2)
		fixed, _, _ := Fix(3, l)
		spoil(fixed)
		fixed2, _, _ := Fix2(3, l2)
		spoil(fixed2)
		checkPut(t, 3, data, bitsOf("0110011"), api.OK)
		checkPut2(t, 3, data, bitsOf("01100110"), api.OK)
		checkFix(t, 3, l, bitsOf("1011"), 0, api.OK)
		checkFix2(t, 3, l2, bitsOf("1011"), 0, api.OK)
	}
	if !slices.Equal(data, bitsOf("1011")) || !slices.Equal(l, bitsOf("0110011")) || !slices.Equal(l2, bitsOf("01100110")) {
		t.Errorf("what was handed in is changed to %v, %v, %v", data, l, l2)
	}
}
