package rest

import (
	"math"
	"slices"
	"testing"

	"quipu/api"
)

// maxBits is how many bits there may be.
const maxBits = 64

// wrongDivisors have no bit 0, or are 1, or above 2^17 - 1.
func wrongDivisors() []uint32 {
	list := []uint32{0, 1, 1<<17 - 2, 1 << 17, 1<<17 + 1, 1<<17 + 2, 1<<17 + 3, 1<<17 + 11, 1<<18 - 1, 1<<31 + 1, 1<<31 + 11, math.MaxInt32, math.MaxUint32 - 1, math.MaxUint32}
	for power := 1; power < 32; power++ {
		list = append(list, 1<<power)
	}
	for power := 17; power < 32; power++ {
		list = append(list, 1<<power+1)
	}
	for g := uint32(2); g < 300; g += 2 {
		list = append(list, g)
	}
	return list
}

// someDivisors has all right ones of a degree of at most 5, and of each greater degree some.
func someDivisors() []uint32 {
	var list []uint32
	for g := uint32(3); g < 64; g += 2 {
		list = append(list, g)
	}
	for power := 6; power <= 16; power++ {
		list = append(list, 1<<power+1, 1<<power+3, 1<<power+1<<(power-1)+1, 2<<power-1)
	}
	return append(list, 0x11021, 0x18005, 0x107)
}

// ownDegree counts how often g can be halved.
func ownDegree(g uint32) int {
	degree := 0
	for ; g > 1; g /= 2 {
		degree++
	}
	return degree
}

// ownRest takes g away from below each power in turn, from the greatest one on, and answers the bits that stay.
func ownRest(g uint32, l []bool) uint32 {
	left := slices.Clone(l)
	degree := ownDegree(g)
	for first := 0; first+degree < len(left); first++ {
		if !left[first] {
			continue
		}
		for i, bit := range bitsOfWord(g, degree+1) {
			left[first+i] = left[first+i] != bit
		}
	}
	var word uint32
	for _, bit := range left {
		word = word * 2
		if bit {
			word++
		}
	}
	return word
}

// bitsOfWord has so many bits of a word, the greatest one first.
func bitsOfWord(word uint32, count int) []bool {
	l := make([]bool, count)
	for i := count - 1; i >= 0; i-- {
		l[i] = word%2 == 1
		word /= 2
	}
	return l
}

// bitsOf has the bits of a text of zeros and ones.
func bitsOf(text string) []bool {
	var l []bool
	for _, c := range text {
		l = append(l, c == '1')
	}
	return l
}

// productOf multiplies two polynomials.
func productOf(a, b uint32) uint32 {
	var product uint32
	for power := range 16 {
		if a>>power%2 == 1 {
			product ^= b << power
		}
	}
	return product
}

// anyLists has lists of so many bits: without one, all of them, each bit alone, and some that no rule is seen in.
func anyLists(count int) [][]bool {
	lists := [][]bool{make([]bool, count), slices.Repeat([]bool{true}, count)}
	for i := range count {
		l := make([]bool, count)
		l[i] = true
		lists = append(lists, l)
	}
	number := uint32(count) + 1
	for range 8 {
		l := make([]bool, count)
		for i := range l {
			number = number*1664525 + 1013904223
			l[i] = number>>31 == 1
		}
		lists = append(lists, l)
	}
	return lists
}

// turned has the bits with those at the given indexes turned.
func turned(l []bool, indexes ...int) []bool {
	other := slices.Clone(l)
	for _, index := range indexes {
		other[index] = !other[index]
	}
	return other
}

func checkRest(t *testing.T, g uint32, l []bool, want uint32, wantErr api.Errno) {
	t.Helper()
	if got, err := Rest(g, l); got != want || err != wantErr {
		t.Errorf("Rest of %d, %v: %d, %d, want %d, %d", g, l, got, err, want, wantErr)
	}
}

func checkPut(t *testing.T, g uint32, l, want []bool, wantErr api.Errno) {
	t.Helper()
	if got, err := Put(g, l); !slices.Equal(got, want) || err != wantErr {
		t.Errorf("Put of %d, %v: %v, %d, want %v, %d", g, l, got, err, want, wantErr)
	}
}

func checkGet(t *testing.T, g uint32, l, want []bool, wantErr api.Errno) {
	t.Helper()
	if got, err := Get(g, l); !slices.Equal(got, want) || err != wantErr {
		t.Errorf("Get of %d, %v: %v, %d, want %v, %d", g, l, got, err, want, wantErr)
	}
}

// checkAll has all calls tell the same error.
func checkAll(t *testing.T, g uint32, l []bool, want api.Errno) {
	t.Helper()
	checkRest(t, g, l, 0, want)
	checkPut(t, g, l, nil, want)
	checkGet(t, g, l, nil, want)
}

// TestRestOfProducts multiplies by g and adds what is to be left.
func TestRestOfProducts(t *testing.T) {
	for g := uint32(3); g < 64; g += 2 {
		for times := range uint32(64) {
			for left := range uint32(1) << ownDegree(g) {
				checkRest(t, g, bitsOfWord(productOf(times, g)^left, 12), left, api.OK)
			}
		}
	}
}

// TestShortLists has all lists of up to 8 bits.
func TestShortLists(t *testing.T) {
	for _, g := range someDivisors() {
		degree := ownDegree(g)
		for count := range 9 {
			for word := range uint32(1) << count {
				l := bitsOfWord(word, count)
				left := ownRest(g, l)
				checkRest(t, g, l, left, api.OK)
				raised := slices.Concat(l, make([]bool, degree))
				checkPut(t, g, l, slices.Concat(l, bitsOfWord(ownRest(g, raised), degree)), api.OK)
				switch {
				case count < degree:
					checkGet(t, g, l, nil, api.ErrForm)
				case left != 0:
					checkGet(t, g, l, nil, api.ErrSum)
				default:
					checkGet(t, g, l, l[:count-degree], api.OK)
				}
			}
		}
	}
}

// TestBitsComeBack puts lists of all lengths that there may be, and asks for them.
func TestBitsComeBack(t *testing.T) {
	for _, g := range someDivisors() {
		degree := ownDegree(g)
		for count := range maxBits - degree + 1 {
			for _, l := range anyLists(count) {
				all, err := Put(g, l)
				if err != api.OK || len(all) != count+degree || !slices.Equal(all[:count], l) || ownRest(g, all) != 0 {
					t.Fatalf("Put of %d, %v: %v, %d", g, l, all, err)
				}
				checkRest(t, g, all, 0, api.OK)
				checkGet(t, g, all, l, api.OK)
			}
		}
	}
}

// TestRestOfLongLists has lists of all lengths that there may be.
func TestRestOfLongLists(t *testing.T) {
	for _, g := range someDivisors() {
		for count := range maxBits + 1 {
			for _, l := range anyLists(count) {
				checkRest(t, g, l, ownRest(g, l), api.OK)
			}
		}
	}
}

// TestTurnedBitsAreTold turns bits that all stand among as many, one behind another, as the degree of g, or among 6 if that is greater: no g leaves nothing of these.
func TestTurnedBitsAreTold(t *testing.T) {
	for _, g := range []uint32{3, 5, 7, 11, 13, 19, 31, 0x107, 0x11021, 1<<17 - 1} {
		degree := ownDegree(g)
		for _, count := range []int{0, 1, 5, maxBits - degree} {
			lists := anyLists(count)
			all, _ := Put(g, lists[len(lists)-1])
			for first := range all {
				for length := 1; length <= min(degree, len(all)-first, 6); length++ {
					for within := uint32(1); within < 1<<length; within++ {
						spoilt := slices.Clone(all)
						for i, bit := range bitsOfWord(within, length) {
							spoilt[first+i] = spoilt[first+i] != bit
						}
						checkGet(t, g, spoilt, nil, api.ErrSum)
					}
				}
			}
		}
	}
}

func TestSomeRests(t *testing.T) {
	cases := []struct {
		name string
		g    uint32
		l    string
		want uint32
	}{
		{"no bits", 11, "", 0},
		{"no bit is set", 11, "00000", 0},
		{"the last bit is the power 0", 11, "1", 1},
		{"less than g is left as it is", 11, "101", 5},
		{"the degree of g alone", 11, "1000", 3},
		{"g", 11, "1011", 0},
		{"zeros ahead", 11, "00001011", 0},
		{"the document's example, with one bit turned", 11, "1111", 4},
		{"the period of g", 11, "10000000", 1},
		{"the least g, an odd number of bits", 3, "10101", 1},
		{"the least g, an even number of bits", 3, "10100", 0},
		{"g without a middle", 5, "100", 1},
		{"less than the greatest g", 1<<17 - 1, "1111111111111111", 1<<16 - 1},
		{"the greatest g", 1<<17 - 1, "11111111111111111", 0},
		{"the degree of the greatest g", 1<<17 - 1, "10000000000000000", 1<<16 - 1},
		{"one more than the degree of the greatest g", 1<<17 - 1, "100000000000000000", 1},
		{"as many bits as may be", 1<<16 + 1, "1000000000000000000000000000000000000000000000000000000000000000", 1 << 15},
	}
	for _, c := range cases {
		t.Run(c.name, func(t *testing.T) {
			checkRest(t, c.g, bitsOf(c.l), c.want, api.OK)
		})
	}
}

func TestSomePut(t *testing.T) {
	cases := []struct {
		name   string
		g      uint32
		l, all string
	}{
		{"the document's example", 11, "1", "1011"},
		{"no bits", 11, "", "000"},
		{"no bits, the greatest degree", 1<<17 - 1, "", "0000000000000000"},
		{"no bit is set", 11, "0000", "0000000"},
		{"zeros ahead", 11, "001", "001011"},
		{"four bits", 11, "1101", "1101001"},
		{"the other g of that degree", 13, "1101", "1101000"},
		{"the least g, an odd number of bits", 3, "100", "1001"},
		{"the least g, an even number of bits", 3, "110", "1100"},
		{"the greatest g", 1<<17 - 1, "1", "11111111111111111"},
		{"zeros within what is put", 17, "1", "10001"},
		{"as many bits as may be", 3, "000000000000000000000000000000000000000000000000000000000000001", "0000000000000000000000000000000000000000000000000000000000000011"},
	}
	for _, c := range cases {
		t.Run(c.name, func(t *testing.T) {
			checkPut(t, c.g, bitsOf(c.l), bitsOf(c.all), api.OK)
			checkGet(t, c.g, bitsOf(c.all), bitsOf(c.l), api.OK)
		})
	}
}

func TestSomeGet(t *testing.T) {
	cases := []struct {
		name string
		g    uint32
		l    string
		want api.Errno
	}{
		{"no bits", 3, "", api.ErrForm},
		{"no bits, the greatest degree", 1<<17 - 1, "", api.ErrForm},
		{"one bit too few, none is set", 11, "00", api.ErrForm},
		{"one bit too few, and a rest", 11, "01", api.ErrForm},
		{"one bit too few of the greatest degree", 1<<17 - 1, "000000000000000", api.ErrForm},
		{"just as many bits as the degree, and a rest", 11, "001", api.ErrSum},
		{"the last bit is turned", 11, "1010", api.ErrSum},
		{"the first bit is turned", 11, "0011", api.ErrSum},
		{"a bit within is turned", 11, "1111", api.ErrSum},
		{"all bits are turned", 11, "0100", api.ErrSum},
		{"the bits the other way round", 11, "1101", api.ErrSum},
	}
	for _, c := range cases {
		t.Run(c.name, func(t *testing.T) {
			checkGet(t, c.g, bitsOf(c.l), nil, c.want)
		})
	}
}

// TestWrongDivisors has those with few bits, with as many as may be, and with more than that: g is told first.
func TestWrongDivisors(t *testing.T) {
	for _, g := range wrongDivisors() {
		checkAll(t, g, nil, api.ErrRange)
		for _, count := range []int{0, 1, 2, 3, 16, 17, 48, maxBits - 1, maxBits, maxBits + 1, 1000} {
			checkAll(t, g, make([]bool, count), api.ErrRange)
			checkAll(t, g, slices.Repeat([]bool{true}, count), api.ErrRange)
		}
	}
}

// TestAllDivisors has each g that is odd, from 3 to 2^17 - 1: its own bits leave nothing.
func TestAllDivisors(t *testing.T) {
	for g := uint32(3); g < 1<<17; g += 2 {
		degree := ownDegree(g)
		own := bitsOfWord(g, degree+1)
		checkRest(t, g, own, 0, api.OK)
		checkRest(t, g, turned(own, 0), g-1<<degree, api.OK)
		checkPut(t, g, own[:1], own, api.OK)
		checkGet(t, g, own, own[:1], api.OK)
		checkGet(t, g, turned(own, degree), nil, api.ErrSum)
	}
}

// TestTooManyBits has more than there may be: too many to begin with, or only with those that Put puts behind them.
func TestTooManyBits(t *testing.T) {
	for _, g := range someDivisors() {
		degree := ownDegree(g)
		for _, bit := range []bool{false, true} {
			for _, count := range []int{maxBits + 1, maxBits + 2, maxBits + degree, 2 * maxBits, 1000, 1 << 16} {
				checkAll(t, g, slices.Repeat([]bool{bit}, count), api.ErrLarge)
			}
			for count := maxBits - degree + 1; count <= maxBits; count++ {
				checkPut(t, g, slices.Repeat([]bool{bit}, count), nil, api.ErrLarge)
			}
		}
		checkGet(t, g, make([]bool, maxBits), make([]bool, maxBits-degree), api.OK)
	}
}

// TestListsStayAsTheyAre hands in pieces of a list: neither they nor what lies behind them is changed, and that is not read.
func TestListsStayAsTheyAre(t *testing.T) {
	for _, behind := range []bool{false, true} {
		whole := append(bitsOf("1011"), slices.Repeat([]bool{behind}, 100)...)
		kept := slices.Clone(whole)
		for range 3 {
			checkRest(t, 11, whole[:4], 0, api.OK)
			checkRest(t, 11, whole[:3], 5, api.OK)
			checkPut(t, 11, whole[:1], bitsOf("1011"), api.OK)
			checkPut(t, 11, whole[1:1], bitsOf("000"), api.OK)
			checkPut(t, 13, whole[:4], bitsOf("1011100"), api.OK)
			checkGet(t, 11, whole[:4], bitsOf("1"), api.OK)
			checkGet(t, 3, whole[1:4], bitsOf("01"), api.OK)
			checkGet(t, 11, whole[:2], nil, api.ErrForm)
			checkGet(t, 11, whole[:3], nil, api.ErrSum)
		}
		if !slices.Equal(whole, kept) {
			t.Errorf("bits are changed to %v", whole)
		}
	}
}

// spoil turns all bits of the list, and what lies behind it.
func spoil(l []bool) {
	l = l[:cap(l)]
	for i := range l {
		l[i] = !l[i]
	}
}

// TestAnswersAreNew spoils what came, and asks again: neither what was handed in nor the next answer is other than before.
func TestAnswersAreNew(t *testing.T) {
	l, all, zeros := bitsOf("1101"), bitsOf("1101001"), bitsOf("000")
	for range 3 {
		put, _ := Put(11, l)
		spoil(put)
		got, _ := Get(11, all)
		spoil(got)
		none, _ := Get(11, zeros)
		spoil(none)
		checkPut(t, 11, l, bitsOf("1101001"), api.OK)
		checkGet(t, 11, all, bitsOf("1101"), api.OK)
		checkGet(t, 11, zeros, nil, api.OK)
	}
	if !slices.Equal(l, bitsOf("1101")) || !slices.Equal(all, bitsOf("1101001")) || !slices.Equal(zeros, bitsOf("000")) {
		t.Errorf("what was handed in is changed to %v, %v, %v", l, all, zeros)
	}
}
