package bose

import (
	"slices"
	"testing"

	"quipu/api"
	"quipu/rest"
)

// listsOf has each list of so many bits.
func listsOf(count int) [][]bool {
	lists := [][]bool{{}}
	for range count {
		var longer [][]bool
		for _, l := range lists {
			longer = append(longer, append(slices.Clone(l), false), append(slices.Clone(l), true))
		}
		lists = longer
	}
	return lists
}

// bitsOf has the bits of a text of zeros and ones.
func bitsOf(text string) []bool {
	var l []bool
	for _, c := range text {
		l = append(l, c == '1')
	}
	return l
}

// flipped has the bits with those at the given places turned.
func flipped(l []bool, places ...int) []bool {
	other := slices.Clone(l)
	for _, place := range places {
		other[place] = !other[place]
	}
	return other
}

// apart counts the places at which both are not the same.
func apart(a, b []bool) int {
	count := 0
	for i := range a {
		if a[i] != b[i] {
			count++
		}
	}
	return count
}

// ownRows has what each of the data makes alone, by a division done by hand.
func ownRows() []string {
	return []string{
		"100000011101000",
		"010000001110100",
		"001000000111010",
		"000100000011101",
		"000010011100110",
		"000001001110011",
		"000000111010001",
	}
}

// ownPut puts together what each of the set data makes alone.
func ownPut(data []bool) []bool {
	l := make([]bool, 15)
	for i, row := range ownRows() {
		for place, bit := range bitsOf(row) {
			if data[i] && bit {
				l[place] = !l[place]
			}
		}
	}
	return l
}

// known is data, and what is made of them.
type known struct {
	data, made []bool
}

// allKnown has all data there are.
func allKnown() []known {
	var all []known
	for _, data := range listsOf(7) {
		all = append(all, known{data, ownPut(data)})
	}
	return all
}

// nearest goes through all data for those that make what is the least apart, and tells how far that is.
func nearest(all []known, l []bool) ([]bool, int) {
	best, least := []bool(nil), 16
	for _, k := range all {
		if count := apart(k.made, l); count < least {
			best, least = k.data, count
		}
	}
	return best, least
}

func checkPut(t *testing.T, data, want []bool, wantErr api.Errno) {
	t.Helper()
	if got, err := Put(data); !slices.Equal(got, want) || err != wantErr {
		t.Errorf("Put of %v: %v, %d, want %v, %d", data, got, err, want, wantErr)
	}
}

func checkFix(t *testing.T, l, want []bool, wantCount int, wantErr api.Errno) {
	t.Helper()
	if got, count, err := Fix(l); !slices.Equal(got, want) || count != wantCount || err != wantErr {
		t.Errorf("Fix of %v: %v, %d, %d, want %v, %d, %d", l, got, count, err, want, wantCount, wantErr)
	}
}

// TestAllData puts all data there are: it is what rest puts, and what each of the set data makes alone, put together.
func TestAllData(t *testing.T) {
	for _, data := range listsOf(7) {
		checkPut(t, data, ownPut(data), api.OK)
		want, err := rest.Put(1<<8|1<<7|1<<6|1<<4|1, data)
		checkPut(t, data, want, err)
	}
}

// TestAllBits fixes all fifteen bits there are, and holds that against a search of all data.
func TestAllBits(t *testing.T) {
	all := allKnown()
	fixed := [3]int{}
	for _, l := range listsOf(15) {
		data, count := nearest(all, l)
		if count > 2 {
			checkFix(t, l, nil, 0, api.ErrNone)
			continue
		}
		checkFix(t, l, data, count, api.OK)
		fixed[count]++
	}
	if fixed != [3]int{128, 128 * 15, 128 * 105} {
		t.Errorf("so many with 0, 1 and 2 turned: %v", fixed)
	}
}

// TestTurnedBitsAreFound turns none, each, and each two of all that Put makes.
func TestTurnedBitsAreFound(t *testing.T) {
	for _, data := range listsOf(7) {
		l, _ := Put(data)
		checkFix(t, l, data, 0, api.OK)
		for i := range l {
			checkFix(t, flipped(l, i), data, 1, api.OK)
			for j := range i {
				checkFix(t, flipped(l, j, i), data, 2, api.OK)
			}
		}
	}
}

// TestThreeTurnedBitsDeceive turns each three: the data do not come back, whatever is told.
func TestThreeTurnedBitsDeceive(t *testing.T) {
	data := bitsOf("1011001")
	l, _ := Put(data)
	told := map[api.Errno]int{}
	for i := range l {
		for j := range i {
			for k := range j {
				got, count, err := Fix(flipped(l, i, j, k))
				told[err]++
				if slices.Equal(got, data) || err == api.OK && count != 2 {
					t.Errorf("of %d, %d, %d turned: %v, %d, %d", i, j, k, got, count, err)
				}
			}
		}
	}
	// 18 of all have five bits, and each of those has ten pairs.
	if len(told) != 2 || told[api.OK] != 180 || told[api.ErrNone] != 275 {
		t.Errorf("so often was told: %v", told)
	}
}

func TestSomePut(t *testing.T) {
	cases := []struct {
		name, data, want string
	}{
		{"nothing set", "0000000", "000000000000000"},
		{"the first one", "1000000", "100000011101000"},
		{"one in the middle", "0001000", "000100000011101"},
		{"the last one, which makes the divisor", "0000001", "000000111010001"},
		{"the first one and the last one", "1000001", "100000100111001"},
		{"some", "1011001", "101100100011110"},
		{"all", "1111111", "111111111111111"},
	}
	for _, c := range cases {
		t.Run(c.name, func(t *testing.T) {
			checkPut(t, bitsOf(c.data), bitsOf(c.want), api.OK)
		})
	}
}

func TestSomeFix(t *testing.T) {
	cases := []struct {
		name, l, data string
		count         int
		err           api.Errno
	}{
		{"nothing is set", "000000000000000", "0000000", 0, api.OK},
		{"the document's example", "000100000000000", "0000000", 1, api.OK},
		{"the first bit is turned", "100000000000000", "0000000", 1, api.OK},
		{"the last bit of the data is turned", "000000100000000", "0000000", 1, api.OK},
		{"the first bit behind the data is turned", "000000010000000", "0000000", 1, api.OK},
		{"the last bit is turned", "000000000000001", "0000000", 1, api.OK},
		{"the first two are turned", "110000000000000", "0000000", 2, api.OK},
		{"the first one and the last one are turned", "100000000000001", "0000000", 2, api.OK},
		{"one of the data and one behind them are turned", "000000110000000", "0000000", 2, api.OK},
		{"the last two are turned", "000000000000011", "0000000", 2, api.OK},
		{"three are turned, and too far from all", "110001000000000", "", 0, api.ErrNone},
		{"three are turned, and so near others", "000000011100000", "1000000", 2, api.OK},
		{"nothing is turned", "100000011101000", "1000000", 0, api.OK},
		{"the set one of the data is turned", "000000011101000", "1000000", 1, api.OK},
		{"all are set", "111111111111111", "1111111", 0, api.OK},
		{"all are set but two", "101111111111110", "1111111", 2, api.OK},
		{"all are set but three", "001110111111111", "", 0, api.ErrNone},
	}
	for _, c := range cases {
		t.Run(c.name, func(t *testing.T) {
			checkFix(t, bitsOf(c.l), bitsOf(c.data), c.count, c.err)
		})
	}
}

// TestWrongForm has all counts of bits but the one that is right, also more than a text may have.
func TestWrongForm(t *testing.T) {
	checkPut(t, nil, nil, api.ErrForm)
	checkFix(t, nil, nil, 0, api.ErrForm)
	for _, bit := range []bool{false, true} {
		for count := range 200 {
			checkForm(t, slices.Repeat([]bool{bit}, count))
		}
		checkForm(t, slices.Repeat([]bool{bit}, 1<<16))
	}
}

// checkForm has bits too few or too many for each call that asks for another count of them.
func checkForm(t *testing.T, l []bool) {
	t.Helper()
	if len(l) != 7 {
		checkPut(t, l, nil, api.ErrForm)
	}
	if len(l) != 15 {
		checkFix(t, l, nil, 0, api.ErrForm)
	}
}

// TestFormAheadOfNone has bits of a wrong count that would also be too far from all.
func TestFormAheadOfNone(t *testing.T) {
	checkFix(t, bitsOf("1100010000000000"), nil, 0, api.ErrForm)
	checkFix(t, bitsOf("11000100000000"), nil, 0, api.ErrForm)
}

// TestListsStayAsTheyAre hands in pieces of a list: neither they nor what lies behind them is changed, and that is not read.
func TestListsStayAsTheyAre(t *testing.T) {
	for _, behind := range []bool{false, true} {
		whole := append(bitsOf("100000001101000"), slices.Repeat([]bool{behind}, 20)...)
		kept := slices.Clone(whole)
		for range 3 {
			checkPut(t, whole[:7], bitsOf("100000011101000"), api.OK)
			checkFix(t, whole[:15], bitsOf("1000000"), 1, api.OK)
			checkFix(t, flipped(whole[:15], 0, 2), nil, 0, api.ErrNone)
			checkPut(t, whole[:6], nil, api.ErrForm)
			checkFix(t, whole[:14], nil, 0, api.ErrForm)
			checkFix(t, whole[:16], nil, 0, api.ErrForm)
		}
		if !slices.Equal(whole, kept) {
			t.Errorf("bits are changed to %v", whole)
		}
	}
}

// spoil turns all bits of the list, and what lies behind it.
func spoil(l []bool) {
	l = l[:cap(l)]
	for i := range l {
		l[i] = !l[i]
	}
}

// TestAnswersAreNew spoils what came, and asks again: neither what was handed in nor the next answer is other than before.
func TestAnswersAreNew(t *testing.T) {
	data, l := bitsOf("1000000"), bitsOf("100000011101000")
	for range 3 {
		put, _ := Put(data)
		spoil(put)
		fixed, _, _ := Fix(l)
		spoil(fixed)
		checkPut(t, data, bitsOf("100000011101000"), api.OK)
		checkFix(t, l, bitsOf("1000000"), 0, api.OK)
	}
	if !slices.Equal(data, bitsOf("1000000")) || !slices.Equal(l, bitsOf("100000011101000")) {
		t.Errorf("what was handed in is changed to %v, %v", data, l)
	}
}
