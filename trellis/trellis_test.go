package trellis

import (
	"slices"
	"testing"

	"quipu/api"
)

// listsOf has each list of so many bits, those with 0 where two first differ ahead of the others.
func listsOf(count int) [][]bool {
	lists := [][]bool{{}}
	for range count {
		var longer [][]bool
		for _, l := range lists {
			longer = append(longer, append(slices.Clone(l), false), append(slices.Clone(l), true))
		}
		lists = longer
	}
	return lists
}

// bitsOf has the bits of a text of zeros and ones.
func bitsOf(text string) []bool {
	var l []bool
	for _, c := range text {
		l = append(l, c == '1')
	}
	return l
}

// flipped has the bits with those at the given places turned.
func flipped(l []bool, places ...int) []bool {
	other := slices.Clone(l)
	for _, place := range places {
		other[place] = !other[place]
	}
	return other
}

// differ counts the places at which both are not the same.
func differ(a, b []bool) int {
	count := 0
	for i := range a {
		if a[i] != b[i] {
			count++
		}
	}
	return count
}

// ownPut puts together what each of the set data makes alone, from its own place on.
func ownPut(data []bool) []bool {
	l := make([]bool, 2*len(data)+4)
	for i := range data {
		for place, bit := range bitsOf("111011") {
			if data[i] && bit {
				l[2*i+place] = !l[2*i+place]
			}
		}
	}
	return l
}

// known is data, and what is made of them.
type known struct {
	data, made []bool
}

// allKnown has all data of so many bits, in their order.
func allKnown(count int) []known {
	var all []known
	for _, data := range listsOf(count) {
		all = append(all, known{data, ownPut(data)})
	}
	return all
}

// nearest goes through all data for the first ones that make what is the least apart, and tells how far that is, and how many others make the same.
func nearest(all []known, l []bool) ([]bool, int, int) {
	best, least, others := []bool(nil), len(l)+1, 0
	for _, k := range all {
		count := differ(k.made, l)
		switch {
		case count < least:
			best, least, others = k.data, count, 0
		case count == least:
			others++
		}
	}
	return best, least, others
}

func checkPut(t *testing.T, data, want []bool, wantErr api.Errno) {
	t.Helper()
	if got, err := Put(data); !slices.Equal(got, want) || err != wantErr {
		t.Errorf("Put of %v: %v, %d, want %v, %d", data, got, err, want, wantErr)
	}
}

func checkGet(t *testing.T, l, want []bool, wantCount int, wantErr api.Errno) {
	t.Helper()
	if got, count, err := Get(l); !slices.Equal(got, want) || count != wantCount || err != wantErr {
		t.Errorf("Get of %v: %v, %d, %d, want %v, %d, %d", l, got, count, err, want, wantCount, wantErr)
	}
}

// TestAllData puts all data there are, and has them back.
func TestAllData(t *testing.T) {
	for count := range api.MaxBits + 1 {
		for _, data := range listsOf(count) {
			l := ownPut(data)
			checkPut(t, data, l, api.OK)
			checkGet(t, l, data, 0, api.OK)
		}
	}
}

// TestAllShortBits reads all bits there are up to sixteen, and holds that against a search of all data.
func TestAllShortBits(t *testing.T) {
	several := 0
	for count := range 7 {
		all := allKnown(count)
		for _, l := range listsOf(2*count + 4) {
			data, apart, others := nearest(all, l)
			checkGet(t, l, data, apart, api.OK)
			several += others
		}
	}
	if several == 0 {
		t.Error("no bits are as near to what several data make")
	}
}

// someBits makes lists of so many bits, which hang on no rule to be seen, but are the same each time.
func someBits(count, lists int) [][]bool {
	var made [][]bool
	seed := uint64(count)
	for range lists {
		l := make([]bool, count)
		for i := range l {
			seed = seed*6364136223846793005 + 1442695040888963407
			l[i] = seed>>63 == 1
		}
		made = append(made, l)
	}
	return made
}

// TestLongBits reads some of the bits of the counts that are too great to have all, up to the greatest one.
func TestLongBits(t *testing.T) {
	for count := 7; count <= api.MaxBits; count++ {
		all, several := allKnown(count), 0
		for _, l := range someBits(2*count+4, 300) {
			data, apart, others := nearest(all, l)
			checkGet(t, l, data, apart, api.OK)
			several += others
		}
		if several == 0 {
			t.Errorf("of %d data no bits are as near to what several make", count)
		}
	}
}

// TestTurnedBitsAreFound turns each bit, and each two, of what Put makes: any data make what is five apart from what others make, or more.
func TestTurnedBitsAreFound(t *testing.T) {
	lists := slices.Concat(listsOf(0), listsOf(1), listsOf(2), listsOf(5), someBits(api.MaxBits, 20))
	for _, data := range lists {
		l, _ := Put(data)
		for i := range l {
			checkGet(t, flipped(l, i), data, 1, api.OK)
			for j := range i {
				checkGet(t, flipped(l, j, i), data, 2, api.OK)
			}
		}
	}
}

// TestTurnedBitsFarApart turns more bits than two, of which none hangs on the same data as another one.
func TestTurnedBitsFarApart(t *testing.T) {
	for _, data := range someBits(api.MaxBits, 50) {
		l, _ := Put(data)
		checkGet(t, flipped(l, 0, 14, 27), data, 3, api.OK)
		checkGet(t, flipped(l, 1, 13, 26), data, 3, api.OK)
	}
}

func TestSomePut(t *testing.T) {
	cases := []struct {
		name, data, want string
	}{
		{"no data", "", "0000"},
		{"the document's example", "1", "111011"},
		{"one that is not set", "0", "000000"},
		{"two, none set", "00", "00000000"},
		{"two, the last one set", "01", "00111011"},
		{"two, the first one set", "10", "11101100"},
		{"two, both set", "11", "11010111"},
		{"one between two", "101", "1110001011"},
		{"some", "1011", "111000010111"},
		{"the last one of seven", "0000001", "000000000000111011"},
		{"as many as there may be, none set", "000000000000", "0000000000000000000000000000"},
		{"as many as there may be, all set", "111111111111", "1101101010101010101010100111"},
		{"as many as there may be, some set", "101101000111", "1110000101001011001101100111"},
	}
	for _, c := range cases {
		t.Run(c.name, func(t *testing.T) {
			checkPut(t, bitsOf(c.data), bitsOf(c.want), api.OK)
		})
	}
}

func TestSomeGet(t *testing.T) {
	cases := []struct {
		name, l, data string
		count         int
	}{
		{"of no data", "0000", "", 0},
		{"of no data, one turned", "0100", "", 1},
		{"of no data, all turned", "1111", "", 4},
		{"what Put makes of 1", "111011", "1", 0},
		{"the one that is not set is turned", "111111", "1", 1},
		{"the first one is turned", "011011", "1", 1},
		{"the last two are turned", "111000", "1", 2},
		{"two of none set are turned", "001010", "0", 2},
		{"three of none set are turned, and nearer to the other", "011010", "1", 2},
		{"as near to 00 and 11", "00000111", "00", 3},
		{"as near to 00 and 11, the first bit set", "11010000", "00", 3},
		{"as near to 01 and 10", "00101101", "01", 3},
		{"as near to 01 and 10, the first bits set", "11101011", "01", 3},
		{"as many as there may be, some turned", "1110100101001011001101000111", "101101000111", 2},
		{"as many as there may be, none set", "0000000000000000000000000000", "000000000000", 0},
	}
	for _, c := range cases {
		t.Run(c.name, func(t *testing.T) {
			checkGet(t, bitsOf(c.l), bitsOf(c.data), c.count, api.OK)
		})
	}
}

// TestPutOfTooManyData has all counts of data that are too great, up to many.
func TestPutOfTooManyData(t *testing.T) {
	for _, bit := range []bool{false, true} {
		for count := api.MaxBits + 1; count < 200; count++ {
			checkPut(t, slices.Repeat([]bool{bit}, count), nil, api.ErrLarge)
		}
		checkPut(t, slices.Repeat([]bool{bit}, 1<<16), nil, api.ErrLarge)
	}
}

// TestWrongCounts reads bits of all wrong counts. An odd number of too many is told as odd.
func TestWrongCounts(t *testing.T) {
	checkGet(t, nil, nil, 0, api.ErrForm)
	for _, bit := range []bool{false, true} {
		for count := range 200 {
			l := slices.Repeat([]bool{bit}, count)
			switch {
			case count%2 == 1 || count < 4:
				checkGet(t, l, nil, 0, api.ErrForm)
			case count > 2*api.MaxBits+4:
				checkGet(t, l, nil, 0, api.ErrLarge)
			}
		}
		checkGet(t, slices.Repeat([]bool{bit}, 1<<16), nil, 0, api.ErrLarge)
		checkGet(t, slices.Repeat([]bool{bit}, 1<<16+1), nil, 0, api.ErrForm)
	}
}

// TestListsStayAsTheyAre hands in pieces of a list: neither they nor what lies behind them is changed, and that is not read.
func TestListsStayAsTheyAre(t *testing.T) {
	for _, behind := range []bool{false, true} {
		whole := append(bitsOf("111111"), slices.Repeat([]bool{behind}, 30)...)
		kept := slices.Clone(whole)
		for range 3 {
			checkPut(t, whole[:0], bitsOf("0000"), api.OK)
			checkPut(t, whole[:2], bitsOf("11010111"), api.OK)
			checkPut(t, whole[:13], nil, api.ErrLarge)
			checkGet(t, whole[:4], nil, 4, api.OK)
			checkGet(t, whole[:6], bitsOf("1"), 1, api.OK)
			checkGet(t, whole[:5], nil, 0, api.ErrForm)
			checkGet(t, whole[:2], nil, 0, api.ErrForm)
			checkGet(t, whole[:30], nil, 0, api.ErrLarge)
		}
		if !slices.Equal(whole, kept) {
			t.Errorf("bits are changed to %v", whole)
		}
	}
}

// spoil turns all bits of the list, and what lies behind it.
func spoil(l []bool) {
	l = l[:cap(l)]
	for i := range l {
		l[i] = !l[i]
	}
}

// TestAnswersAreNew spoils what came, and asks again: neither what was handed in nor the next answer is other than before.
func TestAnswersAreNew(t *testing.T) {
	data, l := bitsOf("11"), bitsOf("11010111")
	for range 3 {
		put, _ := Put(data)
		spoil(put)
		got, _, _ := Get(l)
		spoil(got)
		checkPut(t, data, bitsOf("11010111"), api.OK)
		checkGet(t, l, bitsOf("11"), 0, api.OK)
	}
	if !slices.Equal(data, bitsOf("11")) || !slices.Equal(l, bitsOf("11010111")) {
		t.Errorf("what was handed in is changed to %v, %v", data, l)
	}
}
