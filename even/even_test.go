package even

import (
	"slices"
	"strings"
	"testing"

	"quipu/api"
)

const (
	// maxBits is how many bits may be made even.
	maxBits = 12
	// maxPut is how many bits come of that.
	maxPut = 20
)

// bitsOf has the bits of a text of zeros and ones.
func bitsOf(text string) []bool {
	var l []bool
	for _, c := range text {
		l = append(l, c == '1')
	}
	return l
}

// allOf has all texts of so many zeros and ones.
func allOf(count int) []string {
	texts := []string{""}
	for range count {
		var longer []string
		for _, text := range texts {
			longer = append(longer, text+"0", text+"1")
		}
		texts = longer
	}
	return texts
}

// evenTexts has all texts of which Turn makes something.
func evenTexts() []string {
	var texts []string
	for n := 0; n <= maxBits; n += 2 {
		texts = append(texts, allOf(n)...)
	}
	return texts
}

// firstTurned has the text with the first k bits turned.
func firstTurned(text string, k int) string {
	return strings.NewReplacer("0", "1", "1", "0").Replace(text[:k]) + text[k:]
}

// oneTurned has the text with the bit at i turned.
func oneTurned(text string, i int) string {
	return firstTurned(firstTurned(text, i+1), i)
}

// isHalf tells whether the text has as many ones as zeros.
func isHalf(text string) bool {
	return strings.Count(text, "1") == strings.Count(text, "0")
}

// ownTurn tries 0, 1, 2 and so on bits.
func ownTurn(t *testing.T, text string) (string, int) {
	t.Helper()
	for k := range len(text) + 1 {
		if other := firstTurned(text, k); isHalf(other) {
			return other, k
		}
	}
	t.Fatalf("no first bits of %s make it even", text)
	return "", 0
}

// ownCount has the bits of each count, with their opposites.
func ownCount(k int) string {
	return []string{
		"01010101", "01010110", "01011001", "01011010",
		"01100101", "01100110", "01101001", "01101010",
		"10010101", "10010110", "10011001", "10011010",
		"10100101", "10100110", "10101001", "10101010",
	}[k]
}

// ownPut has the bits of ownTurn, and those of the count.
func ownPut(t *testing.T, text string) string {
	t.Helper()
	other, k := ownTurn(t, text)
	return other + ownCount(k)
}

func checkTurn(t *testing.T, text, want string, wantK int, wantErr api.Errno) {
	t.Helper()
	if got, k, err := Turn(bitsOf(text)); !slices.Equal(got, bitsOf(want)) || k != wantK || err != wantErr {
		t.Errorf("Turn of %s: %v, %d, %d, want %s, %d, %d", text, got, k, err, want, wantK, wantErr)
	}
}

func checkPut(t *testing.T, text, want string, wantErr api.Errno) {
	t.Helper()
	if got, err := Put(bitsOf(text)); !slices.Equal(got, bitsOf(want)) || err != wantErr {
		t.Errorf("Put of %s: %v, %d, want %s, %d", text, got, err, want, wantErr)
	}
}

func checkGet(t *testing.T, l, want string, wantErr api.Errno) {
	t.Helper()
	if got, err := Get(bitsOf(l)); !slices.Equal(got, bitsOf(want)) || err != wantErr {
		t.Errorf("Get of %s: %v, %d, want %s, %d", l, got, err, want, wantErr)
	}
}

// TestAllTexts has all texts that there may be.
func TestAllTexts(t *testing.T) {
	for _, text := range evenTexts() {
		other, k := ownTurn(t, text)
		checkTurn(t, text, other, k, api.OK)
		checkPut(t, text, ownPut(t, text), api.OK)
		checkGet(t, ownPut(t, text), text, api.OK)
	}
}

// TestSomeTexts has named texts.
func TestSomeTexts(t *testing.T) {
	cases := []struct {
		name, text, other string
		k                 int
		l                 string
	}{
		{"the document's example", "11", "01", 1, "0101010110"},
		{"no bits", "", "", 0, "01010101"},
		{"two zeros", "00", "10", 1, "1001010110"},
		{"even as it is", "01", "01", 0, "0101010101"},
		{"even as it is, the one first", "10", "10", 0, "1001010101"},
		{"even with all bits turned too", "0011", "0011", 0, "001101010101"},
		{"one more than half", "0111", "1001", 3, "100101011010"},
		{"a turned bit that leads away", "1000", "0110", 3, "011001011010"},
		{"even as it is, and with some turned", "110100", "110100", 0, "11010001010101"},
		{"even with one turned, and with three", "1101", "0101", 1, "010101010110"},
		{"the way back and forth", "10100000", "01011100", 6, "0101110001101001"},
		{"the most bits, all ones", "111111111111", "000000111111", 6, "00000011111101101001"},
		{"the most bits, all zeros", "000000000000", "111111000000", 6, "11111100000001101001"},
		{"the most bits, even as they are", "111111000000", "111111000000", 0, "11111100000001010101"},
		{"all but one bit turned", "111110000000", "000001111110", 11, "00000111111010011010"},
		{"all but one bit turned, ones for zeros", "000001111111", "111110000001", 11, "11111000000110011010"},
	}
	for _, c := range cases {
		t.Run(c.name, func(t *testing.T) {
			checkTurn(t, c.text, c.other, c.k, api.OK)
			checkPut(t, c.text, c.l, api.OK)
			checkGet(t, c.l, c.text, api.OK)
		})
	}
}

// TestAllEven has what Turn and Put make: as many ones as zeros, both times.
func TestAllEven(t *testing.T) {
	for _, text := range evenTexts() {
		other, _, _ := Turn(bitsOf(text))
		l, _ := Put(bitsOf(text))
		for _, got := range [][]bool{other, l} {
			ones := 0
			for _, bit := range got {
				if bit {
					ones++
				}
			}
			if 2*ones != len(got) {
				t.Errorf("%v of %s has %d ones", got, text, ones)
			}
		}
	}
}

// TestOddTexts has an odd number of bits.
func TestOddTexts(t *testing.T) {
	for n := 1; n < maxBits; n += 2 {
		for _, text := range allOf(n) {
			checkTurn(t, text, "", 0, api.ErrForm)
			checkPut(t, text, "", api.ErrForm)
		}
	}
}

// TestTooManyBits has more bits than are taken, be their number odd or even; that they are too many is told first.
func TestTooManyBits(t *testing.T) {
	for _, n := range []int{13, 14, 15, 16, 17, 20, 24, 64, 100, 999, 1000, 1 << 16} {
		for _, part := range []string{"0", "1", "01", "0011", "110"} {
			text := strings.Repeat(part, n)[:n]
			checkTurn(t, text, "", 0, api.ErrLarge)
			checkPut(t, text, "", api.ErrLarge)
		}
	}
	for _, text := range allOf(13) {
		checkTurn(t, text, "", 0, api.ErrLarge)
		checkPut(t, text, "", api.ErrLarge)
	}
}

// TestAllGot has all bits that Get takes: those that Put does not make are told.
func TestAllGot(t *testing.T) {
	made := map[string]string{}
	for _, text := range evenTexts() {
		l := ownPut(t, text)
		if other, is := made[l]; is {
			t.Fatalf("%s is made of %s and of %s", l, other, text)
		}
		made[l] = text
	}
	for n := range maxPut + 1 {
		for w := range 1 << n {
			l := make([]bool, n)
			text := make([]byte, n)
			for i := range l {
				l[i] = w>>i&1 == 1
				text[i] = "01"[w>>i&1]
			}
			from, is := made[string(text)]
			want := api.OK
			if !is {
				want = api.ErrForm
			}
			got, err := Get(l)
			if !slices.Equal(got, bitsOf(from)) || err != want {
				t.Fatalf("Get of %s: %v, %d, want %s, %d", text, got, err, from, want)
			}
		}
	}
}

// TestSomeNotGot has named bits that Put does not make.
func TestSomeNotGot(t *testing.T) {
	cases := []struct{ name, l string }{
		{"no bits", ""},
		{"one bit", "0"},
		{"two bits", "01"},
		{"a count without its end", "0101010"},
		{"an odd number of bits", "001010101"},
		{"an odd number of bits, and one turned", "001010110"},
		{"one turned of no bits", "01010110"},
		{"15 turned of no bits", "10101010"},
		{"three turned of two", "1001011010"},
		{"15 turned of two", "0110101010"},
		{"13 turned of the most", "01010101010110100110"},
		{"more ones than zeros", "1101010101"},
		{"more zeros than ones, and one turned", "0001010110"},
		{"fewer turned would do", "001101011010"},
		{"all turned", "0101011001"},
		{"all of four turned", "001101100101"},
		{"the first bit of the count like its opposite", "0011010101"},
		{"the first bit of the count like its opposite, both 0", "0100010101"},
		{"the last bit of the count like its opposite", "0101010111"},
		{"the last bit of the count like its opposite, both 0", "0101010100"},
		{"the opposites of the count ahead of its bits", "0110101001"},
		{"the least bit of the count first", "0110010101"},
	}
	for _, c := range cases {
		t.Run(c.name, func(t *testing.T) {
			checkGet(t, c.l, "", api.ErrForm)
		})
	}
}

// TestTurnedPut turns a bit of what was put: as many ones as zeros it has no more, and does not come back.
func TestTurnedPut(t *testing.T) {
	for _, text := range evenTexts() {
		l := ownPut(t, text)
		for i := range l {
			checkGet(t, oneTurned(l, i), "", api.ErrForm)
		}
	}
}

// TestTooManyPut has more bits than are taken, be their number odd or even, and had they been put so of more bits.
func TestTooManyPut(t *testing.T) {
	for _, n := range []int{21, 22, 23, 24, 30, 64, 100, 999, 1000, 1 << 16} {
		for _, part := range []string{"0", "1", "01", "0011", "110"} {
			checkGet(t, strings.Repeat(part, n)[:n], "", api.ErrLarge)
			checkGet(t, strings.Repeat("01", n)[:n-8]+ownCount(0), "", api.ErrLarge)
		}
	}
	for _, text := range allOf(14) {
		if _, k := ownTurn(t, text); k < 16 {
			checkGet(t, ownPut(t, text), "", api.ErrLarge)
		}
	}
}

// TestListsStayAsTheyAre hands in pieces of lists: what lies behind them counts for nothing, and nothing is changed.
func TestListsStayAsTheyAre(t *testing.T) {
	for _, behind := range []string{"0101010101010101", "1111111111111111", "0000000000000000"} {
		for _, text := range evenTexts() {
			check := func(was string, is []bool, name string) {
				t.Helper()
				if !slices.Equal(is, bitsOf(was)) {
					t.Errorf("%s changed %s to %v", name, was, is)
				}
			}
			all := bitsOf(text + behind)
			other, k := ownTurn(t, text)
			if got, gotK, err := Turn(all[:len(text)]); !slices.Equal(got, bitsOf(other)) || gotK != k || err != api.OK {
				t.Errorf("Turn of a piece %s: %v, %d, %d", text, got, gotK, err)
			}
			check(text+behind, all, "Turn")
			l := ownPut(t, text)
			if got, err := Put(all[:len(text)]); !slices.Equal(got, bitsOf(l)) || err != api.OK {
				t.Errorf("Put of a piece %s: %v, %d", text, got, err)
			}
			check(text+behind, all, "Put")
			all = bitsOf(l + behind)
			if got, err := Get(all[:len(l)]); !slices.Equal(got, bitsOf(text)) || err != api.OK {
				t.Errorf("Get of a piece %s: %v, %d", l, got, err)
			}
			check(l+behind, all, "Get")
		}
	}
}

// spoil turns all of a list, and what lies behind it.
func spoil(l []bool) {
	l = l[:cap(l)]
	for i := range l {
		l[i] = !l[i]
	}
}

// TestAnswersAreNew spoils what came: what was handed in stays, and so does what comes when it is asked again.
func TestAnswersAreNew(t *testing.T) {
	for _, text := range evenTexts() {
		other, k := ownTurn(t, text)
		bare, put := bitsOf(text), bitsOf(ownPut(t, text))
		for range 2 {
			l, _, _ := Turn(bare)
			spoil(l)
			l, _ = Put(bare)
			spoil(l)
			l, _ = Get(put)
			spoil(l)
			if !slices.Equal(bare, bitsOf(text)) || !slices.Equal(put, bitsOf(ownPut(t, text))) {
				t.Fatalf("what was handed in of %s is changed", text)
			}
			checkTurn(t, text, other, k, api.OK)
			checkPut(t, text, ownPut(t, text), api.OK)
			checkGet(t, ownPut(t, text), text, api.OK)
		}
	}
}
