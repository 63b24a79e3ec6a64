package stuff

import (
	"slices"
	"strings"
	"testing"

	"quipu/api"
)

const (
	// maxText is how many bits a text may have.
	maxText = 64
	// maxTexts is how many texts may be framed.
	maxTexts = 8
	// maxSplit is how many bits may be split.
	maxSplit = 1000
	// ownFlag has the bits of a flag.
	ownFlag = "01111110"
)

// bitsOf has the bits of a text of zeros and ones.
func bitsOf(text string) []bool {
	var l []bool
	for _, c := range text {
		l = append(l, c == '1')
	}
	return l
}

// listsOf has the bits of some texts of zeros and ones.
func listsOf(texts ...string) [][]bool {
	var lists [][]bool
	for _, text := range texts {
		lists = append(lists, bitsOf(text))
	}
	return lists
}

// allOf has all texts of so many zeros and ones.
func allOf(count int) []string {
	texts := []string{""}
	for range count {
		var longer []string
		for _, text := range texts {
			longer = append(longer, text+"0", text+"1")
		}
		texts = longer
	}
	return texts
}

// upTo has all texts of at most so many zeros and ones.
func upTo(count int) []string {
	var texts []string
	for n := range count + 1 {
		texts = append(texts, allOf(n)...)
	}
	return texts
}

// longTexts has texts of so many zeros and ones, some of which have many ones.
func longTexts(count int) []string {
	var texts []string
	for _, part := range []string{"0", "1", "01", "10", "1110", "11110", "111110", "011111", "1111110", "01111110", "1111111110", "11111111110", "111110111111"} {
		texts = append(texts, strings.Repeat(part, count)[:count])
	}
	return texts
}

// ownStuff puts a 0 behind each five ones.
func ownStuff(text string) string {
	return strings.ReplaceAll(text, "11111", "111110")
}

// ownFrames puts flags ahead of the texts, between them and behind them.
func ownFrames(texts ...string) string {
	l := ownFlag
	for _, text := range texts {
		l += ownStuff(text) + ownFlag
	}
	return l
}

// turned has the text with the bit at i turned.
func turned(text string, i int) string {
	bit := "1"
	if text[i] == '1' {
		bit = "0"
	}
	return text[:i] + bit + text[i+1:]
}

// same tells whether both have like lists, in this order.
func same(a, b [][]bool) bool {
	return slices.EqualFunc(a, b, slices.Equal[[]bool])
}

func checkStuff(t *testing.T, text, want string, wantErr api.Errno) {
	t.Helper()
	if got, err := Stuff(bitsOf(text)); !slices.Equal(got, bitsOf(want)) || err != wantErr {
		t.Errorf("Stuff of %s: %v, %d, want %s, %d", text, got, err, want, wantErr)
	}
}

func checkBare(t *testing.T, text, want string, wantErr api.Errno) {
	t.Helper()
	if got, err := Bare(bitsOf(text)); !slices.Equal(got, bitsOf(want)) || err != wantErr {
		t.Errorf("Bare of %s: %v, %d, want %s, %d", text, got, err, want, wantErr)
	}
}

func checkFrames(t *testing.T, texts []string, want string, wantErr api.Errno) {
	t.Helper()
	if got, err := Frames(listsOf(texts...)); !slices.Equal(got, bitsOf(want)) || err != wantErr {
		t.Errorf("Frames of %q: %v, %d, want %s, %d", texts, got, err, want, wantErr)
	}
}

func checkSplit(t *testing.T, text string, want []string, wantErr api.Errno) {
	t.Helper()
	if got, err := Split(bitsOf(text)); !same(got, listsOf(want...)) || err != wantErr {
		t.Errorf("Split of %s: %v, %d, want %q, %d", text, got, err, want, wantErr)
	}
}

// TestAllStuffed has all short texts.
func TestAllStuffed(t *testing.T) {
	for _, text := range upTo(14) {
		checkStuff(t, text, ownStuff(text), api.OK)
		checkBare(t, ownStuff(text), text, api.OK)
	}
}

// TestAllBared has all short bits: those of no text are told.
func TestAllBared(t *testing.T) {
	made := map[string]string{}
	for _, text := range upTo(14) {
		made[ownStuff(text)] = text
	}
	for _, l := range upTo(14) {
		text, is := made[l]
		want := api.OK
		if !is {
			want = api.ErrForm
		}
		checkBare(t, l, text, want)
	}
}

// TestLongStuffed has texts up to the most bits; what is made of them may have more, but then Bare does not take it.
func TestLongStuffed(t *testing.T) {
	for n := 15; n <= maxText; n++ {
		for _, text := range longTexts(n) {
			l := ownStuff(text)
			checkStuff(t, text, l, api.OK)
			if len(l) > maxText {
				checkBare(t, l, "", api.ErrLarge)
				continue
			}
			checkBare(t, l, text, api.OK)
		}
	}
}

// TestSomeStuffed has named texts.
func TestSomeStuffed(t *testing.T) {
	cases := []struct{ name, text, l string }{
		{"the document's example", "11111", "111110"},
		{"no bits", "", ""},
		{"one bit 0", "0", "0"},
		{"one bit 1", "1", "1"},
		{"four in a row", "1111", "1111"},
		{"four and a 0 and four", "111101111", "111101111"},
		{"five and a 0", "111110", "1111100"},
		{"five and two 0", "1111100", "11111000"},
		{"six in a row", "111111", "1111101"},
		{"nine in a row", "111111111", "1111101111"},
		{"ten in a row", "1111111111", "111110111110"},
		{"eleven in a row", "11111111111", "1111101111101"},
		{"five and a 0 and five", "11111011111", "1111100111110"},
		{"a flag", "01111110", "011111010"},
		{"five at the end", "0011111", "00111110"},
	}
	for _, c := range cases {
		t.Run(c.name, func(t *testing.T) {
			checkStuff(t, c.text, c.l, api.OK)
			checkBare(t, c.l, c.text, api.OK)
		})
	}
}

// TestMostBits has just as many bits as are taken.
func TestMostBits(t *testing.T) {
	ones := strings.Repeat("1", 64)
	checkStuff(t, ones, strings.Repeat("111110", 12)+"1111", api.OK)
	checkBare(t, strings.Repeat("111110", 10)+"1111", strings.Repeat("1", 54), api.OK)
	checkBare(t, strings.Repeat("0", 58)+"111110", strings.Repeat("0", 58)+"11111", api.OK)
	checkBare(t, strings.Repeat("0", 64), strings.Repeat("0", 64), api.OK)
	checkBare(t, ones, "", api.ErrForm)
	checkBare(t, strings.Repeat("0", 59)+"11111", "", api.ErrForm)
}

// TestTooManyBits has more than are taken, be they made of a text or not.
func TestTooManyBits(t *testing.T) {
	for _, n := range []int{65, 66, 70, 100, 128, 1000, 1001, 1 << 16} {
		for _, text := range longTexts(n) {
			checkStuff(t, text, "", api.ErrLarge)
			checkBare(t, text, "", api.ErrLarge)
			checkBare(t, ownStuff(text), "", api.ErrLarge)
		}
	}
}

// TestSomeNotBare has named bits that are made of no text.
func TestSomeNotBare(t *testing.T) {
	cases := []struct{ name, l string }{
		{"five in a row", "11111"},
		{"six in a row", "111111"},
		{"six and a 0", "1111110"},
		{"a flag", "01111110"},
		{"five at the end", "011111"},
		{"five, and five at the end", "11111011111"},
		{"five, and six", "111110111111"},
		{"six behind others", "101111110"},
	}
	for _, c := range cases {
		t.Run(c.name, func(t *testing.T) {
			checkBare(t, c.l, "", api.ErrForm)
		})
	}
}

// TestSomeFrames has named texts, and has them back.
func TestSomeFrames(t *testing.T) {
	cases := []struct {
		name  string
		texts []string
		l     string
	}{
		{"no text", nil, "01111110"},
		{"an empty text", []string{""}, "0111111001111110"},
		{"two empty texts", []string{"", ""}, "011111100111111001111110"},
		{"one bit 0", []string{"0"}, "01111110001111110"},
		{"one bit 1", []string{"1"}, "01111110101111110"},
		{"five ones and none", []string{"11111", ""}, "011111101111100111111001111110"},
		{"none and five ones", []string{"", "11111"}, "011111100111111011111001111110"},
		{"one to six ones", []string{"1", "11", "111", "1111", "11111", "111111"}, "01111110" + "101111110" + "1101111110" + "11101111110" + "111101111110" + "11111001111110" + "111110101111110"},
		{"a flag", []string{"01111110"}, "0111111001111101001111110"},
		{"the end of a flag and its beginning", []string{"1111110", "0111111"}, "01111110" + "11111010" + "01111110" + "01111101" + "01111110"},
		{"the most texts", []string{"", "0", "1", "00", "01", "10", "11", "000"}, "01111110" + "01111110" + "001111110" + "101111110" + "0001111110" + "0101111110" + "1001111110" + "1101111110" + "00001111110"},
	}
	for _, c := range cases {
		t.Run(c.name, func(t *testing.T) {
			checkFrames(t, c.texts, c.l, api.OK)
			checkSplit(t, c.l, c.texts, api.OK)
		})
	}
}

// TestAllPairs has all two short texts.
func TestAllPairs(t *testing.T) {
	for _, a := range upTo(7) {
		for _, b := range upTo(7) {
			checkFrames(t, []string{a, b}, ownFrames(a, b), api.OK)
			checkSplit(t, ownFrames(a, b), []string{a, b}, api.OK)
		}
	}
}

// TestLongFrames has as many texts as there may be, of up to as many bits as they may have.
func TestLongFrames(t *testing.T) {
	for n := range maxText + 1 {
		long := longTexts(n)
		for at := range long {
			var texts []string
			for i := range maxTexts {
				texts = append(texts, long[(at+i)%len(long)])
				checkFrames(t, texts, ownFrames(texts...), api.OK)
				checkSplit(t, ownFrames(texts...), texts, api.OK)
			}
		}
	}
}

// TestMostFrames has the most texts of the most bits, of which the most are made.
func TestMostFrames(t *testing.T) {
	texts := slices.Repeat([]string{strings.Repeat("1", 64)}, 8)
	l := "01111110" + strings.Repeat(strings.Repeat("111110", 12)+"1111"+"01111110", 8)
	if len(l) != 680 {
		t.Fatalf("%d bits", len(l))
	}
	checkFrames(t, texts, l, api.OK)
	checkSplit(t, l, texts, api.OK)
}

// TestTooManyTexts has too many texts, or one that is too long: neither is framed, and neither is split.
func TestTooManyTexts(t *testing.T) {
	for _, n := range []int{9, 10, 16, 100, 1000} {
		texts := make([]string, n)
		checkFrames(t, texts, "", api.ErrLarge)
		want := api.ErrForm
		if 8*n+8 > maxSplit {
			want = api.ErrLarge
		}
		checkSplit(t, ownFrames(texts...), nil, want)
	}
	for _, n := range []int{65, 66, 76, 77, 128, 512, 1000} {
		for _, text := range longTexts(n) {
			for at := range maxTexts {
				texts := slices.Insert(make([]string, maxTexts-1), at, text)
				checkFrames(t, texts, "", api.ErrLarge)
				l := ownFrames(texts...)
				want := api.ErrForm
				if len(l) > maxSplit {
					want = api.ErrLarge
				}
				checkSplit(t, l, nil, want)
			}
		}
	}
}

// TestAllSplit has all bits that may stand behind a flag, as long as they are not many.
func TestAllSplit(t *testing.T) {
	const most = 17
	made := map[string][]string{ownFlag: nil}
	for _, text := range upTo(most - len(ownFlag)) {
		made[ownFrames(text)] = []string{text}
	}
	for _, text := range upTo(most - 2*len(ownFlag)) {
		made[ownFrames("", text)] = []string{"", text}
		made[ownFrames(text, "")] = []string{text, ""}
	}
	for _, behind := range upTo(most) {
		texts, is := made[ownFlag+behind]
		want := api.OK
		if !is {
			want = api.ErrForm
		}
		checkSplit(t, ownFlag+behind, texts, want)
	}
}

// TestNoFlagFirst has all short bits, of which but the flag begins with one.
func TestNoFlagFirst(t *testing.T) {
	for _, l := range upTo(14) {
		if !strings.HasPrefix(l, ownFlag) {
			checkSplit(t, l, nil, api.ErrForm)
		}
	}
}

// TestSomeNotSplit has named bits that are made of no texts.
func TestSomeNotSplit(t *testing.T) {
	cases := []struct{ name, l string }{
		{"no bits", ""},
		{"a text without flags", "10101"},
		{"a flag without its end", "0111111"},
		{"a flag without its beginning", "1111110"},
		{"no flag first", "10101111110"},
		{"a 0 ahead of the flag", "001111110"},
		{"a 1 ahead of the flags", "10111111001111110"},
		{"no flag last", "01111110101"},
		{"a 0 behind the flags", "01111110011111100"},
		{"a 0 behind the flag", "011111100"},
		{"two flags with one 0 between", "011111101111110"},
		{"three flags, two with one 0 between", "01111110011111101111110"},
		{"a text and a flag with one 0 between that both would need", "01111110111110" + "1111110"},
		{"five ones and a flag", "01111110" + "11111" + "01111110"},
		{"six ones and a flag", "01111110" + "111111" + "01111110"},
		{"seven ones and a flag", "01111110" + "01111111" + "01111110"},
		{"six ones and a 0 and a flag", "01111110" + "1111110" + "01111110"},
		{"seven ones for a flag", "011111110"},
		{"five ones for a flag", "01111100"},
		{"one of two texts with five ones", "01111110" + "0" + "01111110" + "11111" + "01111110"},
		{"the first of two texts with five ones", "01111110" + "11111" + "01111110" + "0" + "01111110"},
	}
	for _, c := range cases {
		t.Run(c.name, func(t *testing.T) {
			checkSplit(t, c.l, nil, api.ErrForm)
		})
	}
}

// TestTurnedFrames turns a bit of what was framed: if that comes back, then of other texts, of which it is made.
func TestTurnedFrames(t *testing.T) {
	for _, texts := range [][]string{{}, {"", "1"}, {"11111", "0111110"}, {"01111110", "111111111111", ""}, {strings.Repeat("1", 64), strings.Repeat("0", 64)}} {
		l := ownFrames(texts...)
		for i := range l {
			bad := bitsOf(turned(l, i))
			got, err := Split(bad)
			if err == api.ErrForm && len(got) == 0 {
				continue
			}
			again, gone := Frames(got)
			if err != api.OK || gone != api.OK || !slices.Equal(again, bad) {
				t.Errorf("Split of %s with %d turned: %v, %d", l, i, got, err)
			}
		}
	}
}

// TestMostSplit has as many bits as are taken, and one more; none of so many is made of texts.
func TestMostSplit(t *testing.T) {
	for _, n := range []int{681, 688, 999, 1000, 1001, 1002, 2000, 1 << 16} {
		want := api.ErrForm
		if n > maxSplit {
			want = api.ErrLarge
		}
		for _, text := range longTexts(n) {
			checkSplit(t, text, nil, want)
		}
		checkSplit(t, ownFlag+strings.Repeat("0", n-16)+ownFlag, nil, want)
		checkSplit(t, strings.Repeat(ownFlag, n/8)+ownFlag[:n%8], nil, want)
	}
}

// TestListsStayAsTheyAre hands in pieces of lists: what lies behind them counts for nothing, and nothing is changed.
func TestListsStayAsTheyAre(t *testing.T) {
	check := func(was, is []bool, name string) {
		t.Helper()
		if !slices.Equal(was, is) {
			t.Errorf("%s changed %v to %v", name, was, is)
		}
	}
	behind := "0111111011111"
	for _, text := range append(upTo(8), longTexts(50)...) {
		all := bitsOf(text + behind)
		if got, err := Stuff(all[:len(text)]); !slices.Equal(got, bitsOf(ownStuff(text))) || err != api.OK {
			t.Errorf("Stuff of a piece %s: %v, %d", text, got, err)
		}
		check(bitsOf(text+behind), all, "Stuff")

		l := ownStuff(text)
		all = bitsOf(l + behind)
		if got, err := Bare(all[:len(l)]); !slices.Equal(got, bitsOf(text)) || err != api.OK {
			t.Errorf("Bare of a piece %s: %v, %d", l, got, err)
		}
		check(bitsOf(l+behind), all, "Bare")

		all = bitsOf(text + behind)
		texts := [][]bool{all[:len(text)], all[:0], nil, {true}}
		if got, err := Frames(texts[:3]); !slices.Equal(got, bitsOf(ownFrames(text, "", ""))) || err != api.OK {
			t.Errorf("Frames of pieces %s: %v, %d", text, got, err)
		}
		check(bitsOf(text+behind), all, "Frames")
		if !same(texts, listsOf(text, "", "", "1")) {
			t.Errorf("Frames changed the texts to %v", texts)
		}

		l = ownFrames(text, text)
		all = bitsOf(l + behind)
		if got, err := Split(all[:len(l)]); !same(got, listsOf(text, text)) || err != api.OK {
			t.Errorf("Split of a piece %s: %v, %d", l, got, err)
		}
		check(bitsOf(l+behind), all, "Split")
	}
}

// spoil turns all of a list, and what lies behind it.
func spoil(l []bool) {
	l = l[:cap(l)]
	for i := range l {
		l[i] = !l[i]
	}
}

// TestAnswersAreNew spoils what came: what was handed in stays, and so does what comes when it is asked again.
func TestAnswersAreNew(t *testing.T) {
	for _, text := range append(upTo(6), longTexts(50)...) {
		bare, stuffed, framed := bitsOf(text), bitsOf(ownStuff(text)), bitsOf(ownFrames(text, text, text))
		for range 2 {
			l, _ := Stuff(bare)
			spoil(l)
			l, _ = Bare(stuffed)
			spoil(l)
			l, _ = Frames([][]bool{bare, bare})
			spoil(l)
			l, _ = Frames(nil)
			spoil(l)
			if !slices.Equal(bare, bitsOf(text)) || !slices.Equal(stuffed, bitsOf(ownStuff(text))) {
				t.Fatalf("what was handed in of %s is changed", text)
			}
			checkStuff(t, text, ownStuff(text), api.OK)
			checkBare(t, ownStuff(text), text, api.OK)
			checkFrames(t, []string{text, text}, ownFrames(text, text), api.OK)
			checkFrames(t, nil, ownFlag, api.OK)
		}
		texts, _ := Split(framed)
		for at := range texts {
			for _, other := range texts[at:] {
				if !slices.Equal(other, bare) {
					t.Fatalf("texts of %s hang together", text)
				}
			}
			spoil(texts[at])
		}
		if !slices.Equal(framed, bitsOf(ownFrames(text, text, text))) {
			t.Fatalf("Split changed %s", ownFrames(text, text, text))
		}
		checkSplit(t, ownFrames(text, text, text), []string{text, text, text}, api.OK)
	}
}
