package turn

import (
	"bytes"
	"math"
	"slices"
	"sort"
	"strings"
	"testing"

	"quipu/api"
)

// turnCases has texts with what Turn makes of them.
func turnCases() []struct {
	text, last string
	at         int
} {
	return []struct {
		text, last string
		at         int
	}{
		{"", "", 0},
		{"a", "a", 0},
		{"\x00", "\x00", 0},
		{"ab", "ba", 0},
		{"ba", "ba", 1},
		{"aa", "aa", 0}, // both turns are the same: the text takes fewer changes
		{"aba", "baa", 1},
		{"aab", "baa", 0},
		{"baa", "baa", 2},
		{"aaa", "aaa", 0},
		{"abab", "bbaa", 0},
		{"baba", "bbaa", 2},
		{"abcabc", "ccaabb", 0},
		{"bcabca", "ccaabb", 2},
		{"cabcab", "ccaabb", 4},
		{"\x00\xff", "\xff\x00", 0},
		{"\x80\x7f\x00\xff", "\x7f\x80\xff\x00", 2},
		{"banana", "nnbaaa", 3},
		{"abraca", "caraab", 1},
	}
}

func checkTurn(t *testing.T, text, last string, at int) {
	t.Helper()
	if l, p, err := Turn([]byte(text)); string(l) != last || p != at || err != api.OK {
		t.Errorf("Turn of %q: %q, %d, %d, want %q, %d", text, l, p, err, last, at)
	}
}

func checkBack(t *testing.T, last string, at int, text string) {
	t.Helper()
	if got, err := Back([]byte(last), at); string(got) != text || err != api.OK {
		t.Errorf("Back of %q, %d: %q, %d, want %q", last, at, got, err, text)
	}
}

func checkNoBack(t *testing.T, last string, at int, want api.Errno) {
	t.Helper()
	if got, err := Back([]byte(last), at); len(got) != 0 || err != want {
		t.Errorf("Back of %q, %d: %q, %d, want error %d", last, at, got, err, want)
	}
}

// turnByWords is Turn by the promise's own words: whole turns, put in order.
func turnByWords(text string) (string, int) {
	type turned struct {
		text    string
		changes int
	}
	turns := []turned{}
	for changes, now := 0, text; changes < len(text); changes++ {
		turns = append(turns, turned{now, changes})
		now = now[1:] + now[:1]
	}
	sort.Slice(turns, func(i, j int) bool {
		if turns[i].text != turns[j].text {
			return turns[i].text < turns[j].text
		}
		return turns[i].changes < turns[j].changes
	})
	last, at := "", 0
	for place, one := range turns {
		last += one.text[len(text)-1:]
		if one.changes == 0 {
			at = place
		}
	}
	return last, at
}

// mixer makes numbers that look like any others, the same ones each time.
type mixer uint64

func (m *mixer) below(n int) int {
	*m = *m*6364136223846793005 + 1442695040888963407
	return int(uint64(*m) >> 33 % uint64(n))
}

// text makes one of up to MaxText bytes, now of few different ones, now of many.
func (m *mixer) text() []byte {
	text := make([]byte, m.below(api.MaxText+1))
	letters := 1 + m.below(256)>>m.below(9)
	for i := range text {
		text[i] = byte(255 - m.below(letters))
	}
	return text
}

// texts has all texts of one length of so many letters.
func texts(letters, size int) []string {
	all := []string{""}
	for range size {
		more := []string{}
		for _, text := range all {
			for letter := range letters {
				more = append(more, text+string(rune('a'+letter)))
			}
		}
		all = more
	}
	return all
}

func TestTurnAndBack(t *testing.T) {
	for _, c := range turnCases() {
		checkTurn(t, c.text, c.last, c.at)
		checkBack(t, c.last, c.at, c.text)
	}
	if l, at, err := Turn(nil); len(l) != 0 || at != 0 || err != api.OK {
		t.Errorf("Turn of nil: %v, %d, %d", l, at, err)
	}
	if l, err := Back(nil, 0); len(l) != 0 || err != api.OK {
		t.Errorf("Back of nil: %v, %d", l, err)
	}
}

// TestShortTexts takes all short texts of few letters: each last with each place is either the Turn of one of them, or of none.
func TestShortTexts(t *testing.T) {
	type key struct {
		last string
		at   int
	}
	for letters, most := range map[int]int{1: 12, 2: 10, 3: 6, 4: 5} {
		for size := range most + 1 {
			all := texts(letters, size)
			whose := map[key]string{}
			for _, text := range all {
				last, at := turnByWords(text)
				checkTurn(t, text, last, at)
				whose[key{last, at}] = text
			}
			for _, last := range all {
				for at := -2; at < size+3; at++ {
					if text, ok := whose[key{last, at}]; ok {
						checkBack(t, last, at, text)
					} else {
						checkNoBack(t, last, at, api.ErrNone)
					}
				}
			}
		}
	}
}

func TestAnyTextTurnsBack(t *testing.T) {
	m := mixer(3)
	for range 5000 {
		text := string(m.text())
		if m.below(4) == 0 {
			// Texts that are one piece again and again have turns that are the same.
			piece := text[:m.below(min(len(text), 8)+1)]
			text = strings.Repeat(piece, m.below(9))
		}
		last, at := turnByWords(text)
		checkTurn(t, text, last, at)
		checkBack(t, last, at, text)
	}
}

// TestAnyBytesBack takes bytes that are mostly no text's last ones: what is answered has this Turn, or no text has it.
func TestAnyBytesBack(t *testing.T) {
	m := mixer(4)
	for range 5000 {
		last := string(m.text())
		at := m.below(len(last)+4) - 2
		text, err := Back([]byte(last), at)
		if err == api.OK {
			checkTurn(t, string(text), last, at)
		} else {
			checkNoBack(t, last, at, api.ErrNone)
		}
	}
}

// TestNoBack names bytes and places that no text has as its Turn.
func TestNoBack(t *testing.T) {
	for _, at := range []int{-1, 1, 2, api.MaxText, math.MinInt, math.MaxInt, math.MinInt32, math.MaxInt32} {
		checkNoBack(t, "", at, api.ErrNone)
		checkNoBack(t, "a", at, api.ErrNone)
	}
	for _, at := range []int{-1, 3, 4, math.MinInt, math.MaxInt} {
		checkNoBack(t, "baa", at, api.ErrNone)
	}
	// The bytes are in order already, so that each turn would be one byte again and again.
	for at := range 2 {
		checkNoBack(t, "ab", at, api.ErrNone)
	}
	for at := range 3 {
		checkNoBack(t, "aab", at, api.ErrNone)
		checkNoBack(t, "bab", at, api.ErrNone)
	}
	// The text is ahead of all other turns that are the same.
	for _, at := range []int{1, 3} {
		checkNoBack(t, "bbaa", at, api.ErrNone)
	}
	for size := 1; size <= api.MaxText; size++ {
		same := strings.Repeat("z", size)
		checkBack(t, same, 0, same)
		for at := 1; at <= size; at++ {
			checkNoBack(t, same, at, api.ErrNone)
		}
	}
}

// TestTurnLarge stands at MaxText bytes and goes above it.
func TestTurnLarge(t *testing.T) {
	for _, n := range []int{api.MaxText + 1, api.MaxText + 2, 2 * api.MaxText, 1 << 20} {
		long := make([]byte, n)
		long[n-1] = 1
		if l, at, err := Turn(long); len(l) != 0 || at != 0 || err != api.ErrLarge {
			t.Errorf("Turn of %d bytes: %v, %d, %d, want ErrLarge", n, l, at, err)
		}
		// What is named first is told, whatever the place.
		for _, at := range []int{0, -1, n - 1, n, math.MinInt, math.MaxInt} {
			checkNoBack(t, string(long), at, api.ErrLarge)
		}
	}
	full := strings.Repeat("b", api.MaxText-1) + "a"
	last := strings.Repeat("b", api.MaxText-1) + "a"
	checkTurn(t, full, last, api.MaxText-1)
	checkBack(t, last, api.MaxText-1, full)
	checkNoBack(t, last, api.MaxText, api.ErrNone)
}

// frontCases has texts with what Front makes of them.
func frontCases() []struct {
	text string
	list []int
} {
	return []struct {
		text string
		list []int
	}{
		{"", []int{}},
		{"\x00", []int{0}},
		{"\xff", []int{255}},
		{"a", []int{97}},
		{"\x02\x02\x00", []int{2, 0, 1}},
		{"\xff\xff\x00\xff", []int{255, 0, 1, 1}},
		{"\x00\x01\x02\x03", []int{0, 1, 2, 3}},
		{"\x03\x02\x01\x00", []int{3, 3, 3, 3}},
		{"\xfe\xff\xfe", []int{254, 255, 1}},
		{"\x05\x09\x05\x09\x07", []int{5, 9, 1, 1, 8}},
		{"baa", []int{98, 98, 0}},
		{"banana", []int{98, 98, 110, 1, 1, 1}},
	}
}

func checkFront(t *testing.T, text string, want []int) {
	t.Helper()
	if got, err := Front([]byte(text)); !slices.Equal(got, want) || err != api.OK {
		t.Errorf("Front of %q: %v, %d, want %v", text, got, err, want)
	}
}

func checkUnfront(t *testing.T, list []int, want string) {
	t.Helper()
	if got, err := Unfront(list); string(got) != want || err != api.OK {
		t.Errorf("Unfront of %v: %q, %d, want %q", list, got, err, want)
	}
}

func checkNoUnfront(t *testing.T, list []int, want api.Errno) {
	t.Helper()
	if got, err := Unfront(list); len(got) != 0 || err != want {
		t.Errorf("Unfront of %v: %q, %d, want error %d", list, got, err, want)
	}
}

// frontByCount tells places without a list: ahead of a byte stand those that came since it did last, or, of one that is new, all that came and the lesser ones that did not.
func frontByCount(text []byte) []int {
	list := []int{}
	for i, b := range text {
		came := map[byte]int{}
		old := false
		for j := i - 1; j >= 0 && !old; j-- {
			old = text[j] == b
			if !old {
				came[text[j]]++
			}
		}
		place := len(came)
		for lesser := 0; lesser < int(b) && !old; lesser++ {
			if came[byte(lesser)] == 0 {
				place++
			}
		}
		list = append(list, place)
	}
	return list
}

func TestFrontAndUnfront(t *testing.T) {
	for _, c := range frontCases() {
		checkFront(t, c.text, c.list)
		checkUnfront(t, c.list, c.text)
	}
	checkFront(t, "", nil)
	checkUnfront(t, nil, "")
}

// TestOneByte takes each byte alone, twice, and once more behind another one.
func TestOneByte(t *testing.T) {
	for b := range 256 {
		one := string([]byte{byte(b)})
		other := byte((b + 100) % 256)
		checkFront(t, one+one, []int{b, 0})
		checkUnfront(t, []int{b, 0}, one+one)
		list := frontByCount([]byte{byte(b), other, byte(b)})
		checkFront(t, one+string([]byte{other})+one, list)
		checkUnfront(t, list, one+string([]byte{other})+one)
	}
}

func TestAnyTextComesFromTheFront(t *testing.T) {
	m := mixer(5)
	for range 5000 {
		text := m.text()
		want := frontByCount(text)
		checkFront(t, string(text), want)
		checkUnfront(t, want, string(text))
	}
}

// TestAnyPlaces takes lists that no text was asked for: each list of places is the Front of a text.
func TestAnyPlaces(t *testing.T) {
	m := mixer(6)
	for range 5000 {
		list := make([]int, m.below(api.MaxText+1))
		for i := range list {
			list[i] = m.below(256)
		}
		text, err := Unfront(list)
		if got := frontByCount(text); !slices.Equal(got, list) || err != api.OK {
			t.Fatalf("Unfront of %v: %q, %d, whose Front is %v", list, text, err, got)
		}
	}
}

// TestFrontLarge stands at MaxText bytes, or numbers, and goes above it.
func TestFrontLarge(t *testing.T) {
	for _, n := range []int{api.MaxText + 1, api.MaxText + 2, 2 * api.MaxText, 1 << 20} {
		if l, err := Front(make([]byte, n)); len(l) != 0 || err != api.ErrLarge {
			t.Errorf("Front of %d bytes: %d places, %d, want ErrLarge", n, len(l), err)
		}
		list := make([]int, n)
		for _, place := range []int{0, -1, 256} {
			list[0], list[n-1] = place, place
			if text, err := Unfront(list); len(text) != 0 || err != api.ErrLarge {
				t.Errorf("Unfront of %d numbers: %d bytes, %d, want ErrLarge", n, len(text), err)
			}
		}
	}
	text, list := "", []int{}
	for i := range api.MaxText {
		text += string([]byte{byte(255 - i)})
		list = append(list, 255)
	}
	checkFront(t, text, list)
	checkUnfront(t, list, text)
}

func TestUnfrontRange(t *testing.T) {
	for place := range api.MaxText {
		for _, wrong := range []int{-1, -2, -256, 256, 257, 512, 1 << 32, -1 << 32, math.MinInt32, math.MaxInt32, math.MinInt, math.MaxInt} {
			for _, size := range []int{place + 1, api.MaxText} {
				list := make([]int, size)
				list[place] = wrong
				checkNoUnfront(t, list, api.ErrRange)
			}
		}
	}
}

// TestListsAreLeftAlone looks at what was handed in, and whether what lies behind its length is read.
func TestListsAreLeftAlone(t *testing.T) {
	for _, c := range turnCases() {
		text, last := []byte(c.text+"zya"), []byte(c.last+"zya")
		textWas, lastWas := slices.Clone(text), slices.Clone(last)
		if l, at, err := Turn(text[:len(c.text)]); string(l) != c.last || at != c.at || err != api.OK {
			t.Errorf("Turn of %q ahead of more: %q, %d, %d", c.text, l, at, err)
		}
		if got, err := Back(last[:len(c.last)], c.at); string(got) != c.text || err != api.OK {
			t.Errorf("Back of %q ahead of more: %q, %d", c.last, got, err)
		}
		if !bytes.Equal(text, textWas) || !bytes.Equal(last, lastWas) {
			t.Errorf("%q and %q are changed to %q and %q", textWas, lastWas, text, last)
		}
	}
	for _, c := range frontCases() {
		text, list := []byte(c.text+"zya"), append(slices.Clone(c.list), -1, 256)
		textWas, listWas := slices.Clone(text), slices.Clone(list)
		if l, err := Front(text[:len(c.text)]); !slices.Equal(l, c.list) || err != api.OK {
			t.Errorf("Front of %q ahead of more: %v, %d", c.text, l, err)
		}
		checkUnfront(t, list[:len(c.list)], c.text)
		if !bytes.Equal(text, textWas) || !slices.Equal(list, listWas) {
			t.Errorf("%q and %v are changed to %q and %v", textWas, listWas, text, list)
		}
	}
}

// spoil changes all that a list has, up to its capacity.
func spoil[T byte | int](list []T) {
	list = list[:cap(list)]
	for i := range list {
		list[i] ^= 85
	}
}

// TestAnswersAreNew spoils an answer, looks at what was handed in, and asks again.
func TestAnswersAreNew(t *testing.T) {
	for _, c := range turnCases() {
		text, last := []byte(c.text), []byte(c.last)
		turned, _, _ := Turn(text)
		spoil(turned)
		back, _ := Back(last, c.at)
		spoil(back)
		if string(text) != c.text || string(last) != c.last {
			t.Errorf("an answer shares memory with %q or %q", c.text, c.last)
		}
		checkTurn(t, c.text, c.last, c.at)
		checkBack(t, c.last, c.at, c.text)
	}
	for _, c := range frontCases() {
		text, list := []byte(c.text), slices.Clone(c.list)
		places, _ := Front(text)
		spoil(places)
		unfronted, _ := Unfront(list)
		spoil(unfronted)
		if string(text) != c.text || !slices.Equal(list, c.list) {
			t.Errorf("an answer shares memory with %q or %v", c.text, c.list)
		}
		checkFront(t, c.text, c.list)
		checkUnfront(t, c.list, c.text)
	}
}
