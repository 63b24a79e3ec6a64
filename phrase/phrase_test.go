package phrase

import (
	"bytes"
	"math"
	"slices"
	"strings"
	"testing"

	"quipu/api"
)

// of makes a list of phrases of a Prev and a byte each.
func of(pairs ...int) []api.Phrase {
	out := []api.Phrase{}
	for i := 0; i < len(pairs); i += 2 {
		out = append(out, api.Phrase{Prev: pairs[i], Byte: byte(pairs[i+1])})
	}
	return out
}

// cases has texts with what Parse makes of them.
func cases() []struct {
	text string
	list []api.Phrase
} {
	return []struct {
		text string
		list []api.Phrase
	}{
		{"", of()},
		{"a", of(0, 'a')},
		{"\x00", of(0, 0)},
		{"aa", of(0, 'a', 0, 'a')},
		{"ab", of(0, 'a', 0, 'b')},
		{"aba", of(0, 'a', 0, 'b', 0, 'a')},
		{"abb", of(0, 'a', 0, 'b', 0, 'b')},
		{"aaa", of(0, 'a', 1, 'a')},
		{"aab", of(0, 'a', 1, 'b')},
		{"aabaa", of(0, 'a', 1, 'b', 1, 'a')}, // the document's example
		{"aabab", of(0, 'a', 1, 'b', 1, 'b')},
		{"aaaa", of(0, 'a', 1, 'a', 0, 'a')},
		{"aaaaa", of(0, 'a', 1, 'a', 1, 'a')},
		{"aaaaaa", of(0, 'a', 1, 'a', 2, 'a')},
		{"aaaaaaa", of(0, 'a', 1, 'a', 2, 'a', 0, 'a')},
		{"abababa", of(0, 'a', 0, 'b', 1, 'b', 3, 'a')},
		{"ababababa", of(0, 'a', 0, 'b', 1, 'b', 3, 'a', 2, 'a')},
		{"\x00\xff\x00\x00\xff\xff", of(0, 0, 0, 255, 1, 0, 2, 255)},
		{"sir sid eastman", of(0, 's', 0, 'i', 0, 'r', 0, ' ', 1, 'i', 0, 'd', 4, 'e', 0, 'a', 1, 't', 0, 'm', 8, 'n')},
	}
}

func checkParse(t *testing.T, text string, want []api.Phrase) {
	t.Helper()
	if got, err := Parse([]byte(text)); !slices.Equal(got, want) || err != api.OK {
		t.Errorf("Parse of %q: %v, %d, want %v", text, got, err, want)
	}
}

func checkJoin(t *testing.T, list []api.Phrase, want string) {
	t.Helper()
	if got, err := Join(list); string(got) != want || err != api.OK {
		t.Errorf("Join of %v: %q, %d, want %q", list, got, err, want)
	}
}

func checkWrong(t *testing.T, list []api.Phrase, want api.Errno) {
	t.Helper()
	if got, err := Join(list); len(got) != 0 || err != want {
		t.Errorf("Join of %v: %q, %d, want error %d", list, got, err, want)
	}
}

func TestParse(t *testing.T) {
	for _, c := range cases() {
		checkParse(t, c.text, c.list)
	}
	if got, err := Parse(nil); len(got) != 0 || err != api.OK {
		t.Errorf("Parse of nil: %v, %d", got, err)
	}
}

func TestJoin(t *testing.T) {
	for _, c := range cases() {
		checkJoin(t, c.list, c.text)
	}
	checkJoin(t, nil, "")
}

// TestJoinOfOtherPhrases takes lists that Parse makes of no text: a phrase twice, or none of the shortest ones.
func TestJoinOfOtherPhrases(t *testing.T) {
	checkJoin(t, of(0, 'a', 0, 'a', 0, 'a'), "aaa")
	checkJoin(t, of(0, 'a', 1, 'b', 1, 'b', 3, 'c'), "aabababc")
	checkJoin(t, of(0, 'a', 0, 'a', 2, 'b', 1, 'b'), "aaabab")
	checkJoin(t, of(0, 'a', 0, 'b', 2, 'c', 2, 'c', 0, 'a'), "abbcbca")
}

// TestParseLarge stands at MaxText bytes and goes above it.
func TestParseLarge(t *testing.T) {
	for _, n := range []int{api.MaxText + 1, api.MaxText + 2, 2 * api.MaxText, 1 << 20} {
		if got, err := Parse(make([]byte, n)); len(got) != 0 || err != api.ErrLarge {
			t.Errorf("Parse of %d bytes: %v, %d, want ErrLarge", n, got, err)
		}
	}
	// 1 + 2 + .. + 10 are 55, so that 9 bytes are left: the ninth phrase once more.
	want := []api.Phrase{}
	for i := range 10 {
		want = append(want, api.Phrase{Prev: i, Byte: 'a'})
	}
	checkParse(t, strings.Repeat("a", 55), want)
	checkParse(t, strings.Repeat("a", api.MaxText), append(want, api.Phrase{Prev: 8, Byte: 'a'}))
}

// TestParseOfDifferentBytes has as many phrases as a text can have.
func TestParseOfDifferentBytes(t *testing.T) {
	text, want := "", []api.Phrase{}
	for i := range api.MaxText {
		text += string([]byte{byte(4*i + 3)})
		want = append(want, api.Phrase{Byte: byte(4*i + 3)})
	}
	checkParse(t, text, want)
	checkJoin(t, want, text)
}

// chain has n phrases, each of them made of the one ahead.
func chain(n int) []api.Phrase {
	list := []api.Phrase{}
	for i := range n {
		list = append(list, api.Phrase{Prev: i, Byte: 'a'})
	}
	return list
}

func TestJoinLarge(t *testing.T) {
	for _, n := range []int{api.MaxText + 1, api.MaxText + 2, 1 << 16} {
		checkWrong(t, make([]api.Phrase, n), api.ErrLarge)
		checkWrong(t, chain(n), api.ErrLarge)
	}
	checkJoin(t, make([]api.Phrase, api.MaxText), string(make([]byte, api.MaxText)))

	full := append(chain(10), api.Phrase{Prev: 8, Byte: 'b'})
	checkJoin(t, full, strings.Repeat("a", api.MaxText-1)+"b")
	checkWrong(t, append(slices.Clone(full), api.Phrase{Byte: 'b'}), api.ErrLarge)
	checkWrong(t, append(chain(10), api.Phrase{Prev: 9, Byte: 'b'}), api.ErrLarge)
	checkWrong(t, chain(11), api.ErrLarge)
	checkWrong(t, chain(api.MaxText), api.ErrLarge)
	one := make([]api.Phrase, api.MaxText)
	one[api.MaxText-1].Prev = 1
	checkWrong(t, one, api.ErrLarge)
}

func TestJoinWrongPrev(t *testing.T) {
	for place := range api.MaxText {
		for _, prev := range []int{-1, -2, -api.MaxText, math.MinInt32, math.MinInt, place + 1, place + 2, api.MaxText, api.MaxText + 1, math.MaxInt32, math.MaxInt} {
			if prev >= 0 && prev <= place {
				continue
			}
			for _, behind := range []int{0, 1, api.MaxText - place - 1} {
				list := make([]api.Phrase, min(place+1+behind, api.MaxText))
				list[place].Prev = prev
				checkWrong(t, list, api.ErrArg)
			}
		}
	}
}

// TestJoinFirstError has several things wrong: what is named first is told, wherever it lies.
func TestJoinFirstError(t *testing.T) {
	many := make([]api.Phrase, api.MaxText+1)
	many[0].Prev = -1
	checkWrong(t, many, api.ErrLarge)
	last := make([]api.Phrase, api.MaxText+1)
	last[api.MaxText].Prev = api.MaxText + 1
	checkWrong(t, last, api.ErrLarge)

	for _, prev := range []int{-1, 41, math.MaxInt, math.MinInt} {
		long := append(chain(40), api.Phrase{Prev: prev})
		checkWrong(t, long, api.ErrArg)
	}
	first := chain(40)
	first[0].Prev = 1
	checkWrong(t, first, api.ErrArg)
}

// parseByWords is Parse by the promise's own words: phrases as whole texts, searched for one by one.
func parseByWords(text string) []api.Phrase {
	known := []string{""}
	list := []api.Phrase{}
	for text != "" {
		size := 1
		for size < len(text) && slices.Contains(known, text[:size]) {
			size++
		}
		prev := slices.Index(known, text[:size-1])
		list = append(list, api.Phrase{Prev: prev, Byte: text[size-1]})
		known = append(known, text[:size])
		text = text[size:]
	}
	return list
}

// mixer makes numbers that look like any others, the same ones each time.
type mixer uint64

func (m *mixer) below(n int) int {
	*m = *m*6364136223846793005 + 1442695040888963407
	return int(uint64(*m) >> 33 % uint64(n))
}

// TestShortTexts takes all texts of up to 3 different bytes that are short.
func TestShortTexts(t *testing.T) {
	for letters, most := range map[int]int{2: 14, 3: 9} {
		texts := []string{""}
		for range most {
			more := []string{}
			for _, text := range texts {
				for letter := range letters {
					more = append(more, text+string(rune('a'+letter)))
				}
			}
			for _, text := range more {
				want := parseByWords(text)
				checkParse(t, text, want)
				checkJoin(t, want, text)
			}
			texts = more
		}
	}
}

func TestAnyTextComesBack(t *testing.T) {
	m := mixer(7)
	for range 20000 {
		text := make([]byte, m.below(api.MaxText+1))
		letters := 1 + m.below(256)>>m.below(9)
		for i := range text {
			text[i] = byte(m.below(letters))
		}
		list, err := Parse(text)
		if want := parseByWords(string(text)); !slices.Equal(list, want) || err != api.OK {
			t.Fatalf("Parse of %q: %v, %d, want %v", text, list, err, want)
		}
		checkJoin(t, list, string(text))
	}
}

// textOf is the text of one phrase, followed back from its end.
func textOf(list []api.Phrase, number int) string {
	if number == 0 {
		return ""
	}
	p := list[number-1]
	return textOf(list, p.Prev) + string([]byte{p.Byte})
}

// TestAnyPhrases joins lists of which some have too long a text, or a wrong Prev.
func TestAnyPhrases(t *testing.T) {
	m := mixer(8)
	for range 20000 {
		list := make([]api.Phrase, m.below(api.MaxText+3))
		reach := 1 + m.below(12)
		wrong := false
		for i := range list {
			list[i] = api.Phrase{Prev: min(i, m.below(reach)), Byte: byte(m.below(256))}
			if m.below(400) == 0 {
				list[i].Prev = m.below(200) - 60
			}
			wrong = wrong || list[i].Prev < 0 || list[i].Prev > i
		}
		if len(list) > api.MaxText {
			checkWrong(t, list, api.ErrLarge)
			continue
		}
		if wrong {
			checkWrong(t, list, api.ErrArg)
			continue
		}
		text := ""
		for i := range list {
			text += textOf(list, i+1)
		}
		if len(text) > api.MaxText {
			checkWrong(t, list, api.ErrLarge)
		} else {
			checkJoin(t, list, text)
		}
	}
}

// TestListsAreLeftAlone looks at what was handed in, and whether what lies behind its length is read.
func TestListsAreLeftAlone(t *testing.T) {
	for _, c := range cases() {
		text := []byte(c.text + "aabaa")
		before := slices.Clone(text)
		if got, err := Parse(text[:len(c.text)]); !slices.Equal(got, c.list) || err != api.OK {
			t.Errorf("Parse of %q: %v, %d, want %v", c.text, got, err, c.list)
		}
		if !bytes.Equal(text, before) {
			t.Errorf("Parse changes %q to %q", before, text)
		}
		list := append(slices.Clone(c.list), of(0, 'a', -1, 'b', 1000, 'c')...)
		kept := slices.Clone(list)
		checkJoin(t, list[:len(c.list)], c.text)
		if !slices.Equal(list, kept) {
			t.Errorf("Join changes %v to %v", kept, list)
		}
	}
}

// TestAnswersAreNew changes an answer up to its capacity, and looks at what was handed in, and asks again.
func TestAnswersAreNew(t *testing.T) {
	for _, c := range cases() {
		list, _ := Parse([]byte(c.text))
		list = list[:cap(list)]
		for i := range list {
			list[i] = api.Phrase{Prev: -7, Byte: 9}
		}
		checkParse(t, c.text, c.list)

		given := slices.Clone(c.list)
		text, _ := Join(given)
		text = text[:cap(text)]
		for i := range text {
			text[i] ^= 255
		}
		if !slices.Equal(given, c.list) {
			t.Errorf("an answer of Join shares memory with %v", c.list)
		}
		checkJoin(t, given, c.text)
	}
}
