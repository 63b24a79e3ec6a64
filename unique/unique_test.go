package unique

import (
	"slices"
	"testing"

	"quipu/api"
	"quipu/kraft"
	"quipu/prefix"
)

// words makes a code of texts of digits.
func words(texts ...string) [][]bool {
	code := [][]bool{}
	for _, text := range texts {
		word := []bool{}
		for _, d := range text {
			word = append(word, d == '1')
		}
		code = append(code, word)
	}
	return code
}

// written has the words of the symbols, of lists of any length.
func written(t *testing.T, code [][]bool, symbols []int) []bool {
	t.Helper()
	bits := []bool{}
	for _, symbol := range symbols {
		if symbol < 0 || symbol >= len(code) {
			t.Fatalf("%v: symbol %d has no word", code, symbol)
		}
		bits = append(bits, code[symbol]...)
	}
	return bits
}

// ask calls both functions, holds their answers against each other, and answers whether the code is unique.
func ask(t *testing.T, code [][]bool) bool {
	t.Helper()
	is, err := Unique(code)
	if err != api.OK {
		t.Fatalf("%v: Unique tells %d", code, err)
	}
	a, b, err := Twice(code)
	if is {
		if len(a) != 0 || len(b) != 0 || err != api.ErrNone {
			t.Fatalf("%v: is unique, but Twice answers %v, %v, %d", code, a, b, err)
		}
		return true
	}
	if err != api.OK || slices.Equal(a, b) || !slices.Equal(written(t, code, a), written(t, code, b)) {
		t.Fatalf("%v: is not unique, but Twice answers %v, %v, %d", code, a, b, err)
	}
	return false
}

func TestUniqueAndTwice(t *testing.T) {
	cases := []struct {
		name string
		code [][]bool
		want bool
	}{
		{"nil", nil, true},
		{"no word", words(), true},
		{"one word", words("0"), true},
		{"one word that begins and ends alike", words("0110"), true},
		{"one empty word", words(""), false},
		{"one nil word", [][]bool{nil}, false},
		{"an empty word first", words("", "0", "1"), false},
		{"an empty word last", words("0", "10", ""), false},
		{"an empty word behind a beginning", words("0", "00", ""), false},
		{"two empty words", words("", ""), false},
		{"the document's example", words("0", "01", "1"), false},
		{"a beginning, and yet unique", words("0", "01"), true},
		{"no word begins another one", words("0", "10", "11"), true},
		{"no word ends another one", words("0", "01", "11"), true},
		{"begins and ends another one, and yet unique", words("0", "010"), true},
		{"begins and ends others", words("01", "011", "11", "0"), false},
		{"two words turned round", words("0", "01", "10"), false},
		{"a tail that no word goes on with", words("0", "01", "110"), true},
		{"a tail that never ends", words("0", "01", "11"), true},
		{"zeros ahead of a tail count", words("1", "100", "000"), true},
		{"one after another", words("1", "11"), false},
		{"powers of one word", words("01", "0101"), false},
		{"two powers of no word in the code", words("00", "000"), false},
		{"powers that no one is of the other", words("0101", "010101"), false},
		{"the same twice", words("10", "0", "10"), false},
		{"the same at MaxLen", words("11111110", "11111110"), false},
		{"a known one", words("1", "011", "01110", "1110", "10011"), false},
		{"full, of one length", words("000", "001", "010", "011", "100", "101", "110", "111"), true},
		{"full, of all lengths", words("0", "10", "110", "1110", "11110", "111110", "1111110", "1111111"), true},
		{"full, turned round", words("0", "01", "011", "0111", "01111", "011111", "0111111", "1111111"), true},
		{"above the whole", words("00", "01", "10", "11", "0000000"), false},
		{"longest powers", words("0000000", "00000000"), false},
	}
	for _, c := range cases {
		if got := ask(t, c.code); got != c.want {
			t.Errorf("%s: %v", c.name, got)
		}
	}
}

// TestTheDocumentsExample has the lists that the example shows, in either order.
func TestTheDocumentsExample(t *testing.T) {
	a, b, err := Twice(words("0", "01", "1"))
	if len(a) < len(b) {
		a, b = b, a
	}
	if !slices.Equal(a, []int{0, 2}) || !slices.Equal(b, []int{1}) || err != api.OK {
		t.Error(a, b, err)
	}
}

func TestWrongCodes(t *testing.T) {
	long := make([]bool, api.MaxLen+1)
	cases := []struct {
		name string
		code [][]bool
	}{
		{"a word too many", make([][]bool, api.MaxWords+1)},
		{"too many that are unique", append(words("000", "001", "010", "011", "100", "101", "110", "1110"), words("1111")...)},
		{"a word too long", [][]bool{long}},
		{"last word too long", [][]bool{{true}, {false}, long}},
		{"too long and not unique", [][]bool{{true}, {true}, long}},
		{"far too much", slices.Repeat([][]bool{make([]bool, 1000)}, 1000)},
	}
	for _, c := range cases {
		if is, err := Unique(c.code); is || err != api.ErrLarge {
			t.Errorf("%s: Unique answers %v, %d", c.name, is, err)
		}
		if a, b, err := Twice(c.code); len(a) != 0 || len(b) != 0 || err != api.ErrLarge {
			t.Errorf("%s: Twice answers %v, %v, %d", c.name, a, b, err)
		}
	}
}

// allWords has each word of at most max bits, that without a bit among them.
func allWords(max int) [][]bool {
	out := [][]bool{{}}
	for i := 0; i < len(out); i++ {
		if len(out[i]) < max {
			out = append(out, append(slices.Clone(out[i]), false), append(slices.Clone(out[i]), true))
		}
	}
	return out
}

// allChoices has each code of at most max of the words, in their order, each of them as often as one likes.
func allChoices(max int, from [][]bool) [][][]bool {
	out := [][][]bool{{}}
	if max == 0 {
		return out
	}
	for i := range from {
		for _, rest := range allChoices(max-1, from[i:]) {
			out = append(out, append([][]bool{from[i]}, rest...))
		}
	}
	return out
}

// readTwice goes through all texts of at most max bits that begin with this one, and tells whether one can be read in two ways; ways[i] says in how many ways the first i bits can be.
func readTwice(code [][]bool, bits []bool, ways []int, max int) bool {
	if ways[len(bits)] > 1 {
		return true
	}
	// What has no reading that goes on needs not be gone on with.
	if len(bits) == max || !slices.Contains(ways[len(ways)-min(len(ways), 4):], 1) {
		return false
	}
	for _, bit := range []bool{false, true} {
		more := append(slices.Clone(bits), bit)
		count := 0
		for _, word := range code {
			if from := len(more) - len(word); from >= 0 && slices.Equal(more[from:], word) {
				count += ways[from]
			}
		}
		if readTwice(code, more, append(slices.Clone(ways), count), max) {
			return true
		}
	}
	return false
}

// TestUniqueByDefinition reads all texts that are long enough: there are six tails of at most two bits, each step adds no more than that, and the first word has three.
func TestUniqueByDefinition(t *testing.T) {
	for _, code := range allChoices(3, allWords(3)) {
		empty := slices.ContainsFunc(code, func(word []bool) bool { return len(word) == 0 })
		want := !empty && !readTwice(code, nil, []int{1}, 15)
		if got := ask(t, code); got != want {
			t.Fatalf("%v: %v", code, got)
		}
	}
}

// mixer gives numbers that are not in order, the same ones each time.
type mixer uint64

func (m *mixer) below(n int) int {
	*m = *m*6364136223846793005 + 1442695040888963407
	return int(uint64(*m)>>33) % n
}

// mixedCode makes a code of words that have at least one bit.
func mixedCode(m *mixer, longest int) [][]bool {
	code := make([][]bool, 2+m.below(api.MaxWords-1))
	for i := range code {
		code[i] = make([]bool, 1+m.below(longest))
		for j := range code[i] {
			code[i][j] = m.below(2) == 1
		}
	}
	return code
}

// turned has the words from their ends on, and the last one first.
func turned(code [][]bool) [][]bool {
	var out [][]bool
	for _, word := range slices.Backward(code) {
		back := slices.Clone(word)
		slices.Reverse(back)
		out = append(out, back)
	}
	return out
}

// TestGreaterCodes leans on what holds of every code: a text read from its end is as unique as from its beginning, no unique code takes up more than the whole, and one that is free of beginnings is unique.
func TestGreaterCodes(t *testing.T) {
	m, is, longest := mixer(1), 0, 0
	for i := range 60000 {
		code := mixedCode(&m, 3+i%(api.MaxLen-2))
		got := ask(t, code)
		if ask(t, turned(code)) != got {
			t.Fatalf("%v: %v, but not so turned round", code, got)
		}
		lens := []int{}
		for _, word := range code {
			lens = append(lens, len(word))
		}
		if sum, err := kraft.Sum(lens); got && sum > 256 || err != api.OK {
			t.Fatalf("%v: unique, but takes up %d, %d", code, sum, err)
		}
		if free, err := prefix.Prefix(code); free && !got || err != api.OK {
			t.Fatalf("%v: not unique, but free of beginnings, %d", code, err)
		}
		if got {
			is++
			continue
		}
		a, b, _ := Twice(code)
		longest = max(longest, len(a)+len(b))
	}
	// What was held against each other must have been of both kinds, and not only what is found at once.
	if is < 10000 || is > 50000 || longest < 12 {
		t.Error("the codes are too much alike:", is, longest)
	}
}

// TestListsAreLeftAlone looks at what was handed in, and behind its length: with that, each code would be of the other kind.
func TestListsAreLeftAlone(t *testing.T) {
	cases := []struct {
		name  string
		whole [][]bool
		lens  []int
		want  bool
	}{
		{"a word that goes on as another one", words("01", "01"), []int{1, 2}, true},
		{"a word more", words("0", "10", "0", ""), []int{1, 2}, true},
		{"words that would be unique", words("00", "01", "11"), []int{1, 2, 1}, false},
		{"an empty word that goes on", words("0", "10"), []int{1, 0}, false},
	}
	for _, c := range cases {
		before, code := [][]bool{}, slices.Clone(c.whole)
		for _, word := range c.whole {
			before = append(before, slices.Clone(word))
		}
		for i, length := range c.lens {
			code[i] = code[i][:length]
		}
		if got := ask(t, code[:len(c.lens)]); got != c.want {
			t.Errorf("%s: %v", c.name, got)
		}
		for i := range before {
			if !slices.Equal(c.whole[i], before[i]) {
				t.Errorf("%s: word %d is changed: %v", c.name, i, c.whole[i])
			}
			if i < len(c.lens) && len(code[i]) != c.lens[i] {
				t.Errorf("%s: word %d has another length", c.name, i)
			}
		}
	}
}

// TestAnswersShareNoMemory fills each list up to its capacity and looks whether the other one, or a later answer, changes.
func TestAnswersShareNoMemory(t *testing.T) {
	for _, code := range [][][]bool{
		words("0", "01", "1"),
		words("1", "1"),
		words(""),
		words("00", "000"),
		words("0101", "010101"),
		words("1", "011", "01110", "1110", "10011"),
		words("0000000", "00000000"),
	} {
		a, b, err := Twice(code)
		wantA, wantB := slices.Clone(a), slices.Clone(b)
		full := a[:cap(a)]
		for i := range full {
			full[i] = -1
		}
		if !slices.Equal(b, wantB) || err != api.OK {
			t.Errorf("%v: the second list changes with the first one, %d", code, err)
		}
		full = b[:cap(b)]
		for i := range full {
			full[i] = -2
		}
		if slices.Contains(a, -2) {
			t.Errorf("%v: the first list changes with the second one", code)
		}
		if a, b, err := Twice(code); !slices.Equal(a, wantA) || !slices.Equal(b, wantB) || err != api.OK {
			t.Errorf("%v: an answer is kept: %v, %v, %d", code, a, b, err)
		}
	}
}
