package prefix

import (
	"math"
	"slices"
	"testing"

	"quipu/api"
)

// word makes bits of a text of digits.
func word(digits string) []bool {
	bits := []bool{}
	for _, d := range digits {
		bits = append(bits, d == '1')
	}
	return bits
}

// words makes a code of texts of digits.
func words(texts ...string) [][]bool {
	code := [][]bool{}
	for _, text := range texts {
		code = append(code, word(text))
	}
	return code
}

// repeat makes a list of n times the same value.
func repeat[T any](n int, value T) []T {
	return slices.Repeat([]T{value}, n)
}

// allWords has each word of at most max bits, that without a bit among them.
func allWords(max int) [][]bool {
	out := [][]bool{{}}
	for i := 0; i < len(out); i++ {
		if len(out[i]) < max {
			out = append(out, append(slices.Clone(out[i]), false), append(slices.Clone(out[i]), true))
		}
	}
	return out
}

// allCodes has each code of at most max of the words.
func allCodes(max int, from [][]bool) [][][]bool {
	out := [][][]bool{{}}
	for i := 0; i < len(out); i++ {
		if len(out[i]) == max {
			continue
		}
		for _, w := range from {
			out = append(out, append(slices.Clone(out[i]), w))
		}
	}
	return out
}

func TestCheck(t *testing.T) {
	full := repeat(api.MaxWords, make([]bool, api.MaxLen))
	cases := []struct {
		name string
		code [][]bool
		want api.Errno
	}{
		{"nil", nil, api.OK},
		{"no word", [][]bool{}, api.OK},
		{"a nil word", [][]bool{nil}, api.OK},
		{"ordinary", words("0", "10", "11"), api.OK},
		{"not free of prefixes", words("", "1", "1"), api.OK},
		{"at both limits", full, api.OK},
		{"a word too many", append(slices.Clone(full), []bool{true}), api.ErrLarge},
		{"too many empty words", make([][]bool, api.MaxWords+1), api.ErrLarge},
		{"first word too long", [][]bool{make([]bool, api.MaxLen+1), {true}}, api.ErrLarge},
		{"last word too long", [][]bool{{true}, make([]bool, api.MaxLen+1)}, api.ErrLarge},
		{"far too much", repeat(1000, make([]bool, 1000)), api.ErrLarge},
	}
	for _, c := range cases {
		if got := Check(c.code); got != c.want {
			t.Errorf("%s: %d, want %d", c.name, got, c.want)
		}
	}
}

func TestPrefix(t *testing.T) {
	cases := []struct {
		name string
		code [][]bool
		want bool
	}{
		{"nil", nil, true},
		{"one empty word", words(""), true},
		{"one word", words("01"), true},
		{"ordinary", words("0", "10", "11"), true},
		{"at the limits", words("00000000", "00000001", "0000001", "000001", "00001", "0001", "001", "01"), true},
		{"shorter first", words("1", "11"), false},
		{"longer first", words("11", "1"), false},
		{"the same", words("01", "01"), false},
		{"two empty words", words("", ""), false},
		{"empty before another", words("", "0"), false},
		{"empty behind another", words("0", ""), false},
		{"clash far apart", words("10", "11", "00", "011", "101"), false},
		{"an end is no beginning", words("01", "1"), true},
		{"differ in the last bit", words("00000000", "00000001"), true},
	}
	for _, c := range cases {
		if got, err := Prefix(c.code); got != c.want || err != api.OK {
			t.Errorf("%s: %v, %d, want %v", c.name, got, err, c.want)
		}
	}
}

func TestPrefixTellsChecksErrors(t *testing.T) {
	for _, code := range [][][]bool{{make([]bool, api.MaxLen+1)}, make([][]bool, api.MaxWords+1)} {
		if got, err := Prefix(code); got || err != api.ErrLarge {
			t.Errorf("%v, %d", got, err)
		}
	}
}

// TestPrefixByDefinition holds each pair of words of all small codes against each other, bit by bit.
func TestPrefixByDefinition(t *testing.T) {
	starts := func(a, b []bool) bool {
		for i := range a {
			if i >= len(b) || a[i] != b[i] {
				return false
			}
		}
		return true
	}
	for _, code := range allCodes(3, allWords(3)) {
		want := true
		for i := range code {
			for j := range code {
				want = want && (i == j || !starts(code[i], code[j]))
			}
		}
		if got, err := Prefix(code); got != want || err != api.OK {
			t.Fatalf("%v: %v, %d, want %v", code, got, err, want)
		}
	}
}

func TestWrite(t *testing.T) {
	code := words("0", "10", "11", "")
	long := repeat(api.MaxWords, make([]bool, api.MaxLen))
	cases := []struct {
		name    string
		code    [][]bool
		symbols []int
		want    []bool
		err     api.Errno
	}{
		{"ordinary", code, []int{2, 0, 1}, word("11010"), api.OK},
		{"no symbol", code, nil, nil, api.OK},
		{"no code and no symbol", nil, nil, nil, api.OK},
		{"empty words", code, []int{3, 3}, nil, api.OK},
		{"an empty word between", code, []int{1, 3, 0}, word("100"), api.OK},
		{"not free of prefixes", words("1", "11", "1"), []int{0, 1, 2}, word("1111"), api.OK},
		{"MaxText symbols", code, repeat(api.MaxText, 0), make([]bool, api.MaxText), api.OK},
		{"MaxText long words", long, repeat(api.MaxText, api.MaxWords-1), make([]bool, api.MaxText*api.MaxLen), api.OK},
		{"a symbol too many", code, repeat(api.MaxText+1, 0), nil, api.ErrLarge},
		{"a symbol too many, all empty", code, repeat(api.MaxText+1, 3), nil, api.ErrLarge},
		{"first symbol without a word", code, []int{4, 0}, nil, api.ErrArg},
		{"last symbol without a word", code, []int{0, 4}, nil, api.ErrArg},
		{"below 0", code, []int{0, -1}, nil, api.ErrArg},
		{"least number", code, []int{math.MinInt}, nil, api.ErrArg},
		{"greatest number", code, []int{math.MaxInt}, nil, api.ErrArg},
		{"no word at all", nil, []int{0}, nil, api.ErrArg},
		{"too many and without a word", code, repeat(api.MaxText+1, -1), nil, api.ErrLarge},
		{"word too long", [][]bool{{true}, make([]bool, api.MaxLen+1)}, []int{0}, nil, api.ErrLarge},
		{"word too long and symbol without one", [][]bool{make([]bool, api.MaxLen+1)}, []int{7}, nil, api.ErrLarge},
		{"too many words", make([][]bool, api.MaxWords+1), []int{-1}, nil, api.ErrLarge},
	}
	for _, c := range cases {
		if got, err := Write(c.code, c.symbols); !slices.Equal(got, c.want) || err != c.err {
			t.Errorf("%s: %v, %d, want %v, %d", c.name, got, err, c.want, c.err)
		}
	}
}

func TestRead(t *testing.T) {
	code := words("0", "10", "11")
	cases := []struct {
		name string
		code [][]bool
		bits []bool
		want []int
		err  api.Errno
	}{
		{"the document's example", code, word("100"), []int{1, 0}, api.OK},
		{"ordinary", code, word("1101011"), []int{2, 0, 1, 2}, api.OK},
		{"no bit", code, nil, nil, api.OK},
		{"no code and no bit", nil, nil, nil, api.OK},
		{"no code", nil, word("0"), nil, api.ErrNone},
		{"half a word at the end", code, word("01"), nil, api.ErrNone},
		{"half a word alone", code, word("1"), nil, api.ErrNone},
		{"a gap in the code", words("0", "10"), word("0110"), nil, api.ErrNone},
		{"longest words", words("00000000", "00000001"), word("0000000100000000"), []int{1, 0}, api.OK},
		{"MaxText symbols", code, make([]bool, api.MaxText), make([]int, api.MaxText), api.OK},
		{"MaxText long words", [][]bool{make([]bool, api.MaxLen)}, make([]bool, api.MaxText*api.MaxLen), make([]int, api.MaxText), api.OK},
		{"more than Write takes", code, make([]bool, api.MaxText+1), nil, api.ErrNone},
		{"far more than Write takes", code, make([]bool, 1<<20), nil, api.ErrNone},
		{"a beginning", words("1", "11"), word("1"), nil, api.ErrForm},
		{"the same twice", words("1", "1"), word("1"), nil, api.ErrForm},
		{"one empty word", words(""), nil, nil, api.ErrForm},
		{"an empty word and another", words("0", ""), word("0"), nil, api.ErrForm},
		{"not free and no such symbols", words("1", "11"), word("0"), nil, api.ErrForm},
		{"word too long", [][]bool{{true}, make([]bool, api.MaxLen+1)}, word("1"), nil, api.ErrLarge},
		{"too many words, all the same", make([][]bool, api.MaxWords+1), word("1"), nil, api.ErrLarge},
	}
	for _, c := range cases {
		if got, err := Read(c.code, c.bits); !slices.Equal(got, c.want) || err != c.err {
			t.Errorf("%s: %v, %d, want %v, %d", c.name, got, err, c.want, c.err)
		}
	}
}

// search has each list of symbols whose words make the bits, of a code without empty words.
func search(code [][]bool, bits []bool) [][]int {
	if len(bits) == 0 {
		return [][]int{{}}
	}
	var out [][]int
	for symbol, w := range code {
		if len(w) > len(bits) || !slices.Equal(w, bits[:len(w)]) {
			continue
		}
		for _, more := range search(code, bits[len(w):]) {
			out = append(out, append([]int{symbol}, more...))
		}
	}
	return out
}

// TestReadByDefinition reads all short bits by all small codes, and holds that against a search of all lists.
func TestReadByDefinition(t *testing.T) {
	texts := allWords(5)
	for _, code := range allCodes(3, allWords(2)) {
		free, _ := Prefix(code)
		empty := slices.ContainsFunc(code, func(w []bool) bool { return len(w) == 0 })
		for _, bits := range texts {
			got, err := Read(code, bits)
			if !free || empty {
				if len(got) != 0 || err != api.ErrForm {
					t.Fatalf("%v, %v: %v, %d, want ErrForm", code, bits, got, err)
				}
				continue
			}
			all := search(code, bits)
			if len(all) == 0 {
				if len(got) != 0 || err != api.ErrNone {
					t.Fatalf("%v, %v: %v, %d, want ErrNone", code, bits, got, err)
				}
				continue
			}
			if len(all) != 1 || !slices.Equal(got, all[0]) || err != api.OK {
				t.Fatalf("%v, %v: %v, %d, want %v", code, bits, got, err, all)
			}
		}
	}
}

// TestWhatWasWrittenComesBack takes codes at the limits, and texts of each length that Write takes.
func TestWhatWasWrittenComesBack(t *testing.T) {
	codes := [][][]bool{
		words("0", "10", "11"),
		words("1"),
		words("000", "001", "010", "011", "100", "101", "110", "111"),
		words("11111111", "11111110", "1111110", "111110", "11110", "1110", "110", "10"),
	}
	for _, code := range codes {
		for n := range api.MaxText + 1 {
			symbols := make([]int, n)
			for i := range symbols {
				symbols[i] = (i*i + 3*i + n) % len(code)
			}
			bits, err := Write(code, symbols)
			if err != api.OK {
				t.Fatalf("%v, %v: %d", code, symbols, err)
			}
			if got, err := Read(code, bits); !slices.Equal(got, symbols) || err != api.OK {
				t.Fatalf("%v, %v: %v, %d", code, symbols, got, err)
			}
		}
	}
}

// within makes a list that has more behind its length, all set to the value.
func within[T any](list []T, value T) []T {
	out := append(slices.Clone(list), repeat(32, value)...)
	return out[:len(list)]
}

// TestListsAreLeftAlone looks at what was handed in, and behind its length, and whether answers share memory with it.
func TestListsAreLeftAlone(t *testing.T) {
	code := [][]bool{within(word("0"), true), within(word("10"), true), within(word("11"), true)}
	code = within(code, word("111111111"))
	bits, symbols := within(word("11010"), true), within([]int{2, 0, 1}, 9)
	look := func(when string) {
		for i, w := range words("0", "10", "11") {
			if !slices.Equal(code[i], w) || slices.Contains(code[i][len(w):cap(code[i])][:32], false) {
				t.Errorf("%s: word %d is changed", when, i)
			}
		}
		if !slices.Equal(bits, word("11010")) || slices.Contains(bits[5:37], false) {
			t.Errorf("%s: bits are changed", when)
		}
		if !slices.Equal(symbols, []int{2, 0, 1}) || !slices.Equal(symbols[3:35], repeat(32, 9)) {
			t.Errorf("%s: symbols are changed", when)
		}
	}
	if free, err := Prefix(code); !free || err != api.OK || Check(code) != api.OK {
		t.Error(free, err)
	}
	look("asked")
	wrote, _ := Write(code, symbols)
	single, _ := Write(code, symbols[:1])
	read, _ := Read(code, bits)
	look("called")
	if !slices.Equal(wrote, word("11010")) || !slices.Equal(single, word("11")) || !slices.Equal(read, []int{2, 0, 1}) {
		t.Error(wrote, single, read)
	}
	for _, l := range [][]bool{wrote[:cap(wrote)], single[:cap(single)]} {
		for i := range l {
			l[i] = !l[i]
		}
	}
	read = read[:cap(read)]
	for i := range read {
		read[i] = -1
	}
	look("answers changed")
}

// TestBehindTheLengthIsNothing has a rest of the bits, and words, that go on behind their lengths.
func TestBehindTheLengthIsNothing(t *testing.T) {
	if l, err := Read(words("10"), word("10")[:1]); len(l) != 0 || err != api.ErrNone {
		t.Error(l, err)
	}
	if free, err := Prefix([][]bool{word("10")[:1], word("11")[:1]}); free || err != api.OK {
		t.Error(free, err)
	}
	if free, err := Prefix([][]bool{word("100"), word("011")[:1]}); !free || err != api.OK {
		t.Error(free, err)
	}
}
