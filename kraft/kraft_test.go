package kraft

import (
	"math"
	"slices"
	"strings"
	"testing"

	"quipu/api"
	"quipu/prefix"
)

// texts writes a code's words as digits.
func texts(code [][]bool) []string {
	out := []string{}
	for _, word := range code {
		text := ""
		for _, bit := range word {
			if bit {
				text += "1"
			} else {
				text += "0"
			}
		}
		out = append(out, text)
	}
	return out
}

// allLists has each list of at most max lengths from 0 to MaxLen.
func allLists(max int) [][]int {
	out := [][]int{{}}
	for i := 0; i < len(out); i++ {
		if len(out[i]) == max {
			continue
		}
		for length := range api.MaxLen + 1 {
			out = append(out, append(slices.Clone(out[i]), length))
		}
	}
	return out
}

// risingLists has each list of just n lengths, none of which is below the one ahead of it.
func risingLists(n int) [][]int {
	if n == 0 {
		return [][]int{{}}
	}
	var out [][]int
	for _, list := range risingLists(n - 1) {
		least := 0
		if len(list) > 0 {
			least = list[len(list)-1]
		}
		for length := least; length <= api.MaxLen; length++ {
			out = append(out, append(slices.Clone(list), length))
		}
	}
	return out
}

// mixed has the list in some other orders: turned round, from its middle on, and every third of it.
func mixed(list []int) [][]int {
	back := slices.Clone(list)
	slices.Reverse(back)
	half := len(list) / 2
	thirds := make([]int, len(list))
	for i := range list {
		thirds[i] = list[(3*i+1)%len(list)]
	}
	return [][]int{list, back, slices.Concat(list[half:], list[:half]), thirds}
}

var wrong = []struct {
	name string
	lens []int
	want api.Errno
}{
	{"a length too many", slices.Repeat([]int{api.MaxLen}, api.MaxWords+1), api.ErrLarge},
	{"far too many", make([]int, 1000), api.ErrLarge},
	{"too many and out of range", slices.Repeat([]int{-1}, api.MaxWords+1), api.ErrLarge},
	{"first below 0", []int{-1, 2}, api.ErrRange},
	{"last below 0", []int{2, -1}, api.ErrRange},
	{"first above MaxLen", []int{api.MaxLen + 1, 2}, api.ErrRange},
	{"last above MaxLen", []int{2, api.MaxLen + 1}, api.ErrRange},
	{"least number", []int{math.MinInt}, api.ErrRange},
	{"greatest number", []int{math.MaxInt}, api.ErrRange},
	{"as wide as a number", []int{64}, api.ErrRange},
	{"out of range and no such code", []int{0, 0, 9}, api.ErrRange},
}

func TestSum(t *testing.T) {
	cases := []struct {
		name string
		lens []int
		want int64
	}{
		{"nil", nil, 0},
		{"none", []int{}, 0},
		{"0", []int{0}, 256},
		{"1", []int{1}, 128},
		{"2", []int{2}, 64},
		{"3", []int{3}, 32},
		{"4", []int{4}, 16},
		{"5", []int{5}, 8},
		{"6", []int{6}, 4},
		{"7", []int{7}, 2},
		{"MaxLen", []int{8}, 1},
		{"the document's example", []int{2, 1, 2}, 256},
		{"some left", []int{3, 5, 1, 8}, 169},
		{"one above the whole", []int{0, 8}, 257},
		{"most of all", make([]int, api.MaxWords), 2048},
		{"MaxWords of MaxLen", slices.Repeat([]int{api.MaxLen}, api.MaxWords), 8},
	}
	for _, c := range cases {
		if got, err := Sum(c.lens); got != c.want || err != api.OK {
			t.Errorf("%s: %d, %d, want %d", c.name, got, err, c.want)
		}
	}
	for _, c := range wrong {
		if got, err := Sum(c.lens); got != 0 || err != c.want {
			t.Errorf("%s: %d, %d, want %d", c.name, got, err, c.want)
		}
	}
}

func TestMake(t *testing.T) {
	cases := []struct {
		name string
		lens []int
		want []string
	}{
		{"nil", nil, []string{}},
		{"none", []int{}, []string{}},
		{"the empty word", []int{0}, []string{""}},
		{"the document's example", []int{2, 1, 2}, []string{"10", "0", "11"}},
		{"one of MaxLen", []int{8}, []string{"00000000"}},
		{"shortest last", []int{3, 2, 1}, []string{"110", "10", "0"}},
		{"of several the first one", []int{2, 2, 2, 2}, []string{"00", "01", "10", "11"}},
		{"some left", []int{8, 3, 1, 5}, []string{"10101000", "100", "0", "10100"}},
		{"a far step", []int{8, 1, 8}, []string{"10000000", "0", "10000001"}},
		{"MaxWords full", []int{7, 7, 6, 5, 4, 3, 2, 1}, []string{"1111110", "1111111", "111110", "11110", "1110", "110", "10", "0"}},
		{"MaxWords of one length", slices.Repeat([]int{3}, 8), []string{"000", "001", "010", "011", "100", "101", "110", "111"}},
	}
	for _, c := range cases {
		if got, err := Make(c.lens); !slices.Equal(texts(got), c.want) || err != api.OK {
			t.Errorf("%s: %v, %d, want %v", c.name, texts(got), err, c.want)
		}
	}
}

func TestMakeOfWrongLengths(t *testing.T) {
	above := []struct {
		name string
		lens []int
		want api.Errno
	}{
		{"three halves", []int{1, 1, 1}, api.ErrNone},
		{"two empty words", []int{0, 0}, api.ErrNone},
		{"one above the whole", []int{0, 8}, api.ErrNone},
		{"one above, shortest last", []int{8, 2, 2, 1}, api.ErrNone},
		{"most of all", make([]int, api.MaxWords), api.ErrNone},
	}
	for _, c := range append(above, wrong...) {
		if got, err := Make(c.lens); len(got) != 0 || err != c.want {
			t.Errorf("%s: %v, %d, want %d", c.name, texts(got), err, c.want)
		}
	}
}

// digits writes a number with so many digits of 0 and 1.
func digits(number, length int) string {
	text := ""
	for range length {
		text = string(rune('0'+number%2)) + text
		number /= 2
	}
	return text
}

// rows has all words of each length, in the order of their numbers.
func rows() [][]string {
	out := make([][]string, api.MaxLen+1)
	for length := range out {
		for n := range 1 << length {
			out[length] = append(out[length], digits(n, length))
		}
	}
	return out
}

// makeByDefinition looks for each symbol's word among all words of its length, as the promise says it.
func makeByDefinition(rows [][]string, lens []int) ([]string, bool) {
	out := make([]string, len(lens))
	var given []string
	for length, row := range rows {
		for symbol := range lens {
			if lens[symbol] != length {
				continue
			}
			free := slices.IndexFunc(row, func(word string) bool {
				return !slices.ContainsFunc(given, func(g string) bool { return strings.HasPrefix(word, g) })
			})
			if free < 0 {
				return nil, false
			}
			out[symbol] = row[free]
			given = append(given, row[free])
		}
	}
	return out, true
}

func checkByDefinition(t *testing.T, rows [][]string, lens []int) {
	t.Helper()
	code, err := Make(lens)
	want, ok := makeByDefinition(rows, lens)
	if !ok {
		if len(code) != 0 || err != api.ErrNone {
			t.Fatalf("%v: %v, %d, want ErrNone", lens, texts(code), err)
		}
		return
	}
	if !slices.Equal(texts(code), want) || err != api.OK {
		t.Fatalf("%v: %v, %d, want %v", lens, texts(code), err, want)
	}
	if free, err := prefix.Prefix(code); !free || err != api.OK {
		t.Fatalf("%v: %v is not free of prefixes, %d", lens, want, err)
	}
}

// TestMakeByDefinition takes all short lists, and all choices of MaxWords lengths in some orders.
func TestMakeByDefinition(t *testing.T) {
	rows := rows()
	for _, lens := range allLists(4) {
		checkByDefinition(t, rows, lens)
	}
	for n := 5; n <= api.MaxWords; n++ {
		for _, list := range risingLists(n) {
			for _, lens := range mixed(list) {
				checkByDefinition(t, rows, lens)
			}
		}
	}
}

// TestSumTellsWhetherThereIsACode holds Sum against the search of words.
func TestSumTellsWhetherThereIsACode(t *testing.T) {
	rows := rows()
	for _, lens := range allLists(4) {
		sum, err := Sum(lens)
		if _, ok := makeByDefinition(rows, lens); ok != (sum <= 256) || err != api.OK {
			t.Fatalf("%v: %d, %d, but a code: %v", lens, sum, err, ok)
		}
	}
}

// TestListsAreLeftAlone looks at what was handed in, and behind its length.
func TestListsAreLeftAlone(t *testing.T) {
	all := []int{2, 1, 2, -5, 0, 77, 1, 0, 0, 0, 0, 0}
	before := slices.Clone(all)
	if sum, err := Sum(all[:3]); sum != 256 || err != api.OK {
		t.Error(sum, err)
	}
	code, err := Make(all[:3])
	if !slices.Equal(texts(code), []string{"10", "0", "11"}) || err != api.OK {
		t.Error(texts(code), err)
	}
	if !slices.Equal(all, before) {
		t.Error("lengths are changed:", all)
	}
}

// TestWordsShareNoMemory fills each word up to its capacity and looks whether another one changes.
func TestWordsShareNoMemory(t *testing.T) {
	lens := []int{3, 1, 8, 3, 8, 0}[:5]
	for i := range lens {
		code, _ := Make(lens)
		again, _ := Make(lens)
		full := code[i][:cap(code[i])]
		for j := range full {
			full[j] = !again[i][min(j, len(again[i])-1)]
		}
		for j := range code {
			if i != j && !slices.Equal(code[j], again[j]) {
				t.Errorf("word %d changes with word %d", j, i)
			}
		}
		if more, _ := Make(lens); !slices.Equal(texts(more), texts(again)) {
			t.Error("an answer is kept:", texts(more))
		}
	}
}
