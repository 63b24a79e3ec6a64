package alpha

import (
	"math"
	"slices"
	"testing"

	"quipu/api"
	"quipu/huff"
	"quipu/prefix"
)

// mixer gives numbers that are not in order, the same ones each time.
type mixer uint64

func (m *mixer) below(n int) int {
	*m = *m*6364136223846793005 + 1442695040888963407
	return int(uint64(*m)>>33) % n
}

// texts writes a code's words as digits.
func texts(code [][]bool) []string {
	out := []string{}
	for _, word := range code {
		text := ""
		for _, bit := range word {
			if bit {
				text += "1"
			} else {
				text += "0"
			}
		}
		out = append(out, text)
	}
	return out
}

// digitsOf writes a number with so many digits of 0 and 1.
func digitsOf(number, length int) string {
	text := ""
	for range length {
		text = string(rune('0'+number%2)) + text
		number /= 2
	}
	return text
}

// allWords has all words of each length, in the order of their numbers.
func allWords() [][]string {
	out := make([][]string, api.MaxLen+1)
	for length := range out {
		for n := range 1 << length {
			out[length] = append(out[length], digitsOf(n, length))
		}
	}
	return out
}

var words = allWords()

// rises tells whether the first word has 0, and the second one 1, where both first differ.
func rises(a, b string) bool {
	for i := range min(len(a), len(b)) {
		if a[i] != b[i] {
			return a[i] < b[i]
		}
	}
	return false
}

// makeByDefinition looks for each symbol's word among all words of its length, as the promise says it.
func makeByDefinition(lens []int) ([]string, bool) {
	var given []string
	for _, length := range lens {
		free := slices.IndexFunc(words[length], func(word string) bool {
			return !slices.ContainsFunc(given, func(g string) bool { return !rises(g, word) })
		})
		if free < 0 {
			return nil, false
		}
		given = append(given, words[length][free])
	}
	return given, true
}

// thereIs tells whether some words of these lengths rise behind those that are given, whichever they are.
func thereIs(given []string, lens []int) bool {
	if len(lens) == 0 {
		return true
	}
	for _, word := range words[lens[0]] {
		clashes := func(g string) bool { return !rises(g, word) }
		if !slices.ContainsFunc(given, clashes) && thereIs(append(slices.Clone(given), word), lens[1:]) {
			return true
		}
	}
	return false
}

// lists has each list of just n numbers from 0 up to most, in their order.
func lists(n, most int) [][]int {
	if n == 0 {
		return [][]int{{}}
	}
	var out [][]int
	for _, list := range lists(n-1, most) {
		for number := range most + 1 {
			out = append(out, append(slices.Clone(list), number))
		}
	}
	return out
}

func wide(list []int) []int64 {
	weights := make([]int64, len(list))
	for i := range list {
		weights[i] = int64(list[i])
	}
	return weights
}

// equal has so many times the weight.
func equal(n int, weight int64) []int64 {
	return slices.Repeat([]int64{weight}, n)
}

// costOf is what words of these lengths cost.
func costOf(weights []int64, lens []int) int64 {
	cost := int64(0)
	for i := range lens {
		cost += int64(lens[i]) * weights[i]
	}
	return cost
}

// checkBoth asks Cost and Lens about the weights, and whether there is a code of the lengths.
func checkBoth(t *testing.T, weights []int64, cost int64, lens []int) {
	t.Helper()
	if got, err := Cost(weights); got != cost || err != api.OK {
		t.Fatalf("%v: Cost: %d, %d, want %d", weights, got, err, cost)
	}
	got, err := Lens(weights)
	if !slices.Equal(got, lens) || err != api.OK {
		t.Fatalf("%v: Lens: %v, %d, want %v", weights, got, err, lens)
	}
	if costOf(weights, got) != cost {
		t.Fatalf("%v: the lengths %v cost %d, want %d", weights, got, costOf(weights, got), cost)
	}
	code, err := Make(got)
	if err != api.OK {
		t.Fatalf("%v: no code has the lengths %v, %d", weights, got, err)
	}
	checkRising(t, code, got)
}

// checkRising asks whether the code has just these lengths, and its words rise.
func checkRising(t *testing.T, code [][]bool, lens []int) {
	t.Helper()
	list := texts(code)
	for i := range list {
		if len(list[i]) != lens[i] {
			t.Fatalf("%v: a wrong length in %v", lens, list)
		}
		for _, later := range list[i+1:] {
			if !rises(list[i], later) {
				t.Fatalf("%v: %v does not rise", lens, list)
			}
		}
	}
	if free, err := prefix.Prefix(code); !free || err != api.OK {
		t.Fatalf("%v: %v is not free of prefixes, %d", lens, list, err)
	}
}

func TestCostAndLens(t *testing.T) {
	cases := []struct {
		name    string
		weights []int64
		cost    int64
		lens    []int
	}{
		{"nil", nil, 0, []int{}},
		{"none", []int64{}, 0, []int{}},
		{"one, which needs no bit", []int64{7}, 0, []int{0}},
		{"one of MaxWeight", []int64{api.MaxWeight}, 0, []int{0}},
		{"two", []int64{3, 4}, 7, []int{1, 1}},
		{"two of no weight", []int64{0, 0}, 0, []int{1, 1}},
		{"the document's example", []int64{1, 5, 1}, 13, []int{1, 2, 2}},
		{"the heaviest first", []int64{2, 1, 1}, 6, []int{1, 2, 2}},
		{"the heaviest last", []int64{1, 1, 2}, 6, []int{2, 2, 1}},
		{"the last is heavier by one", []int64{1, 5, 2}, 14, []int{2, 2, 1}},
		{"three alike", equal(3, 1), 5, []int{1, 2, 2}},
		{"three of no weight", equal(3, 0), 0, []int{1, 2, 2}},
		{"four alike", equal(4, 1), 8, []int{2, 2, 2, 2}},
		{"four of no weight", equal(4, 0), 0, []int{1, 2, 3, 3}},
		{"five alike", equal(5, 1), 12, []int{2, 2, 2, 3, 3}},
		{"as long at the first, shorter later", []int64{1, 2, 2, 1}, 12, []int{2, 2, 2, 2}},
		{"light ones around a heavy one", []int64{0, 9, 0, 0}, 18, []int{1, 2, 3, 3}},
		{"MaxWords alike", equal(8, 5), 120, []int{3, 3, 3, 3, 3, 3, 3, 3}},
		{"MaxWords of no weight", equal(8, 0), 0, []int{1, 2, 3, 4, 5, 6, 7, 7}},
		{"MaxWords of MaxWeight", equal(8, api.MaxWeight), 24 << 20, []int{3, 3, 3, 3, 3, 3, 3, 3}},
		{"as deep as can be", []int64{96, 48, 24, 12, 6, 3, 1, 1}, 374, []int{1, 2, 3, 4, 5, 6, 7, 7}},
		{"deep from the other end", []int64{1, 1, 3, 6, 12, 24, 48, 96}, 374, []int{7, 7, 6, 5, 4, 3, 2, 1}},
	}
	for _, c := range cases {
		t.Run(c.name, func(t *testing.T) { checkBoth(t, c.weights, c.cost, c.lens) })
	}
}

func TestWrongWeights(t *testing.T) {
	cases := []struct {
		name    string
		weights []int64
		want    api.Errno
	}{
		{"a weight too many", equal(api.MaxWords+1, 1), api.ErrLarge},
		{"far too many", equal(1000, 1), api.ErrLarge},
		{"too many and out of range", equal(api.MaxWords+1, -1), api.ErrLarge},
		{"one below 0", []int64{-1}, api.ErrRange},
		{"first below 0", []int64{-1, 2}, api.ErrRange},
		{"last below 0", []int64{2, 2, -1}, api.ErrRange},
		{"first above MaxWeight", []int64{api.MaxWeight + 1, 2}, api.ErrRange},
		{"last above MaxWeight", []int64{2, 2, api.MaxWeight + 1}, api.ErrRange},
		{"least number", []int64{math.MinInt64}, api.ErrRange},
		{"greatest number", []int64{math.MaxInt64}, api.ErrRange},
	}
	for _, c := range cases {
		if got, err := Cost(c.weights); got != 0 || err != c.want {
			t.Errorf("%s: Cost: %d, %d, want %d", c.name, got, err, c.want)
		}
		if got, err := Lens(c.weights); len(got) != 0 || err != c.want {
			t.Errorf("%s: Lens: %v, %d, want %d", c.name, got, err, c.want)
		}
	}
}

// fitting has the lists of n lengths, none of them above n, of which there is a code whose words rise.
func fitting(n int) [][]int {
	return slices.DeleteFunc(lists(n, n), func(lens []int) bool {
		_, ok := makeByDefinition(lens)
		return !ok
	})
}

// firstOf is the first one of the lists of lengths, which stand in their order, that costs least.
func firstOf(weights []int64, choices [][]int) []int {
	first := choices[0]
	for _, lens := range choices {
		if costOf(weights, lens) < costOf(weights, first) {
			first = lens
		}
	}
	return first
}

func checkFirst(t *testing.T, weights []int64, choices [][]int) {
	t.Helper()
	want := firstOf(weights, choices)
	checkBoth(t, weights, costOf(weights, want), want)
}

// TestAgainstAllLengths takes all short lists of small weights, and holds them against each list of lengths of which there is a code, those with bits that could be left out among them.
func TestAgainstAllLengths(t *testing.T) {
	for n := range 6 {
		choices := fitting(n)
		for _, list := range lists(n, 3) {
			checkFirst(t, wide(list), choices)
		}
	}
}

// trees has the lists of lengths of n words that leave no bit out, in their order.
func trees(n int) [][]int {
	if n == 1 {
		return [][]int{{0}}
	}
	var out [][]int
	for split := 1; split < n; split++ {
		for _, zeros := range trees(split) {
			for _, ones := range trees(n - split) {
				lens := slices.Concat(zeros, ones)
				for i := range lens {
					lens[i]++
				}
				out = append(out, lens)
			}
		}
	}
	slices.SortFunc(out, slices.Compare)
	return out
}

// someWeights has n weights of all sizes, many of them alike or 0.
func someWeights(m *mixer, n, size int) []int64 {
	weights := make([]int64, n)
	for i := range weights {
		weights[i] = int64(m.below(1<<m.below(1+size) + 1))
	}
	return weights
}

// TestAgainstAllTrees takes as many weights as may be.
func TestAgainstAllTrees(t *testing.T) {
	m := mixer(5)
	for n := 1; n <= api.MaxWords; n++ {
		choices := trees(n)
		for i := range 500 {
			checkFirst(t, someWeights(&m, n, i%20), choices)
		}
		for range 50 {
			weights := make([]int64, n)
			for i := range weights {
				weights[i] = int64(api.MaxWeight - m.below(3))
			}
			checkFirst(t, weights, choices)
		}
	}
}

// TestTreesAreEnough holds six weights against each list of lengths, as five are above.
func TestTreesAreEnough(t *testing.T) {
	m := mixer(6)
	choices := fitting(6)
	for i := range 60 {
		checkFirst(t, someWeights(&m, 6, i%5), choices)
	}
}

// TestOrderCostsMore holds Cost against huff's: words that need not rise cost no more, and as much where the weights rise.
func TestOrderCostsMore(t *testing.T) {
	m := mixer(7)
	for i := range 500 {
		weights := someWeights(&m, 1+i%api.MaxWords, i%20)
		free, _ := huff.Cost(weights)
		if got, err := Cost(weights); got < free || err != api.OK {
			t.Fatalf("%v: %d, %d, below %d", weights, got, err, free)
		}
		slices.Sort(weights)
		if got, err := Cost(weights); got != free || err != api.OK {
			t.Fatalf("%v: %d, %d, want %d", weights, got, err, free)
		}
	}
}

func TestMake(t *testing.T) {
	cases := []struct {
		name string
		lens []int
		want []string
	}{
		{"nil", nil, []string{}},
		{"none", []int{}, []string{}},
		{"the empty word", []int{0}, []string{""}},
		{"the document's example", []int{1, 2, 2}, []string{"0", "10", "11"}},
		{"one of MaxLen", []int{8}, []string{"00000000"}},
		{"longest first", []int{3, 2, 1}, []string{"000", "01", "1"}},
		{"a gap in front of a short word", []int{8, 1}, []string{"00000000", "1"}},
		{"a gap in the middle", []int{3, 2, 3, 2}, []string{"000", "01", "100", "11"}},
		{"no gap where the short word fits", []int{3, 3, 2, 1}, []string{"000", "001", "01", "1"}},
		{"up and down", []int{2, 8, 2, 8}, []string{"00", "01000000", "10", "11000000"}},
		{"all of one length", []int{2, 2, 2, 2}, []string{"00", "01", "10", "11"}},
		{"MaxWords of one length", slices.Repeat([]int{3}, 8), []string{"000", "001", "010", "011", "100", "101", "110", "111"}},
		{"MaxWords full", []int{7, 7, 6, 5, 4, 3, 2, 1}, []string{"0000000", "0000001", "000001", "00001", "0001", "001", "01", "1"}},
		{"MaxWords of MaxLen", slices.Repeat([]int{8}, 8), []string{"00000000", "00000001", "00000010", "00000011", "00000100", "00000101", "00000110", "00000111"}},
	}
	for _, c := range cases {
		if got, err := Make(c.lens); !slices.Equal(texts(got), c.want) || err != api.OK {
			t.Errorf("%s: %v, %d, want %v", c.name, texts(got), err, c.want)
		}
	}
}

func TestMakeOfWrongLengths(t *testing.T) {
	cases := []struct {
		name string
		lens []int
		want api.Errno
	}{
		{"a length too many", slices.Repeat([]int{api.MaxLen}, api.MaxWords+1), api.ErrLarge},
		{"far too many", make([]int, 1000), api.ErrLarge},
		{"too many and out of range", slices.Repeat([]int{-1}, api.MaxWords+1), api.ErrLarge},
		{"first below 0", []int{-1, 2}, api.ErrRange},
		{"last below 0", []int{2, -1}, api.ErrRange},
		{"first above MaxLen", []int{api.MaxLen + 1, 2}, api.ErrRange},
		{"last above MaxLen", []int{2, api.MaxLen + 1}, api.ErrRange},
		{"least number", []int{math.MinInt}, api.ErrRange},
		{"greatest number", []int{math.MaxInt}, api.ErrRange},
		{"out of range and no such code", []int{0, 0, 9}, api.ErrRange},
		{"a code, but none that rises", []int{2, 1, 2}, api.ErrNone},
		{"a code, but a gap too wide", []int{8, 1, 1}, api.ErrNone},
		{"no word behind the last one", []int{2, 8, 2, 8, 2}, api.ErrNone},
		{"three halves", []int{1, 1, 1}, api.ErrNone},
		{"two empty words", []int{0, 0}, api.ErrNone},
		{"a word behind the empty one", []int{0, 8}, api.ErrNone},
		{"the empty word behind another one", []int{8, 0}, api.ErrNone},
		{"most of all", make([]int, api.MaxWords), api.ErrNone},
	}
	for _, c := range cases {
		if got, err := Make(c.lens); len(got) != 0 || err != c.want {
			t.Errorf("%s: %v, %d, want %d", c.name, texts(got), err, c.want)
		}
	}
}

func checkByDefinition(t *testing.T, lens []int) {
	t.Helper()
	code, err := Make(lens)
	want, ok := makeByDefinition(lens)
	if !ok {
		if len(code) != 0 || err != api.ErrNone {
			t.Fatalf("%v: %v, %d, want ErrNone", lens, texts(code), err)
		}
		return
	}
	if !slices.Equal(texts(code), want) || err != api.OK {
		t.Fatalf("%v: %v, %d, want %v", lens, texts(code), err, want)
	}
	checkRising(t, code, lens)
}

// TestMakeByDefinition takes all short lists, and longer ones out of order.
func TestMakeByDefinition(t *testing.T) {
	for n := range 5 {
		for _, lens := range lists(n, api.MaxLen) {
			checkByDefinition(t, lens)
		}
	}
	m := mixer(8)
	for n := 5; n <= api.MaxWords; n++ {
		for range 3000 {
			lens := make([]int, n)
			for i := range lens {
				lens[i] = 2 + m.below(api.MaxLen-1)
			}
			checkByDefinition(t, lens)
		}
	}
}

// TestNoneIsToldOfNoCodeAlone looks at all codes of short words, not only at those with the first words.
func TestNoneIsToldOfNoCodeAlone(t *testing.T) {
	for n := range 6 {
		for _, lens := range lists(n, 3) {
			_, err := Make(lens)
			if is := thereIs(nil, lens); is != (err == api.OK) {
				t.Fatalf("%v: %d, but a code: %v", lens, err, is)
			}
		}
	}
}

// TestListsAreLeftAlone looks at what was handed in, and behind its length.
func TestListsAreLeftAlone(t *testing.T) {
	weights := []int64{1, 5, 1, -5, 0, 1 << 40, 1, 0, 0, 0, 0, 0}
	before := slices.Clone(weights)
	checkBoth(t, weights[:3], 13, []int{1, 2, 2})
	if !slices.Equal(weights, before) {
		t.Error("weights are changed:", weights)
	}
	lens := []int{1, 2, 2, -5, 0, 77, 1, 0, 0, 0, 0, 0}
	same := slices.Clone(lens)
	code, err := Make(lens[:3])
	if !slices.Equal(texts(code), []string{"0", "10", "11"}) || err != api.OK {
		t.Error(texts(code), err)
	}
	if !slices.Equal(lens, same) {
		t.Error("lengths are changed:", lens)
	}
}

// TestLensAreNew changes an answer up to its capacity and asks again.
func TestLensAreNew(t *testing.T) {
	weights := []int64{1, 5, 1}
	lens, _ := Lens(weights)
	full := lens[:cap(lens)]
	for i := range full {
		full[i] = 77
	}
	checkBoth(t, weights, 13, []int{1, 2, 2})
	if !slices.Equal(weights, []int64{1, 5, 1}) {
		t.Error("weights are changed:", weights)
	}
}

// TestWordsShareNoMemory fills each word up to its capacity and looks whether another one changes.
func TestWordsShareNoMemory(t *testing.T) {
	lens := []int{3, 2, 8, 3, 8}
	for i := range lens {
		code, _ := Make(lens)
		again, _ := Make(lens)
		full := code[i][:cap(code[i])]
		for j := range full {
			full[j] = !again[i][min(j, len(again[i])-1)]
		}
		for j := range code {
			if i != j && !slices.Equal(code[j], again[j]) {
				t.Errorf("word %d changes with word %d", j, i)
			}
		}
		if more, _ := Make(lens); !slices.Equal(texts(more), texts(again)) {
			t.Error("an answer is kept:", texts(more))
		}
	}
}
