package huff

import (
	"math"
	"slices"
	"testing"

	"quipu/api"
	"quipu/kraft"
	"quipu/prefix"
)

// mixer gives numbers that are not in order, the same ones each time.
type mixer uint64

func (m *mixer) below(n int) int {
	*m = *m*6364136223846793005 + 1442695040888963407
	return int(uint64(*m)>>33) % n
}

// equal has so many times the weight.
func equal(n int, weight int64) []int64 {
	return slices.Repeat([]int64{weight}, n)
}

// costOf is what words of these lengths cost.
func costOf(weights []int64, lens []int) int64 {
	cost := int64(0)
	for i := range lens {
		cost += int64(lens[i]) * weights[i]
	}
	return cost
}

// checkLens asks whether Lens answers lengths of a code without prefixes that costs so much.
func checkLens(t *testing.T, weights []int64, want int64) {
	t.Helper()
	lens, err := Lens(weights)
	if err != api.OK || len(lens) != len(weights) {
		t.Fatalf("%v: the lengths %v, %d", weights, lens, err)
	}
	for _, length := range lens {
		if length < 0 || length > len(weights) {
			t.Fatalf("%v: the lengths %v, above how many there are", weights, lens)
		}
	}
	code, err := kraft.Make(lens)
	if err != api.OK {
		t.Fatalf("%v: no code has the lengths %v, %d", weights, lens, err)
	}
	if free, err := prefix.Prefix(code); !free || err != api.OK {
		t.Fatalf("%v: %v is not free of prefixes, %d", weights, code, err)
	}
	if got := costOf(weights, lens); got != want {
		t.Fatalf("%v: the lengths %v cost %d, want %d", weights, lens, got, want)
	}
}

// checkCost asks both functions about the weights.
func checkCost(t *testing.T, weights []int64, want int64) {
	t.Helper()
	if got, err := Cost(weights); got != want || err != api.OK {
		t.Fatalf("%v: %d, %d, want %d", weights, got, err, want)
	}
	checkLens(t, weights, want)
}

func TestCost(t *testing.T) {
	cases := []struct {
		name    string
		weights []int64
		want    int64
	}{
		{"nil", nil, 0},
		{"none", []int64{}, 0},
		{"one, which needs no bit", []int64{7}, 0},
		{"one of no weight", []int64{0}, 0},
		{"one of MaxWeight", []int64{api.MaxWeight}, 0},
		{"two", []int64{3, 4}, 7},
		{"two, one of no weight", []int64{0, 4}, 4},
		{"two of no weight", []int64{0, 0}, 0},
		{"the document's example", []int64{1, 1, 2}, 6},
		{"the heaviest first", []int64{2, 1, 1}, 6},
		{"the heaviest in the middle", []int64{1, 5, 1}, 9},
		{"four alike", equal(4, 1), 8},
		{"five alike", equal(5, 1), 12},
		{"a joined tree is heavier than the next ones", []int64{3, 3, 4, 4}, 28},
		{"many of no weight", []int64{0, 0, 0, 0, 0, 0, 0, 9}, 9},
		{"MaxWords of no weight", equal(api.MaxWords, 0), 0},
		{"MaxWords alike", equal(api.MaxWords, 5), 120},
		{"MaxWords of MaxWeight", equal(api.MaxWords, api.MaxWeight), 24 << 20},
		{"as deep as can be", []int64{1, 1, 2, 4, 8, 16, 32, 64}, 254},
		{"deep, out of order", []int64{64, 1, 16, 2, 32, 8, 1, 4}, 254},
		{"as the numbers of rabbits", []int64{1, 1, 2, 3, 5, 8, 13, 21}, 132},
		{"as letters come", []int64{5, 9, 12, 13, 16, 45}, 224},
	}
	for _, c := range cases {
		t.Run(c.name, func(t *testing.T) { checkCost(t, c.weights, c.want) })
	}
}

// TestLens has weights of which one list of lengths alone costs least.
func TestLens(t *testing.T) {
	cases := []struct {
		name    string
		weights []int64
		want    []int
	}{
		{"none", nil, []int{}},
		{"one", []int64{4}, []int{0}},
		{"two", []int64{9, 2}, []int{1, 1}},
		{"the document's example", []int64{1, 1, 2}, []int{2, 2, 1}},
		{"the heaviest in the middle", []int64{1, 5, 1}, []int{2, 1, 2}},
		{"four alike", equal(4, 3), []int{2, 2, 2, 2}},
		{"MaxWords alike", equal(8, 3), []int{3, 3, 3, 3, 3, 3, 3, 3}},
		{"deep", []int64{1, 1, 3, 6, 12, 24, 48, 96}, []int{7, 7, 6, 5, 4, 3, 2, 1}},
		{"deep, out of order", []int64{96, 1, 12, 3, 48, 6, 1, 24}, []int{1, 7, 4, 6, 2, 5, 7, 3}},
	}
	for _, c := range cases {
		if got, err := Lens(c.weights); !slices.Equal(got, c.want) || err != api.OK {
			t.Errorf("%s: %v, %d, want %v", c.name, got, err, c.want)
		}
	}
}

func TestWrongWeights(t *testing.T) {
	cases := []struct {
		name    string
		weights []int64
		want    api.Errno
	}{
		{"a weight too many", equal(api.MaxWords+1, 1), api.ErrLarge},
		{"far too many", equal(1000, 1), api.ErrLarge},
		{"too many and out of range", equal(api.MaxWords+1, -1), api.ErrLarge},
		{"one below 0", []int64{-1}, api.ErrRange},
		{"first below 0", []int64{-1, 2}, api.ErrRange},
		{"last below 0", []int64{2, 2, -1}, api.ErrRange},
		{"first above MaxWeight", []int64{api.MaxWeight + 1, 2}, api.ErrRange},
		{"last above MaxWeight", []int64{2, 2, api.MaxWeight + 1}, api.ErrRange},
		{"least number", []int64{math.MinInt64}, api.ErrRange},
		{"greatest number", []int64{math.MaxInt64}, api.ErrRange},
		{"one beyond 32 bits", []int64{1 << 32, 1}, api.ErrRange},
	}
	for _, c := range cases {
		if got, err := Cost(c.weights); got != 0 || err != c.want {
			t.Errorf("%s: Cost: %d, %d, want %d", c.name, got, err, c.want)
		}
		if got, err := Lens(c.weights); len(got) != 0 || err != c.want {
			t.Errorf("%s: Lens: %v, %d, want %d", c.name, got, err, c.want)
		}
	}
}

// lists has each list of just n numbers from least up to most; where rising, none is below the one ahead of it.
func lists(n, least, most int, rising bool) [][]int {
	if n == 0 {
		return [][]int{{}}
	}
	var out [][]int
	for _, list := range lists(n-1, least, most, rising) {
		from := least
		if rising && len(list) > 0 {
			from = list[len(list)-1]
		}
		for number := from; number <= most; number++ {
			out = append(out, append(slices.Clone(list), number))
		}
	}
	return out
}

// fitting has the lists of n lengths, none of them above n, of which there is a code without prefixes.
func fitting(n int, rising bool) [][]int {
	var out [][]int
	for _, lens := range lists(n, 0, n, rising) {
		if sum, err := kraft.Sum(lens); err == api.OK && sum <= 256 {
			out = append(out, lens)
		}
	}
	return out
}

// leastOf is the least that words of any of these lists of lengths cost.
func leastOf(weights []int64, choices [][]int) int64 {
	least := int64(math.MaxInt64)
	for _, lens := range choices {
		least = min(least, costOf(weights, lens))
	}
	return least
}

// TestAgainstAllLengths takes all short lists of small weights, and holds them against each list of lengths of which there is a code.
func TestAgainstAllLengths(t *testing.T) {
	for n := range 6 {
		choices := fitting(n, false)
		for _, list := range lists(n, 0, 4, false) {
			weights := wide(list)
			checkCost(t, weights, leastOf(weights, choices))
		}
	}
}

func wide(list []int) []int64 {
	weights := make([]int64, len(list))
	for i := range list {
		weights[i] = int64(list[i])
	}
	return weights
}

// leastSorted is the least that words cost: some code that costs least gives the shorter words to what weighs more.
func leastSorted(weights []int64, rising [][]int) int64 {
	heaviestFirst := slices.Clone(weights)
	slices.Sort(heaviestFirst)
	slices.Reverse(heaviestFirst)
	return leastOf(heaviestFirst, rising)
}

// TestAgainstAllLengthsOfMany takes weights of all sizes, out of order.
func TestAgainstAllLengthsOfMany(t *testing.T) {
	m := mixer(4)
	for n := 1; n <= api.MaxWords; n++ {
		rising := fitting(n, true)
		for i := range 600 {
			weights := make([]int64, n)
			for j := range weights {
				weights[j] = int64(m.below(1<<m.below(1+i%20) + 1))
			}
			checkCost(t, weights, leastSorted(weights, rising))
		}
		for range 100 {
			weights := make([]int64, n)
			for j := range weights {
				weights[j] = int64(api.MaxWeight - m.below(3))
			}
			checkCost(t, weights, leastSorted(weights, rising))
		}
	}
}

// TestCostHangsOnNoOrder gives the same weights in all their orders.
func TestCostHangsOnNoOrder(t *testing.T) {
	weights := []int64{0, 1, 1, 2, 3, 5, api.MaxWeight}
	want, _ := Cost(weights)
	var turn func(k int)
	turn = func(k int) {
		if k == len(weights) {
			checkCost(t, weights, want)
			return
		}
		for i := k; i < len(weights); i++ {
			weights[k], weights[i] = weights[i], weights[k]
			turn(k + 1)
			weights[k], weights[i] = weights[i], weights[k]
		}
	}
	turn(0)
}

// TestListsAreLeftAlone looks at what was handed in, and behind its length.
func TestListsAreLeftAlone(t *testing.T) {
	all := []int64{2, 1, 1, -5, 0, 1 << 40, 1, 0, 0, 0, 0, 0}
	before := slices.Clone(all)
	checkCost(t, all[:3], 6)
	if !slices.Equal(all, before) {
		t.Error("weights are changed:", all)
	}
}

// TestAnswersAreNew changes an answer up to its capacity and asks again.
func TestAnswersAreNew(t *testing.T) {
	weights := []int64{1, 1, 2}
	lens, _ := Lens(weights)
	full := lens[:cap(lens)]
	for i := range full {
		full[i] = 77
	}
	if again, err := Lens(weights); !slices.Equal(again, []int{2, 2, 1}) || err != api.OK {
		t.Error("an answer is kept:", again, err)
	}
	if !slices.Equal(weights, []int64{1, 1, 2}) {
		t.Error("weights are changed:", weights)
	}
}
