package field

import (
	"math"
	"slices"
	"testing"

	"quipu/api"
)

// maxNumbers is how many numbers a list may have.
const maxNumbers = 64

// powersOfTwo has 2 as often with itself as its index tells: by hand, x^4 is x + 1.
func powersOfTwo() []int {
	return []int{1, 2, 4, 8, 3, 6, 12, 11, 5, 10, 7, 14, 15, 13, 9}
}

// wrongNumbers are not from 0 to 15.
func wrongNumbers() []int {
	list := []int{-1 << 32, -1<<32 + 1, 1 << 32, 1<<32 + 1, 1<<32 + 15, 1<<32 - 1, math.MinInt32, math.MaxInt32, math.MinInt, math.MinInt + 1, math.MinInt + 15, math.MaxInt - 15, math.MaxInt - 1, math.MaxInt}
	for far := range 300 {
		list = append(list, -1-far, 16+far)
	}
	return list
}

// someNumbers are right and wrong ones.
func someNumbers() []int {
	return []int{0, 1, 2, 9, 15, -1, 16, 17, 19, 64, math.MinInt, math.MaxInt}
}

// ownProduct multiplies power by power, and then puts for each power above x^3 what it leaves, from the greatest one on.
func ownProduct(a, b int) int {
	var powers [7]bool
	for i, x := range bitsOf(a) {
		for j, y := range bitsOf(b) {
			if x && y {
				powers[i+j] = !powers[i+j]
			}
		}
	}
	for i := 6; i >= 4; i-- {
		if powers[i] { // x^i is x^(i-3) + x^(i-4)
			powers[i-3] = !powers[i-3]
			powers[i-4] = !powers[i-4]
		}
	}
	return wordOf(powers[:4])
}

// ownSum has what just one of both has.
func ownSum(a, b int) int {
	sum := make([]bool, 4)
	other := bitsOf(b)
	for i, x := range bitsOf(a) {
		sum[i] = x != other[i]
	}
	return wordOf(sum)
}

// bitsOf has the four bits of a number, bit 0 first.
func bitsOf(a int) []bool {
	return []bool{a%2 == 1, a/2%2 == 1, a/4%2 == 1, a/8%2 == 1}
}

func wordOf(l []bool) int {
	word, one := 0, 1
	for _, bit := range l {
		if bit {
			word += one
		}
		one *= 2
	}
	return word
}

// ownPower multiplies as often as is told.
func ownPower(a, k int) int {
	power := 1
	for range k {
		power = ownProduct(power, a)
	}
	return power
}

// ownAt sums up all from the beginning on, with each power made anew.
func ownAt(l []int, x int) int {
	sum := 0
	for ahead, a := range l {
		sum = ownSum(sum, ownProduct(a, ownPower(x, ahead)))
	}
	return sum
}

// anyLists has lists of so many numbers: of one number alone, each place alone set, and some that no rule is seen in.
func anyLists(length int) [][]int {
	var lists [][]int
	for a := range 16 {
		lists = append(lists, slices.Repeat([]int{a}, length))
	}
	for i := range length {
		for _, a := range []int{1, 7, 15} {
			l := make([]int, length)
			l[i] = a
			lists = append(lists, l)
		}
	}
	number := uint32(length) + 1
	for range 8 {
		l := make([]int, length)
		for i := range l {
			number = number*1664525 + 1013904223
			l[i] = int(number >> 28)
		}
		lists = append(lists, l)
	}
	return lists
}

func checkMul(t *testing.T, a, b, want int, wantErr api.Errno) {
	t.Helper()
	if got, err := Mul(a, b); got != want || err != wantErr {
		t.Errorf("Mul of %d, %d: %d, %d, want %d, %d", a, b, got, err, want, wantErr)
	}
}

func checkInv(t *testing.T, a, want int, wantErr api.Errno) {
	t.Helper()
	if got, err := Inv(a); got != want || err != wantErr {
		t.Errorf("Inv of %d: %d, %d, want %d, %d", a, got, err, want, wantErr)
	}
}

func checkPow(t *testing.T, a, k, want int, wantErr api.Errno) {
	t.Helper()
	if got, err := Pow(a, k); got != want || err != wantErr {
		t.Errorf("Pow of %d, %d: %d, %d, want %d, %d", a, k, got, err, want, wantErr)
	}
}

func checkAt(t *testing.T, l []int, x, want int, wantErr api.Errno) {
	t.Helper()
	if got, err := At(l, x); got != want || err != wantErr {
		t.Errorf("At of %v, %d: %d, %d, want %d, %d", l, x, got, err, want, wantErr)
	}
}

func TestSomeProducts(t *testing.T) {
	cases := []struct {
		name       string
		a, b, want int
	}{
		{"the document's example", 2, 9, 1},
		{"nothing", 0, 0, 0},
		{"nothing of the greatest", 0, 15, 0},
		{"once", 1, 13, 13},
		{"less than the divisor is left as it is", 3, 5, 15},
		{"a sum that has fewer bits", 3, 3, 5},
		{"just the degree of the divisor", 2, 8, 3},
		{"the greatest degree", 8, 8, 12},
		{"the greatest numbers", 15, 15, 10},
	}
	for _, c := range cases {
		t.Run(c.name, func(t *testing.T) {
			checkMul(t, c.a, c.b, c.want, api.OK)
			checkMul(t, c.b, c.a, c.want, api.OK)
		})
	}
}

func TestAllProducts(t *testing.T) {
	for a := range 16 {
		for b := range 16 {
			checkMul(t, a, b, ownProduct(a, b), api.OK)
		}
		checkMul(t, a, 0, 0, api.OK)
		checkMul(t, a, 1, a, api.OK)
	}
	powers := powersOfTwo()
	for i, a := range powers {
		for j, b := range powers {
			checkMul(t, a, b, powers[(i+j)%15], api.OK)
		}
	}
}

func TestAllInverses(t *testing.T) {
	checkInv(t, 0, 0, api.ErrNone)
	for a, want := range []int{1, 9, 14, 13, 11, 7, 6, 15, 2, 12, 5, 10, 4, 3, 8} {
		checkInv(t, a+1, want, api.OK)
		if product := ownProduct(a+1, want); product != 1 {
			t.Errorf("%d times %d is %d", a+1, want, product)
		}
	}
}

func TestSomePowers(t *testing.T) {
	cases := []struct {
		name       string
		a, k, want int
	}{
		{"nothing, not once", 0, 0, 1},
		{"nothing, once", 0, 1, 0},
		{"nothing, fifteen times", 0, 15, 0},
		{"nothing, as often as may be", 0, math.MaxInt, 0},
		{"one, as often as may be", 1, math.MaxInt, 1},
		{"not once", 15, 0, 1},
		{"once", 15, 1, 15},
		{"just the degree of the divisor", 2, 4, 3},
		{"all powers come again", 2, 15, 1},
		{"and then they go on", 2, 16, 2},
		{"as great as 31 bits may be", 2, math.MaxInt32, 11},
		{"the greatest one that is halved without a rest", 2, math.MaxInt32 - 1, 12},
		{"fifteen times any number", 9, 15 * 1_000_003, 1},
	}
	for _, c := range cases {
		t.Run(c.name, func(t *testing.T) {
			checkPow(t, c.a, c.k, c.want, api.OK)
		})
	}
}

func TestAllPowers(t *testing.T) {
	for a := range 16 {
		power := 1
		for k := range 300 {
			checkPow(t, a, k, power, api.OK)
			power = ownProduct(power, a)
		}
	}
	powers := powersOfTwo()
	for i, a := range powers {
		for _, k := range []int{1<<16 + 3, 1 << 30, math.MaxInt32, math.MaxInt - 15, math.MaxInt - 2, math.MaxInt - 1, math.MaxInt} {
			checkPow(t, a, k, powers[i*(k%15)%15], api.OK)
		}
	}
}

func TestSomeAt(t *testing.T) {
	cases := []struct {
		name    string
		l       []int
		x, want int
	}{
		{"no numbers", nil, 0, 0},
		{"no numbers, at the greatest", []int{}, 15, 0},
		{"one number, at nothing", []int{13}, 0, 13},
		{"one number, at the greatest", []int{13}, 15, 13},
		{"two numbers", []int{1, 2}, 3, 7},
		{"the first number, at nothing", []int{5, 9, 15}, 0, 5},
		{"the sum, at one", []int{5, 9, 15}, 1, 3},
		{"three numbers", []int{5, 9, 15}, 2, 13},
		{"the other way round", []int{15, 9, 5}, 2, 9},
		{"zeros ahead", []int{0, 0, 0, 0, 1}, 2, 3},
		{"zeros behind", []int{6, 0, 0, 0, 0}, 2, 6},
		{"what comes again is away", []int{7, 0, 0, 0, 0, 0, 0, 0, 0, 0, 0, 0, 0, 0, 0, 7}, 2, 0},
	}
	for _, c := range cases {
		t.Run(c.name, func(t *testing.T) {
			checkAt(t, c.l, c.x, c.want, api.OK)
		})
	}
}

// TestAtShortLists has all lists of up to three numbers, at each one.
func TestAtShortLists(t *testing.T) {
	for a := range 16 {
		for x := range 16 {
			checkAt(t, []int{a}, x, a, api.OK)
			for b := range 16 {
				checkAt(t, []int{a, b}, x, ownAt([]int{a, b}, x), api.OK)
				for c := range 16 {
					checkAt(t, []int{a, b, c}, x, ownAt([]int{a, b, c}, x), api.OK)
				}
			}
		}
	}
}

// TestAtLongLists has lists of all lengths that there may be.
func TestAtLongLists(t *testing.T) {
	for length := range maxNumbers + 1 {
		for _, l := range anyLists(length) {
			for _, x := range []int{0, 1, 2, 11, 15} {
				checkAt(t, l, x, ownAt(l, x), api.OK)
			}
		}
	}
}

// TestWrongNumbers has one at each place, with right and with wrong ones beside it.
func TestWrongNumbers(t *testing.T) {
	for _, wrong := range wrongNumbers() {
		checkInv(t, wrong, 0, api.ErrRange)
		for _, other := range append(someNumbers(), wrong) {
			checkMul(t, wrong, other, 0, api.ErrRange)
			checkMul(t, other, wrong, 0, api.ErrRange)
			checkPow(t, wrong, other, 0, api.ErrRange)
			checkAt(t, []int{wrong}, other, 0, api.ErrRange)
			checkAt(t, []int{other, wrong}, 0, 0, api.ErrRange)
			checkAt(t, []int{wrong, other}, 0, 0, api.ErrRange)
			checkAt(t, []int{other}, wrong, 0, api.ErrRange)
		}
		checkAt(t, nil, wrong, 0, api.ErrRange)
	}
}

func TestWrongPowers(t *testing.T) {
	for a := range 16 {
		for _, k := range []int{-1, -2, -14, -15, -16, -1 << 32, math.MinInt32, math.MinInt, math.MinInt + 1} {
			checkPow(t, a, k, 0, api.ErrRange)
		}
	}
}

// TestTooManyNumbers has more than there may be, and then a wrong one at any place: that is told first.
func TestTooManyNumbers(t *testing.T) {
	for _, length := range []int{maxNumbers + 1, maxNumbers + 2, 2 * maxNumbers, 1000, 1 << 16} {
		for _, a := range []int{0, 1, 15} {
			l := slices.Repeat([]int{a}, length)
			for _, x := range []int{0, 1, 15} {
				checkAt(t, l, x, 0, api.ErrLarge)
			}
			for _, wrong := range []int{-1, 16, math.MinInt, math.MaxInt} {
				checkAt(t, l, wrong, 0, api.ErrRange)
				for _, place := range []int{0, 1, maxNumbers - 1, maxNumbers, length - 1} {
					l[place] = wrong
					checkAt(t, l, 2, 0, api.ErrRange)
					l[place] = a
				}
			}
		}
	}
	for _, place := range []int{0, 1, maxNumbers - 1} {
		l := slices.Repeat([]int{1}, maxNumbers)
		l[place] = 16
		checkAt(t, l, 2, 0, api.ErrRange)
	}
}

// TestListsStayAsTheyAre hands in pieces of a list: neither they nor what lies behind them is changed, and that is not read.
func TestListsStayAsTheyAre(t *testing.T) {
	for _, behind := range []int{0, 15, -1, 16} {
		whole := append([]int{5, 9, 15}, slices.Repeat([]int{behind}, 100)...)
		kept := slices.Clone(whole)
		for range 3 {
			checkAt(t, whole[:3], 2, 13, api.OK)
			checkAt(t, whole[:2], 2, 4, api.OK)
			checkAt(t, whole[:0], 2, 0, api.OK)
			checkAt(t, whole[1:3], 2, 4, api.OK)
			checkAt(t, whole[:3], 16, 0, api.ErrRange)
		}
		if !slices.Equal(whole, kept) {
			t.Errorf("numbers are changed to %v", whole)
		}
	}
}

// TestWhatIsKnownToBeRight has the same of the sums that other packages ask for, which end at wrong numbers too.
func TestWhatIsKnownToBeRight(t *testing.T) {
	for a := range 16 {
		for b := range 16 {
			if got := Product(a, b); got != ownProduct(a, b) {
				t.Errorf("Product of %d, %d: %d", a, b, got)
			}
			if got := SumAt([]int{3, a, 9}, b); got != ownAt([]int{3, a, 9}, b) {
				t.Errorf("SumAt of 3, %d, 9 at %d: %d", a, b, got)
			}
		}
		if got := Inverse(a); a != 0 && ownProduct(a, got) != 1 || a == 0 && got != 0 {
			t.Errorf("Inverse of %d: %d", a, got)
		}
	}
	for _, wrong := range wrongNumbers() {
		for _, other := range append(someNumbers(), wrong) {
			Product(wrong, other)
			SumAt([]int{other, wrong}, wrong)
		}
		Inverse(wrong)
	}
}
