package points

import (
	"math"
	"slices"
	"testing"

	"quipu/api"
)

// maxPlaces is how many places there may be.
const maxPlaces = 9

// powersOfTwo has 2 as often with itself as its index tells: by hand, x^4 is x + 1.
func powersOfTwo() []int {
	return []int{1, 2, 4, 8, 3, 6, 12, 11, 5, 10, 7, 14, 15, 13, 9}
}

// ownProduct adds how often 2 is in both.
func ownProduct(a, b int) int {
	if a == 0 || b == 0 {
		return 0
	}
	powers := powersOfTwo()
	return powers[(slices.Index(powers, a)+slices.Index(powers, b))%15]
}

// ownQuotient takes how often 2 is in b, which is not 0, from how often it is in a.
func ownQuotient(a, b int) int {
	if a == 0 {
		return 0
	}
	powers := powersOfTwo()
	return powers[(15+slices.Index(powers, a)-slices.Index(powers, b))%15]
}

// ownPut sums up from the beginning on, at each of the numbers from 1 to n.
func ownPut(n int, data []int) []int {
	var l []int
	for x := 1; x <= n; x++ {
		sum, power := 0, 1
		for _, a := range data {
			sum ^= ownProduct(a, power)
			power = ownProduct(power, x)
		}
		l = append(l, sum)
	}
	return l
}

// isMade tells whether there are k numbers of which Put makes l: all differences of the k-th order are 0.
func isMade(k int, l []int) bool {
	row := slices.Clone(l)
	for order := 1; order <= k; order++ {
		for i := range len(row) - 1 {
			row[i] = ownQuotient(row[i]^row[i+1], (i+1)^(i+1+order))
		}
		row = row[:len(row)-1]
	}
	return !slices.ContainsFunc(row, func(a int) bool { return a != 0 })
}

// allLists has all lists of so many numbers.
func allLists(length int) [][]int {
	lists := [][]int{nil}
	for range length {
		var longer [][]int
		for _, l := range lists {
			for a := range 16 {
				longer = append(longer, append(slices.Clone(l), a))
			}
		}
		lists = longer
	}
	return lists
}

// seed goes through numbers that no rule is seen in.
type seed uint32

func (s *seed) below(n int) int {
	*s = *s*1664525 + 1013904223
	return int(uint64(*s) * uint64(n) >> 32)
}

// list has so many numbers of the sixteen.
func (s *seed) list(length int) []int {
	l := make([]int, length)
	for i := range l {
		l[i] = s.below(16)
	}
	return l
}

// spoilt has so many of the numbers of l changed.
func (s *seed) spoilt(l []int, count int) []int {
	other := slices.Clone(l)
	for far(other, l) < count {
		if i := s.below(len(l)); other[i] == l[i] {
			other[i] ^= 1 + s.below(15)
		}
	}
	return other
}

// far tells at how many places both differ.
func far(a, b []int) int {
	count := 0
	for i := range a {
		if a[i] != b[i] {
			count++
		}
	}
	return count
}

// lostOf has the places lost whose bits are set.
func lostOf(length, set int) []bool {
	lost := make([]bool, length)
	for i := range lost {
		lost[i] = set>>i%2 == 1
	}
	return lost
}

// left tells how many are not lost.
func left(lost []bool) int {
	count := 0
	for _, is := range lost {
		if !is {
			count++
		}
	}
	return count
}

// sameWhereLeft tells whether both are the same where nothing is lost.
func sameWhereLeft(a, b []int, lost []bool) bool {
	for i := range a {
		if !lost[i] && a[i] != b[i] {
			return false
		}
	}
	return true
}

func checkPut(t *testing.T, n int, data, want []int, wantErr api.Errno) {
	t.Helper()
	if got, err := Put(n, data); !slices.Equal(got, want) || err != wantErr {
		t.Errorf("Put of %d, %v: %v, %d, want %v, %d", n, data, got, err, want, wantErr)
	}
}

func checkFill(t *testing.T, k int, l []int, lost []bool, want []int, wantErr api.Errno) {
	t.Helper()
	if got, err := Fill(k, l, lost); !slices.Equal(got, want) || err != wantErr {
		t.Errorf("Fill of %d, %v, %v: %v, %d, want %v, %d", k, l, lost, got, err, want, wantErr)
	}
}

func checkFix(t *testing.T, k int, l, want []int, wantErr api.Errno) {
	t.Helper()
	if got, err := Fix(k, l); !slices.Equal(got, want) || err != wantErr {
		t.Errorf("Fix of %d, %v: %v, %d, want %v, %d", k, l, got, err, want, wantErr)
	}
}

func TestSomePut(t *testing.T) {
	cases := []struct {
		name string
		n    int
		data []int
		want []int
	}{
		{"the document's example", 3, []int{1, 2}, []int{3, 5, 7}},
		{"one number at one place", 1, []int{13}, []int{13}},
		{"one number is the same at all places", 9, []int{7}, []int{7, 7, 7, 7, 7, 7, 7, 7, 7}},
		{"zeros", 3, []int{0, 0, 0}, []int{0, 0, 0}},
		{"once each place's own number", 9, []int{0, 1}, []int{1, 2, 3, 4, 5, 6, 7, 8, 9}},
		{"and that times itself", 9, []int{0, 0, 1}, []int{1, 4, 5, 3, 2, 7, 6, 12, 13}},
		{"as many numbers as places", 2, []int{3, 5}, []int{6, 9}},
		{"as many as there may be", 9, []int{0, 0, 0, 0, 0, 0, 0, 0, 1}, []int{1, 5, 4, 2, 3, 7, 6, 10, 11}},
	}
	for _, c := range cases {
		t.Run(c.name, func(t *testing.T) {
			checkPut(t, c.n, c.data, c.want, api.OK)
		})
	}
}

// TestPutShortLists has all lists of up to three numbers, at as many places as there may be.
func TestPutShortLists(t *testing.T) {
	for count := 1; count <= 3; count++ {
		for _, data := range allLists(count) {
			want := ownPut(maxPlaces, data)
			for n := count; n <= maxPlaces; n++ {
				checkPut(t, n, data, want[:n], api.OK)
			}
		}
	}
}

func TestPutLongLists(t *testing.T) {
	s := seed(1)
	for n := 1; n <= maxPlaces; n++ {
		for count := 1; count <= n; count++ {
			for range 50 {
				data := s.list(count)
				checkPut(t, n, data, ownPut(n, data), api.OK)
			}
			checkPut(t, n, slices.Repeat([]int{15}, count), ownPut(n, slices.Repeat([]int{15}, count)), api.OK)
		}
	}
}

func TestSomeFill(t *testing.T) {
	cases := []struct {
		name string
		k    int
		l    []int
		lost []bool
		want []int
		err  api.Errno
	}{
		{"nothing is lost", 2, []int{3, 5, 7}, []bool{false, false, false}, []int{1, 2}, api.OK},
		{"the first is lost", 2, []int{0, 5, 7}, []bool{true, false, false}, []int{1, 2}, api.OK},
		{"one between is lost", 2, []int{3, 0, 7}, []bool{false, true, false}, []int{1, 2}, api.OK},
		{"the last is lost", 2, []int{3, 5, 0}, []bool{false, false, true}, []int{1, 2}, api.OK},
		{"what is lost is none of the numbers", 2, []int{3, 16, 7}, []bool{false, true, false}, []int{1, 2}, api.OK},
		{"too many are lost", 2, []int{3, 5, 7}, []bool{false, true, true}, nil, api.ErrNone},
		{"all are lost", 1, []int{3, 5, 7}, []bool{true, true, true}, nil, api.ErrNone},
		{"one is wrong", 2, []int{3, 5, 6}, []bool{false, false, false}, nil, api.ErrSum},
		{"the first is wrong", 2, []int{2, 5, 7}, []bool{false, false, false}, nil, api.ErrSum},
		{"one is wrong, but lost", 2, []int{3, 5, 6}, []bool{false, false, true}, []int{1, 2}, api.OK},
		{"one is wrong, and enough others are lost", 2, []int{3, 5, 6}, []bool{true, false, false}, []int{3, 3}, api.OK},
		{"all that there are", 3, []int{3, 5, 7}, []bool{false, false, false}, []int{1, 2, 0}, api.OK},
		{"one of all", 1, []int{0, 0, 9}, []bool{true, true, false}, []int{9}, api.OK},
		{"zeros", 2, []int{0, 0, 0}, []bool{false, false, false}, []int{0, 0}, api.OK},
	}
	for _, c := range cases {
		t.Run(c.name, func(t *testing.T) {
			checkFill(t, c.k, c.l, c.lost, c.want, c.err)
		})
	}
}

// TestFillShortLists looks at all data for those that make what is left.
func TestFillShortLists(t *testing.T) {
	for length := 1; length <= 3; length++ {
		for k := 1; k <= min(length, 2); k++ {
			made := map[[3]int][]int{}
			for set := range 1 << length {
				lost := lostOf(length, set)
				clear(made)
				for _, data := range allLists(k) {
					made[shownOf(ownPut(length, data), lost)] = data
				}
				for _, l := range allLists(length) {
					data, found := made[shownOf(l, lost)]
					switch {
					case left(lost) < k:
						checkFill(t, k, l, lost, nil, api.ErrNone)
					case !found:
						checkFill(t, k, l, lost, nil, api.ErrSum)
					default:
						checkFill(t, k, l, lost, data, api.OK)
					}
				}
			}
		}
	}
}

// shownOf has l with -1 where it is lost.
func shownOf(l []int, lost []bool) [3]int {
	shown := [3]int{}
	for i, a := range l {
		shown[i] = a
		if lost[i] {
			shown[i] = -1
		}
	}
	return shown
}

// TestWhatIsLostComesBack loses every choice of places, and has anything stand there.
func TestWhatIsLostComesBack(t *testing.T) {
	s := seed(2)
	for n := 1; n <= maxPlaces; n++ {
		for k := 1; k <= n; k++ {
			for set := range 1 << n {
				lost := lostOf(n, set)
				data := s.list(k)
				l := ownPut(n, data)
				for i, is := range lost {
					if is {
						l[i] = []int{s.below(16), -1, 16, math.MinInt, math.MaxInt}[s.below(5)]
					}
				}
				if left(lost) < k {
					checkFill(t, k, l, lost, nil, api.ErrNone)
				} else {
					checkFill(t, k, l, lost, data, api.OK)
				}
			}
		}
	}
}

// TestFillOfWrongOnes changes one number that is left: if there are more than are needed, that is told, whichever one it is.
func TestFillOfWrongOnes(t *testing.T) {
	s := seed(3)
	for n := 1; n <= maxPlaces; n++ {
		for k := 1; k <= n; k++ {
			for set := range 1 << n {
				lost := lostOf(n, set)
				l := ownPut(n, s.list(k))
				i := s.below(n)
				if lost[i] || left(lost) < k {
					continue
				}
				l[i] ^= 1 + s.below(15)
				if left(lost) > k {
					checkFill(t, k, l, lost, nil, api.ErrSum)
					continue
				}
				got, err := Fill(k, l, lost)
				if err != api.OK || len(got) != k || !sameWhereLeft(ownPut(n, got), l, lost) {
					t.Errorf("Fill of %d, %v, %v: %v, %d", k, l, lost, got, err)
				}
			}
		}
	}
}

func TestSomeFix(t *testing.T) {
	cases := []struct {
		name string
		k    int
		l    []int
		want []int
		err  api.Errno
	}{
		{"the document's example", 2, []int{3, 5, 6}, nil, api.ErrNone},
		{"nothing is wrong", 2, []int{3, 5, 7}, []int{1, 2}, api.OK},
		{"the most are the same", 1, []int{4, 4, 9}, []int{4}, api.OK},
		{"the last ones are the most", 1, []int{9, 4, 4}, []int{4}, api.OK},
		{"one number of one", 1, []int{13}, []int{13}, api.OK},
		{"as many as there are", 3, []int{3, 5, 6}, []int{0, 10, 9}, api.OK},
		{"of two no more than none may be wrong", 1, []int{4, 9}, nil, api.ErrNone},
		{"all three are other ones", 1, []int{4, 9, 5}, nil, api.ErrNone},
		{"two and two", 1, []int{4, 9, 4, 9}, nil, api.ErrNone},
		{"three of five", 1, []int{4, 9, 4, 8, 4}, []int{4}, api.OK},
		{"two of five, though the most are so", 1, []int{4, 9, 4, 8, 5}, nil, api.ErrNone},
		{"five of nine", 1, []int{4, 4, 4, 4, 9, 9, 9, 9, 9}, []int{9}, api.OK},
		{"one of four, with two numbers", 2, []int{3, 5, 0, 9}, []int{1, 2}, api.OK},
		{"zeros, one of which is wrong", 2, []int{0, 0, 15, 0}, []int{0, 0}, api.OK},
	}
	for _, c := range cases {
		t.Run(c.name, func(t *testing.T) {
			checkFix(t, c.k, c.l, c.want, c.err)
		})
	}
}

// nearest looks at what all data make: the data whose are the nearest, and how far.
func nearest(made map[[maxPlaces]int][]int, l []int) ([]int, int) {
	var best []int
	least := len(l) + 1
	for put, data := range made {
		if apart := far(put[:len(l)], l); apart < least {
			best, least = data, apart
		}
	}
	return best, least
}

// TestFixShortLists looks at all data for the nearest.
func TestFixShortLists(t *testing.T) {
	s := seed(4)
	for k := 1; k <= 2; k++ {
		made := map[[maxPlaces]int][]int{}
		for _, data := range allLists(k) {
			made[[maxPlaces]int(ownPut(maxPlaces, data))] = data
		}
		for n := k; n <= maxPlaces; n++ {
			lists := [][]int{}
			if n <= 3 {
				lists = allLists(n)
			}
			for range 200 {
				lists = append(lists, s.spoilt(ownPut(n, s.list(k)), s.below(min(n, n-k+2))), s.list(n))
			}
			for _, l := range lists {
				want, apart := nearest(made, l)
				if 2*apart <= n-k {
					checkFix(t, k, l, want, api.OK)
				} else {
					checkFix(t, k, l, nil, api.ErrNone)
				}
			}
		}
	}
}

// TestWhatIsWrongComesBack has as many wrong ones as there may be, and fewer.
func TestWhatIsWrongComesBack(t *testing.T) {
	s := seed(5)
	for n := 1; n <= maxPlaces; n++ {
		for k := 1; k <= n; k++ {
			for wrong := range (n-k)/2 + 1 {
				for range 60 {
					data := s.list(k)
					checkFix(t, k, s.spoilt(ownPut(n, data), wrong), data, api.OK)
				}
			}
		}
	}
}

// TestBetweenTwo goes from what some data make towards what others make that is as near as any, one place after the other.
func TestBetweenTwo(t *testing.T) {
	s := seed(6)
	for n := 1; n <= maxPlaces; n++ {
		for k := 1; k <= n; k++ {
			for range 20 {
				data := s.list(k)
				// Away is 0 at k - 1 points, and nowhere else.
				away := []int{1 + s.below(15)}
				points := []int{1, 2, 3, 4, 5, 6, 7, 8, 9}[:n]
				for range k - 1 {
					i := s.below(len(points))
					x := points[i]
					points = slices.Concat(points[:i], points[i+1:])
					away = ownTimes(away, x)
				}
				other := slices.Clone(data)
				for i, a := range away {
					other[i] ^= a
				}
				checkBetween(t, n, k, data, other)
			}
		}
	}
}

// ownTimes has numbers that sum up to as much more at each point as that is away from x.
func ownTimes(l []int, x int) []int {
	next := append([]int{0}, l...)
	for i, a := range l {
		next[i] ^= ownProduct(a, x)
	}
	return next
}

// checkBetween asks at each step from the one to the other: nothing else can be as near as the nearer of both.
func checkBetween(t *testing.T, n, k int, data, other []int) {
	t.Helper()
	l, end := ownPut(n, data), ownPut(n, other)
	whole := far(l, end)
	if whole != n-k+1 {
		t.Fatalf("%v and %v are %d apart", data, other, whole)
	}
	steps := 0
	for i := range l {
		if l[i] == end[i] {
			continue
		}
		l[i] = end[i]
		steps++
		switch {
		case 2*steps < whole:
			checkFix(t, k, l, data, api.OK)
		case 2*steps > whole:
			checkFix(t, k, l, other, api.OK)
		default:
			checkFix(t, k, l, nil, api.ErrNone)
		}
	}
}

// TestFixAnyLists changes any lists at as many places as may be wrong, in all ways, to find one that is made.
func TestFixAnyLists(t *testing.T) {
	s := seed(7)
	for n := 3; n <= maxPlaces; n++ {
		for k := max(3, n-5); k <= n; k++ {
			for range 10 {
				l := s.list(n)
				made := changed(l, 0, (n-k)/2, func(l []int) bool { return isMade(k, l) })
				if made == nil {
					checkFix(t, k, l, nil, api.ErrNone)
					continue
				}
				got, err := Fix(k, l)
				if err != api.OK || len(got) != k || !slices.Equal(ownPut(n, got), made) {
					t.Errorf("Fix of %d, %v: %v, %d, of which %v is not made", k, l, got, err, made)
				}
			}
		}
	}
}

// changed answers what l becomes, with no more changes than these, from the place on, such that it is right, or nil.
func changed(l []int, from, changes int, isRight func([]int) bool) []int {
	if isRight(l) {
		return l
	}
	if changes == 0 {
		return nil
	}
	for i := from; i < len(l); i++ {
		for a := range 16 {
			if a == l[i] {
				continue
			}
			other := slices.Clone(l)
			other[i] = a
			if found := changed(other, i+1, changes-1, isRight); found != nil {
				return found
			}
		}
	}
	return nil
}

// wrongNumbers are not from 0 to 15.
func wrongNumbers() []int {
	return []int{-1, -2, -15, -16, 16, 17, 19, 31, 32, 255, 256, -1 << 32, 1 << 32, 1<<32 + 1, math.MinInt32, math.MaxInt32, math.MinInt, math.MinInt + 1, math.MaxInt - 15, math.MaxInt}
}

// TestPlacesThatThereAreNot has a wrong count of places, with all else right or wrong.
func TestPlacesThatThereAreNot(t *testing.T) {
	for _, n := range []int{-1, -2, -9, maxPlaces + 1, maxPlaces + 2, 15, 16, 64, 1 << 32, 1<<32 + 3, math.MinInt, math.MaxInt} {
		for _, data := range [][]int{nil, {}, {1}, {1, 2}, {16}, {-1, 2}, slices.Repeat([]int{1}, 9), slices.Repeat([]int{1}, 20)} {
			checkPut(t, n, data, nil, api.ErrLarge)
		}
	}
	for _, n := range []int{maxPlaces + 1, maxPlaces + 2, 15, 16, 64, 1000} {
		for _, a := range []int{0, 1, 15, 16, -1} {
			l := slices.Repeat([]int{a}, n)
			for _, k := range []int{-1, 0, 1, 2, maxPlaces, maxPlaces + 1, n, n + 1, math.MinInt, math.MaxInt} {
				checkFix(t, k, l, nil, api.ErrLarge)
				checkFill(t, k, l, make([]bool, n), nil, api.ErrLarge)
				checkFill(t, k, l, slices.Repeat([]bool{true}, n), nil, api.ErrLarge)
				checkFill(t, k, l, make([]bool, maxPlaces), nil, api.ErrLarge)
				checkFill(t, k, l, nil, nil, api.ErrLarge)
			}
		}
	}
}

// TestTooFewPlaces has no numbers, or more than places, right and wrong ones.
func TestTooFewPlaces(t *testing.T) {
	for n := range maxPlaces + 1 {
		checkPut(t, n, nil, nil, api.ErrForm)
		checkPut(t, n, []int{}, nil, api.ErrForm)
		for _, a := range []int{0, 1, 15, 16, -1} {
			for _, more := range []int{1, 2, 9, 100} {
				checkPut(t, n, slices.Repeat([]int{a}, n+more), nil, api.ErrForm)
			}
			l := slices.Repeat([]int{a}, n)
			for _, k := range []int{0, -1, -2, n + 1, n + 2, maxPlaces + 1, 1 << 32, math.MinInt, math.MinInt + 1, math.MaxInt} {
				checkFix(t, k, l, nil, api.ErrForm)
				checkFill(t, k, l, make([]bool, n), nil, api.ErrForm)
				checkFill(t, k, l, slices.Repeat([]bool{true}, n), nil, api.ErrForm)
				checkFill(t, k, l, make([]bool, n+1), nil, api.ErrForm)
			}
		}
	}
}

// TestOtherCountsOfLost has more or fewer of those than of numbers, which may be wrong.
func TestOtherCountsOfLost(t *testing.T) {
	for n := 1; n <= maxPlaces; n++ {
		for _, other := range []int{0, n - 1, n + 1, n + 2, maxPlaces + 1, 100} {
			for k := 1; k <= n && other != n; k++ {
				for _, a := range []int{0, 1, 16, -1} {
					l := slices.Repeat([]int{a}, n)
					checkFill(t, k, l, make([]bool, other), nil, api.ErrForm)
					checkFill(t, k, l, slices.Repeat([]bool{true}, other), nil, api.ErrForm)
				}
			}
		}
		checkFill(t, 1, make([]int, n), nil, nil, api.ErrForm)
	}
}

// TestWrongNumbers has one at each place; also where too few are left, or others are wrong in their sum.
func TestWrongNumbers(t *testing.T) {
	for _, wrong := range wrongNumbers() {
		for n := 1; n <= maxPlaces; n++ {
			for i := range n {
				l := []int{5, 1, 9, 0, 15, 3, 3, 8, 2}[:n:n]
				l = slices.Clone(l)
				l[i] = wrong
				checkPut(t, n, l, nil, api.ErrRange)
				checkPut(t, maxPlaces, l, nil, api.ErrRange)
				all := slices.Repeat([]bool{true}, n)
				all[i] = false
				for k := 1; k <= n; k++ {
					checkFix(t, k, l, nil, api.ErrRange)
					checkFill(t, k, l, make([]bool, n), nil, api.ErrRange)
					checkFill(t, k, l, all, nil, api.ErrRange)
				}
			}
		}
	}
}

// TestListsStayAsTheyAre hands in pieces of lists: neither they nor what lies behind them is changed, and that is not read.
func TestListsStayAsTheyAre(t *testing.T) {
	for _, behind := range []int{0, 15, -1, 16} {
		for _, isLost := range []bool{false, true} {
			whole := append([]int{3, 5, 6, 9}, slices.Repeat([]int{behind}, 20)...)
			lost := append([]bool{false, false, true, false}, slices.Repeat([]bool{isLost}, 20)...)
			kept, keptLost := slices.Clone(whole), slices.Clone(lost)
			for range 3 {
				checkPut(t, 3, whole[:2], []int{6, 9, 12}, api.OK)
				checkPut(t, 3, whole[:0], nil, api.ErrForm)
				checkFill(t, 2, whole[:4], lost[:4], []int{1, 2}, api.OK)
				checkFill(t, 2, whole[:3], lost[:3], []int{1, 2}, api.OK)
				checkFill(t, 2, whole[:2], lost[:3], nil, api.ErrForm)
				checkFill(t, 3, whole[:3], lost[:3], nil, api.ErrNone)
				checkFix(t, 2, whole[:4], []int{1, 2}, api.OK)
				checkFix(t, 2, whole[:3], nil, api.ErrNone)
				checkFix(t, 2, whole[:2], []int{1, 2}, api.OK)
			}
			if !slices.Equal(whole, kept) || !slices.Equal(lost, keptLost) {
				t.Errorf("lists are changed to %v, %v", whole, lost)
			}
		}
	}
}

// TestAnswersAreNew spoils what was answered, and asks again; one number of one place would be the list itself.
func TestAnswersAreNew(t *testing.T) {
	one, two := []int{7}, []int{3, 5, 7}
	lost := []bool{false, false, false}
	spoil := func(l []int, err api.Errno) {
		if err != api.OK {
			t.Errorf("told is %d", err)
		}
		l = l[:cap(l)]
		for i := range l {
			l[i] = -1
		}
	}
	for range 3 {
		spoil(Put(1, one))
		spoil(Put(3, two))
		spoil(Fill(1, one, lost[:1]))
		spoil(Fill(2, two, lost))
		spoil(Fix(1, one))
		spoil(Fix(2, two))
		if !slices.Equal(one, []int{7}) || !slices.Equal(two, []int{3, 5, 7}) {
			t.Fatalf("lists are changed to %v, %v", one, two)
		}
		checkPut(t, 1, one, []int{7}, api.OK)
		checkPut(t, 3, []int{1, 2}, two, api.OK)
		checkFill(t, 2, two, lost, []int{1, 2}, api.OK)
		checkFix(t, 2, two, []int{1, 2}, api.OK)
	}
}

// TestChoicesEnd asks for choices no longer than it likes, and for all of them.
func TestChoicesEnd(t *testing.T) {
	for n := range maxPlaces + 1 {
		for k := range n + 1 {
			many := 0
			for places := range choices(k, n) {
				if many++; len(places) != k || !slices.IsSorted(places) {
					t.Errorf("%v is no choice of %d of %d", places, k, n)
				}
			}
			if want := choose(n, k); many != want {
				t.Errorf("%d choices of %d of %d, want %d", many, k, n, want)
			}
			for range choices(k, n) {
				break
			}
		}
	}
}

// choose adds those with the last place and those without.
func choose(n, k int) int {
	if k == 0 || k == n {
		return 1
	}
	return choose(n-1, k-1) + choose(n-1, k)
}
