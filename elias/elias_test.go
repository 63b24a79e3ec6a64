package elias

import (
	"math"
	"slices"
	"strconv"
	"strings"
	"testing"

	"quipu/api"
)

// list makes bits of a text of digits.
func list(text string) []bool {
	out := []bool{}
	for _, d := range text {
		out = append(out, d == '1')
	}
	return out
}

// text writes bits as digits.
func text(list []bool) string {
	out := make([]byte, len(list))
	for i, bit := range list {
		out[i] = '0'
		if bit {
			out[i] = '1'
		}
	}
	return string(out)
}

// zeros has so many digits 0.
func zeros(n int) string { return strings.Repeat("0", n) }

// gammaOf writes any number above 0 as the promise says it, MaxNum or not.
func gammaOf(n int) string {
	digits := strconv.FormatInt(int64(n), 2)
	return zeros(len(digits)-1) + digits
}

// deltaOf writes any number above 0 as the promise says it, MaxNum or not.
func deltaOf(n int) string {
	digits := strconv.FormatInt(int64(n), 2)
	return gammaOf(len(digits)) + digits[1:]
}

// way is one of the two ways to write numbers.
type way struct {
	name  string
	write func(int) ([]bool, api.Errno)
	read  func([]bool) (int, int, api.Errno)
	want  func(int) string
}

func ways() []way {
	return []way{
		{"Gamma", Gamma, ReadGamma, gammaOf},
		{"Delta", Delta, ReadDelta, deltaOf},
	}
}

func TestWrite(t *testing.T) {
	cases := []struct {
		n            int
		gamma, delta string
	}{
		{1, "1", "1"},
		{2, "010", "0100"},
		{3, "011", "0101"},
		{4, "00100", "01100"},
		{5, "00101", "01101"}, // the document's example
		{7, "00111", "01111"},
		{8, "0001000", "00100000"},
		{15, "0001111", "00100111"},
		{16, "000010000", "001010000"},
		{17, "000010001", "001010001"},
		{255, "000000011111111", "00010001111111"},
		{256, "00000000100000000", "000100100000000"},
		{api.MaxNum - 1, zeros(19) + strings.Repeat("1", 20), "000010100" + strings.Repeat("1", 19)},
		{api.MaxNum, zeros(20) + "1" + zeros(20), "000010101" + zeros(20)},
	}
	for _, c := range cases {
		if got, err := Gamma(c.n); text(got) != c.gamma || err != api.OK {
			t.Errorf("Gamma of %d: %s, %d, want %s", c.n, text(got), err, c.gamma)
		}
		if got, err := Delta(c.n); text(got) != c.delta || err != api.OK {
			t.Errorf("Delta of %d: %s, %d, want %s", c.n, text(got), err, c.delta)
		}
	}
}

func TestWriteOutOfRange(t *testing.T) {
	wrong := []int{0, -1, -2, -5, -api.MaxNum, api.MaxNum + 1, 2*api.MaxNum - 1, 2 * api.MaxNum, math.MaxInt32, math.MinInt32, math.MaxInt, math.MinInt, math.MinInt + 1}
	for _, w := range ways() {
		for _, n := range wrong {
			if got, err := w.write(n); len(got) != 0 || err != api.ErrRange {
				t.Errorf("%s of %d: %s, %d, want ErrRange", w.name, n, text(got), err)
			}
		}
	}
}

// TestEachNumberComesBack writes each number there is, holds it against the promise's own words, and reads it.
func TestEachNumberComesBack(t *testing.T) {
	for _, w := range ways() {
		for n := 1; n <= api.MaxNum; n++ {
			bits, err := w.write(n)
			if want := w.want(n); text(bits) != want || err != api.OK {
				t.Fatalf("%s of %d: %s, %d, want %s", w.name, n, text(bits), err, want)
			}
			if got, used, err := w.read(bits); got != n || used != len(bits) || err != api.OK {
				t.Fatalf("Read%s of %s: %d, %d, %d, want %d", w.name, text(bits), got, used, err, n)
			}
		}
	}
}

// someNumbers has all small numbers, and those around each power of 2.
func someNumbers() []int {
	out := []int{}
	for n := 1; n <= 300; n++ {
		out = append(out, n)
	}
	for power := 512; power <= api.MaxNum; power *= 2 {
		out = append(out, power-1, power, power+1, power+power/2+1)
	}
	return slices.DeleteFunc(out, func(n int) bool { return n > api.MaxNum })
}

func TestReadStopsWhereTheNumberEnds(t *testing.T) {
	behind := []string{"", "0", "1", "00", "01", "10", "11", zeros(50), strings.Repeat("1", 50)}
	for _, w := range ways() {
		for _, n := range someNumbers() {
			for _, more := range behind {
				bits := w.want(n)
				if got, used, err := w.read(list(bits + more)); got != n || used != len(bits) || err != api.OK {
					t.Errorf("Read%s of %s and %s: %d, %d, %d, want %d", w.name, bits, more, got, used, err, n)
				}
			}
		}
	}
}

// TestReadOneBehindTheOther goes through a list of many numbers by what each reading says it took.
func TestReadOneBehindTheOther(t *testing.T) {
	for _, w := range ways() {
		var bits []bool
		for _, n := range someNumbers() {
			bits = append(bits, list(w.want(n))...)
		}
		for _, n := range someNumbers() {
			got, used, err := w.read(bits)
			if got != n || err != api.OK {
				t.Fatalf("Read%s: %d, %d, want %d", w.name, got, err, n)
			}
			bits = bits[used:]
		}
		if got, used, err := w.read(bits); got != 0 || used != 0 || err != api.ErrNone {
			t.Errorf("Read%s behind the last number: %d, %d, %d", w.name, got, used, err)
		}
	}
}

func checkNone(t *testing.T, w way, bits []bool) {
	t.Helper()
	if got, used, err := w.read(bits); got != 0 || used != 0 || err != api.ErrNone {
		t.Errorf("Read%s of %d bits, %s: %d, %d, %d, want ErrNone", w.name, len(bits), text(bits[:min(len(bits), 99)]), got, used, err)
	}
}

func TestReadNone(t *testing.T) {
	for _, w := range ways() {
		checkNone(t, w, nil)
		checkNone(t, w, []bool{})
		for _, bits := range []string{"0", "00", "01", "001", "0010", zeros(20), zeros(21), zeros(64), zeros(1 << 21)} {
			checkNone(t, w, list(bits))
		}
	}
}

// TestReadCutShort takes the last bits away: none of what is left is a number of its own.
func TestReadCutShort(t *testing.T) {
	for _, w := range ways() {
		for _, n := range someNumbers() {
			bits := list(w.want(n))
			for end := range bits {
				checkNone(t, w, slices.Clone(bits[:end]))
			}
		}
	}
}

// TestReadAboveMaxNum takes numbers that are written right, but by neither Gamma nor Delta.
func TestReadAboveMaxNum(t *testing.T) {
	large := []int{api.MaxNum + 1, api.MaxNum + 2, 2*api.MaxNum - 1, 2 * api.MaxNum, math.MaxInt32, math.MaxInt}
	for _, w := range ways() {
		for _, n := range large {
			checkNone(t, w, list(w.want(n)))
			checkNone(t, w, list(w.want(n)+"1"))
		}
	}
}

// TestReadFarAboveMaxNum takes numbers that no int holds: those whose last 64 digits are a small number's among them.
func TestReadFarAboveMaxNum(t *testing.T) {
	for _, more := range []int{31, 32, 63, 64, 65, 128, 1000, 1 << 20} {
		for _, last := range []string{"0", "1"} {
			digits := zeros(more-1) + last
			checkNone(t, ways()[0], list(zeros(more)+"1"+digits))
			checkNone(t, ways()[1], list(gammaOf(more+1)+digits))
		}
	}
}

// TestReadDeltaOfTooManyDigits takes counts of digits up to where Gamma ends, and above, and too few digits for them.
func TestReadDeltaOfTooManyDigits(t *testing.T) {
	for _, count := range []int{22, 32, 64, 65, api.MaxNum, api.MaxNum + 1, math.MaxInt32, math.MaxInt} {
		for _, more := range []int{0, 1, 20, 21, 22, 100} {
			checkNone(t, ways()[1], list(gammaOf(count)+zeros(more)))
			checkNone(t, ways()[1], list(gammaOf(count)+strings.Repeat("1", more)))
		}
	}
}

// TestReadByDefinition takes all short lists of bits and looks for the number among all those that are written as short.
func TestReadByDefinition(t *testing.T) {
	const most = 13
	for _, w := range ways() {
		numbers := map[string]int{}
		for n := 1; len(w.want(n)) <= most; n++ {
			numbers[w.want(n)] = n
		}
		for length := range most + 1 {
			for number := range 1 << length {
				bits := strconv.FormatInt(int64(1<<length+number), 2)[1:]
				want, end, wantErr := 0, 0, api.ErrNone
				for i := range length + 1 {
					if n := numbers[bits[:i]]; n > 0 {
						want, end, wantErr = n, i, api.OK
					}
				}
				if got, used, err := w.read(list(bits)); got != want || used != end || err != wantErr {
					t.Fatalf("Read%s of %s: %d, %d, %d, want %d, %d, %d", w.name, bits, got, used, err, want, end, wantErr)
				}
			}
		}
	}
}

// TestListsAreLeftAlone looks at what was handed in, and whether what lies behind its length is read.
func TestListsAreLeftAlone(t *testing.T) {
	for _, w := range ways() {
		for _, n := range []int{1, 2, 5, 1000, api.MaxNum} {
			bits := list(w.want(n) + "1010")
			before := slices.Clone(bits)
			length := len(bits) - 4
			if got, used, err := w.read(bits[:length]); got != n || used != length || err != api.OK {
				t.Errorf("Read%s: %d, %d, %d, want %d", w.name, got, used, err, n)
			}
			for end := range length {
				checkNone(t, w, bits[:end])
			}
			if !slices.Equal(bits, before) {
				t.Errorf("Read%s changes %s to %s", w.name, text(before), text(bits))
			}
		}
	}
}

// TestAnswersAreNew changes an answer up to its capacity and asks again.
func TestAnswersAreNew(t *testing.T) {
	for _, w := range ways() {
		for _, n := range []int{1, 2, 5, 1000, api.MaxNum} {
			bits, _ := w.write(n)
			full := bits[:cap(bits)]
			for i := range full {
				full[i] = !full[i]
			}
			if again, err := w.write(n); text(again) != w.want(n) || err != api.OK {
				t.Errorf("%s of %d: %s, %d", w.name, n, text(again), err)
			}
		}
	}
}
