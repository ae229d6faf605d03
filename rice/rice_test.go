package rice_test

import (
	"math"
	"slices"
	"strconv"
	"strings"
	"testing"

	"dropletmill/api"
	"dropletmill/plain"
	"dropletmill/rice"
)

// Numbers that are none of their kind.
var (
	wrongLow    = []int{-1, -7, api.MaxRice + 1, 63, 64, 1 << 32, -1 << 32, math.MaxInt, math.MinInt}
	wrongNumber = []int{-256, 256, -511, 510, 1 << 32, -1 << 32, 1 << 62, -1 << 62, math.MaxInt, math.MinInt}
	wrongMany   = []int{-1, api.MaxBits + 1, 1 << 32, -1 << 32, math.MaxInt, math.MinInt}
	wrongBit    = []int{-1, 2, 3, -2, 1 << 32, 1<<32 + 1, math.MaxInt, math.MinInt}
)

// dice: numbers that are always the same.
type dice int

// below n, from 0 on.
func (d *dice) below(n int) int {
	*d = (*d*16_807 + 11) % 2_147_483_647
	return int(*d) / 8 % n
}

// bitsOf a text of 0 and 1.
func bitsOf(s string) []int {
	l := []int{}
	for _, c := range s {
		l = append(l, int(c-'0'))
	}
	return l
}

// code of a number, by the promise's words, as a text of 0 and 1.
func code(n, low int) string {
	told := 2 * n
	if n < 0 {
		told = 2*-n - 1
	}
	by := 1
	for range low {
		by *= 2
	}
	s := strings.Repeat("1", told/by) + "0"
	if low == 0 {
		return s
	}
	digits := strconv.FormatInt(int64(told%by), 2)
	return s + strings.Repeat("0", low-len(digits)) + digits
}

// codes of numbers, one behind the other.
func codes(l []int, low int) string {
	s := ""
	for _, n := range l {
		s += code(n, low)
	}
	return s
}

// everyLow that may be.
func everyLow(ask func(low int)) {
	for low := 0; low <= api.MaxRice; low++ {
		ask(low)
	}
}

// putIs: these are the bits of numbers, without an error.
func putIs(t *testing.T, l []int, low int, want string) {
	t.Helper()
	if got, err := rice.Put(l, low); !slices.Equal(got, bitsOf(want)) || err != nil {
		t.Errorf("Put(%v, %d): %v, %v; want %v", l, low, got, err, want)
	}
}

// putRefuses: Put answers the error, and nothing else.
func putRefuses(t *testing.T, l []int, low int, want api.Errno) {
	t.Helper()
	if got, err := rice.Put(l, low); len(got) != 0 || plain.Told(err) != want {
		t.Errorf("Put of %d numbers, %d: %v, %v; want %v", len(l), low, got, err, want)
	}
}

// getIs: just these numbers are told by the bits, without an error.
func getIs(t *testing.T, bits string, low int, want ...int) {
	t.Helper()
	if got, err := rice.Get(bitsOf(bits), low, len(want)); !slices.Equal(got, want) || err != nil {
		t.Errorf("Get(%v, %d, %d): %v, %v; want %v", bits, low, len(want), got, err, want)
	}
}

// getRefuses: Get answers the error, and nothing else.
func getRefuses(t *testing.T, bits []int, low, many int, want api.Errno) {
	t.Helper()
	if got, err := rice.Get(bits, low, many); len(got) != 0 || plain.Told(err) != want {
		t.Errorf("Get of %d bits, %d, %d: %v, %v; want %v", len(bits), low, many, got, err, want)
	}
}

// bestIs: by this low there are the fewest bits, without an error.
func bestIs(t *testing.T, l []int, want int) {
	t.Helper()
	if got, err := rice.Best(l); got != want || err != nil {
		t.Errorf("Best(%v): %d, %v; want %d", l, got, err, want)
	}
}

// bestRefuses: Best answers the error, and nothing else.
func bestRefuses(t *testing.T, l []int, want api.Errno) {
	t.Helper()
	if got, err := rice.Best(l); got != 0 || plain.Told(err) != want {
		t.Errorf("Best of %d numbers: %d, %v; want %v", len(l), got, err, want)
	}
}

// thereAndBack: numbers are told by the bits that the promise says, and these tell them again.
func thereAndBack(t *testing.T, l []int, low int) {
	t.Helper()
	s := codes(l, low)
	putIs(t, l, low, s)
	getIs(t, s, low, l...)
}

// fewest: the least low by which Put answers the fewest bits; false if it answers none by any.
func fewest(l []int) (int, bool) {
	best, least := 0, math.MaxInt
	everyLow(func(low int) {
		if bits, err := rice.Put(l, low); err == nil && len(bits) < least {
			best, least = low, len(bits)
		}
	})
	return best, least < math.MaxInt
}

// TestPut: as many 1 as it is divided, a 0, and the low bits, the high ones first.
func TestPut(t *testing.T) {
	putIs(t, []int{0}, 0, "0")
	putIs(t, []int{-1}, 0, "10")
	putIs(t, []int{1}, 0, "110")
	putIs(t, []int{-2}, 0, "1110")
	putIs(t, []int{2}, 0, "11110")
	putIs(t, []int{0}, 2, "000")
	putIs(t, []int{-1}, 2, "001")
	putIs(t, []int{1}, 2, "010")
	putIs(t, []int{-2}, 2, "011")
	putIs(t, []int{2}, 2, "1000")
	putIs(t, []int{-3}, 2, "1001")
	putIs(t, []int{5}, 3, "10010")
	putIs(t, []int{0}, 7, "00000000")
	putIs(t, []int{-64}, 7, "01111111")
	putIs(t, []int{64}, 7, "100000000")
	putIs(t, []int{255}, 7, "11101111110")
	putIs(t, []int{-255}, 7, "11101111101")
	putIs(t, []int{255}, 0, strings.Repeat("1", 510)+"0")
	putIs(t, []int{-255}, 0, strings.Repeat("1", 509)+"0")
	putIs(t, []int{2, -1, 0, -3}, 1, "1100"+"01"+"00"+"11"+"01")
	everyLow(func(low int) {
		putIs(t, nil, low, "")
		putIs(t, []int{}, low, "")
	})
}

// TestEveryNumber: every number by every low, alone, and behind and ahead of its negative.
func TestEveryNumber(t *testing.T) {
	everyLow(func(low int) {
		for n := -255; n <= 255; n++ {
			thereAndBack(t, []int{n}, low)
			if low > 0 {
				thereAndBack(t, []int{n, -n, n}, low)
			}
		}
	})
}

// TestManyNumbers: lists of any numbers by every low.
func TestManyNumbers(t *testing.T) {
	var d dice = 16
	everyLow(func(low int) {
		for range 300 {
			span := 1 + d.below(255)
			l := []int{}
			for range d.below(40) {
				l = append(l, d.below(2*span+1)-span)
			}
			if len(codes(l, low)) > api.MaxBits {
				putRefuses(t, l, low, api.ErrFull)
				continue
			}
			thereAndBack(t, l, low)
		}
	})
}

// TestPutRange: a low, or a number at any place, that is none that may be, also where there would be too many bits.
func TestPutRange(t *testing.T) {
	for _, low := range wrongLow {
		for _, l := range [][]int{nil, {}, {0}, {-255, 255}, {256}, make([]int, api.MaxBits+1)} {
			putRefuses(t, l, low, api.ErrRange)
		}
	}
	everyLow(func(low int) {
		for _, n := range wrongNumber {
			for _, many := range []int{1, 2, 5, api.MaxBits + 1} {
				for _, place := range []int{0, many / 2, many - 1} {
					l := make([]int, many)
					l[place] = n
					putRefuses(t, l, low, api.ErrRange)
				}
			}
			putRefuses(t, append(slices.Repeat([]int{255}, 1_000), n), low, api.ErrRange)
		}
	})
}

// told: the number that is told as n.
func told(n int) int {
	if n%2 == 0 {
		return n / 2
	}
	return -(n + 1) / 2
}

// filled: numbers that have just so many bits: noughts, of which some are made one bit longer each.
func filled(low, bits int) []int {
	l := make([]int, bits/(1+low))
	for i := range bits % (1 + low) {
		l[i] = told(1 << low)
	}
	return l
}

// TestPutFull: as many bits as may be, and more, by every low.
func TestPutFull(t *testing.T) {
	everyLow(func(low int) {
		for bits := api.MaxBits - 9; bits <= api.MaxBits; bits++ {
			thereAndBack(t, filled(low, bits), low)
		}
		for _, bits := range []int{api.MaxBits, api.MaxBits + 1} {
			if n := len(codes(filled(low, bits), low)); n != bits {
				t.Fatalf("by low %d there are %d bits; want %d", low, n, bits)
			}
		}
		for bits := api.MaxBits + 1; bits <= api.MaxBits+9; bits++ {
			putRefuses(t, filled(low, bits), low, api.ErrFull)
		}
		putRefuses(t, append(filled(low, api.MaxBits), 0), low, api.ErrFull)
		putRefuses(t, make([]int, 1_000_000), low, api.ErrFull)
		putRefuses(t, slices.Repeat([]int{-255}, 100_000), low, api.ErrFull)
	})
	thereAndBack(t, []int{255, 255, 255, -233, 0}, 0)
	putRefuses(t, []int{255, 255, 255, 233, 0}, 0, api.ErrFull)
	putRefuses(t, []int{255, 255, 255, 234}, 0, api.ErrFull)
}

// TestGet: bits tell as many numbers as are asked for.
func TestGet(t *testing.T) {
	getIs(t, "0", 0, 0)
	getIs(t, "10", 0, -1)
	getIs(t, "110", 0, 1)
	getIs(t, "000", 0, 0, 0, 0)
	getIs(t, "000", 2, 0)
	getIs(t, "011", 2, -2)
	getIs(t, "1000", 2, 2)
	getIs(t, "11101111110", 7, 255)
	getIs(t, "11101111101", 7, -255)
	getIs(t, "1100"+"01"+"00"+"1101", 1, 2, -1, 0, -3)
	getIs(t, strings.Repeat("0", api.MaxBits), 0, make([]int, api.MaxBits)...)
	getIs(t, strings.Repeat("0", api.MaxBits), 7, make([]int, api.MaxBits/8)...)
	everyLow(func(low int) {
		getIs(t, "", low)
	})
}

// read: all numbers that bits tell, by holding what is left against the code of each; false if these are none.
func read(bits string, low int) ([]int, bool) {
	l := []int{}
	for bits != "" {
		was := len(l)
		for n := -255; n <= 255 && len(l) == was; n++ {
			if behind, ok := strings.CutPrefix(bits, code(n, low)); ok {
				l, bits = append(l, n), behind
			}
		}
		if len(l) == was {
			return nil, false
		}
	}
	return l, true
}

// TestGetEveryBits: all bits of up to nine, by every low, asked for as many as they tell, fewer, and more.
func TestGetEveryBits(t *testing.T) {
	everyLow(func(low int) {
		for many := range 10 {
			for n := range 1 << many {
				bits := strconv.FormatInt(int64(1<<many|n), 2)[1:]
				l, ok := read(bits, low)
				for ask := range many + 2 {
					if ok && ask == len(l) {
						getIs(t, bits, low, l...)
					} else {
						getRefuses(t, bitsOf(bits), low, ask, api.ErrSyntax)
					}
				}
			}
		}
	})
}

// TestGetSyntax: bits that end too early, or too late, or tell fewer, or more, than are asked for.
func TestGetSyntax(t *testing.T) {
	everyLow(func(low int) {
		l := []int{3, -1, 0, -7, 12}
		bits := bitsOf(codes(l, low))
		for end := range len(bits) {
			getRefuses(t, bits[:end], low, len(l), api.ErrSyntax)
		}
		for _, bit := range []int{0, 1} {
			getRefuses(t, append(slices.Clone(bits), bit), low, len(l), api.ErrSyntax)
		}
		for _, many := range []int{0, 1, 4, 6, 7, api.MaxBits} {
			getRefuses(t, bits, low, many, api.ErrSyntax)
		}
		getRefuses(t, nil, low, 1, api.ErrSyntax)
		getRefuses(t, nil, low, api.MaxBits, api.ErrSyntax)
		getRefuses(t, slices.Repeat([]int{1}, api.MaxBits), low, 1, api.ErrSyntax)
		getRefuses(t, slices.Repeat([]int{1}, api.MaxBits), low, 0, api.ErrSyntax)
		getRefuses(t, make([]int, api.MaxBits), low, 0, api.ErrSyntax)
	})
}

// TestGetBeyond: bits that tell what no number is told as, 511 and more, the least of these, and far ones.
func TestGetBeyond(t *testing.T) {
	everyLow(func(low int) {
		getIs(t, code(-255, low)+code(255, low), low, -255, 255)
		for _, n := range []int{-256, 256, -257, 257, 300, 400} {
			getRefuses(t, bitsOf(code(n, low)), low, 1, api.ErrSyntax)
			getRefuses(t, bitsOf(code(1, low)+code(n, low)), low, 2, api.ErrSyntax)
			getRefuses(t, bitsOf(code(n, low)+code(1, low)), low, 2, api.ErrSyntax)
		}
		far := strings.Repeat("1", api.MaxBits-1-low) + strings.Repeat("0", 1+low)
		getRefuses(t, bitsOf(far), low, 1, api.ErrSyntax)
	})
}

// TestGetErrors: low, or many, ahead of too many bits, these ahead of one that is none, that ahead of what they tell.
func TestGetErrors(t *testing.T) {
	full := make([]int, api.MaxBits+1)
	strange := slices.Concat(full, []int{2})
	lists := [][]int{nil, {}, {0}, {1}, {2}, {0, 0}, full, strange}
	for _, bits := range lists {
		for _, low := range wrongLow {
			for _, many := range append([]int{0, 1, 2, api.MaxBits}, wrongMany...) {
				getRefuses(t, bits, low, many, api.ErrRange)
			}
		}
		for _, many := range wrongMany {
			everyLow(func(low int) { getRefuses(t, bits, low, many, api.ErrRange) })
		}
	}
	everyLow(func(low int) {
		for _, many := range []int{0, 1, api.MaxBits} {
			for _, bits := range [][]int{full, strange, make([]int, 1_000_000)} {
				getRefuses(t, bits, low, many, api.ErrFull)
			}
		}
	})
}

// TestGetBit: one that is neither 0 nor 1, at each place, also where the bits ahead of it tell no number.
func TestGetBit(t *testing.T) {
	everyLow(func(low int) {
		good := bitsOf(codes([]int{2, -1, 0}, low))
		for _, bit := range wrongBit {
			for place := range good {
				bits := slices.Clone(good)
				bits[place] = bit
				for _, many := range []int{0, 1, 3, 4, api.MaxBits} {
					getRefuses(t, bits, low, many, api.ErrRange)
				}
			}
			getRefuses(t, append(slices.Clone(good), bit), low, 3, api.ErrRange)
			getRefuses(t, append(slices.Repeat([]int{1}, api.MaxBits-1), bit), low, 1, api.ErrRange)
			getRefuses(t, append(bitsOf(code(256, low)), bit), low, 1, api.ErrRange)
		}
	})
}

// TestBest: the fewest bits, and of several lows the least.
func TestBest(t *testing.T) {
	bestIs(t, nil, 0)
	bestIs(t, []int{}, 0)
	bestIs(t, []int{0}, 0)
	bestIs(t, []int{-1}, 0)         // 2 bits by 0, and by 1
	bestIs(t, []int{1}, 0)          // 3 by 0, 1, 2
	bestIs(t, []int{-2}, 1)         // 4, 3, 3
	bestIs(t, []int{2}, 1)          // 5, 4, 4, 4
	bestIs(t, []int{3}, 2)          // 7, 5, 4, 4
	bestIs(t, []int{8}, 3)          // 6 by 3, 4, 5
	bestIs(t, []int{16}, 4)         // 7 by 4, 5, 6
	bestIs(t, []int{32}, 5)         // 8 by 5, 6, 7
	bestIs(t, []int{64}, 6)         // 9 by 6, 7
	bestIs(t, []int{128}, 7)        // 11 by 6, 10 by 7
	bestIs(t, []int{-255, 255}, 7)  // 22
	bestIs(t, []int{-3, 3, 0}, 1)   // 14, 11, 11, 12
	bestIs(t, []int{0, 0, 0, 5}, 1) // 14, 13, 14
	bestIs(t, []int{0, 5, 0, 0, 0, 0}, 0)
	bestIs(t, []int{100, -100}, 7)
}

// TestBestEveryNumber: of every number, alone and beside others, the low of the fewest bits that Put answers.
func TestBestEveryNumber(t *testing.T) {
	for n := -255; n <= 255; n++ {
		for _, l := range [][]int{{n}, {n, -n}, {0, n, 0}, {n, 40}, {7, -9, n, 3, -2}} {
			want, ok := fewest(l)
			if !ok {
				t.Fatalf("%v has no bits", l)
			}
			bestIs(t, l, want)
		}
	}
}

// TestBestManyNumbers: lists of any numbers, also such as have too many bits by some lows, or by all.
func TestBestManyNumbers(t *testing.T) {
	var d dice = 61
	for range 3_000 {
		span := 1 + d.below(255)
		l := []int{}
		for range d.below(400) {
			l = append(l, d.below(2*span+1)-span)
		}
		if want, ok := fewest(l); ok {
			bestIs(t, l, want)
		} else {
			bestRefuses(t, l, api.ErrFull)
		}
	}
}

// TestBestErrors: a number that is none that may be, at any place, ahead of too many bits.
func TestBestErrors(t *testing.T) {
	for _, n := range wrongNumber {
		for _, many := range []int{1, 2, 5, api.MaxBits + 1} {
			for _, place := range []int{0, many / 2, many - 1} {
				l := make([]int, many)
				l[place] = n
				bestRefuses(t, l, api.ErrRange)
			}
		}
		bestRefuses(t, append(slices.Repeat([]int{255}, 1_000), n), api.ErrRange)
	}
}

// TestBestFull: as many bits as may be by the best low, and more.
func TestBestFull(t *testing.T) {
	bestIs(t, make([]int, api.MaxBits), 0)
	bestRefuses(t, make([]int, api.MaxBits+1), api.ErrFull)
	bestIs(t, append(make([]int, api.MaxBits-2), -1), 0)
	bestRefuses(t, append(make([]int, api.MaxBits-1), -1), api.ErrFull)
	// 11 bits each by 7: 1,991 and, with a nought, 1,999; by every lower one there are too many.
	bestIs(t, slices.Repeat([]int{255}, 181), 7)
	bestIs(t, append(slices.Repeat([]int{255}, 181), 0), 7)
	bestIs(t, append(slices.Repeat([]int{255}, 181), -64-1), 7)
	bestRefuses(t, append(slices.Repeat([]int{255}, 181), -128-1), api.ErrFull)
	bestRefuses(t, slices.Repeat([]int{255}, 182), api.ErrFull)
	bestRefuses(t, make([]int, 1_000_000), api.ErrFull)
	bestRefuses(t, slices.Repeat([]int{-255}, 100_000), api.ErrFull)
}

// TestNothingIsChanged: no list that is handed in is written into, nor read, or written, behind its length.
func TestNothingIsChanged(t *testing.T) {
	behind := []int{2, -1, 0, 255, 300, -9}
	was := slices.Clone(behind)
	putIs(t, behind[:4], 6, codes(was[:4], 6))
	bestIs(t, behind[:4], 6)
	if !slices.Equal(behind, was) {
		t.Errorf("the numbers are %v now", behind)
	}
	bits := append(bitsOf(codes(was[:4], 6)), 0, 1, 7)
	wasBits := slices.Clone(bits)
	if got, err := rice.Get(bits[:len(bits)-3], 6, 4); !slices.Equal(got, was[:4]) || err != nil {
		t.Errorf("Get: %v, %v; want %v", got, err, was[:4])
	}
	// What lies behind would end a number that ends too early.
	getRefuses(t, bits[:len(bits)-4], 6, 4, api.ErrSyntax)
	if !slices.Equal(bits, wasBits) {
		t.Errorf("the bits are %v now", bits)
	}
}

// TestAnswersAreFresh: what is done to an answer is seen in no other, and what is done to an argument in no answer.
func TestAnswersAreFresh(t *testing.T) {
	l := []int{2, -1, 0, -3}
	bits, err := rice.Put(l, 1)
	if err != nil {
		t.Fatal(err)
	}
	want := slices.Clone(bits)
	again, err := rice.Get(bits, 1, 4)
	if err != nil {
		t.Fatal(err)
	}
	clear(bits[:cap(bits)])
	clear(l)
	if !slices.Equal(again, []int{2, -1, 0, -3}) {
		t.Errorf("the numbers are %v now", again)
	}
	putIs(t, again, 1, "1100"+"01"+"00"+"1101")
	clear(again[:cap(again)])
	if got, err := rice.Get(want, 1, 4); !slices.Equal(got, []int{2, -1, 0, -3}) || err != nil {
		t.Errorf("Get, again: %v, %v", got, err)
	}
}

// TestSameAgain: an answer hangs on its arguments alone, whatever was asked, or went wrong, ahead.
func TestSameAgain(t *testing.T) {
	for range 3 {
		thereAndBack(t, []int{4, -4, 0}, 2)
		bestIs(t, []int{4, 4}, 2)
		putRefuses(t, []int{256}, 2, api.ErrRange)
		getRefuses(t, []int{1}, 2, 1, api.ErrSyntax)
		bestRefuses(t, []int{-256}, api.ErrRange)
	}
}
