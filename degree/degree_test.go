package degree_test

import (
	"math"
	"math/big"
	"slices"
	"testing"

	"dropletmill/api"
	"dropletmill/degree"
	"dropletmill/plain"
)

// wrong counts of blocks. The great ones would wrap round to small products.
var wrong = []int{0, -1, -16, api.MaxBlocks + 1, api.MaxTimes, 1 << 32, 1 << 62, -1 << 62, math.MaxInt, math.MinInt}

// under tells whether n of MaxTimes is below 1/k + (1 - 1/d), by fractions: the promise's comparison, divided by k, d and MaxTimes.
func under(k, n, d int) bool {
	part := big.NewRat(int64(n), 1000)
	whole := new(big.Rat).Add(big.NewRat(1, int64(k)), big.NewRat(int64(d-1), int64(d)))
	return part.Cmp(whole) < 0
}

func TestOf(t *testing.T) {
	for _, c := range []struct{ k, n, want int }{
		{1, 0, 1},
		{1, 500, 1},
		{1, 999, 1},
		// Exactly half is not below half.
		{2, 0, 1},
		{2, 499, 1},
		{2, 500, 2},
		{2, 999, 2},
		{3, 333, 1},
		{3, 334, 2},
		{3, 833, 2},
		{3, 834, 3},
		{3, 999, 3},
		// A share that ends on a whole number, at each degree.
		{4, 249, 1},
		{4, 250, 2},
		{4, 749, 2},
		{4, 750, 3},
		{4, 916, 3},
		{4, 917, 4},
		{10, 99, 1},
		{10, 100, 2},
		{10, 599, 2},
		{10, 600, 3},
		{10, 999, 10},
		{16, 0, 1},
		{16, 62, 1},
		{16, 63, 2},
		{16, 562, 2},
		{16, 563, 3},
		{16, 995, 15},
		{16, 996, 16},
		{16, 999, 16},
	} {
		got, err := degree.Of(c.k, c.n)
		if got != c.want || err != nil {
			t.Errorf("Of(%d, %d): %d, %v; want %d", c.k, c.n, got, err, c.want)
		}
	}
}

// TestOfEveryNumber: at every k and n the degree is from 1 to k, n is under its share, and under that of no lower one.
func TestOfEveryNumber(t *testing.T) {
	for k := 1; k <= api.MaxBlocks; k++ {
		for n := range api.MaxTimes {
			got, err := degree.Of(k, n)
			if err != nil || got < 1 || got > k {
				t.Fatalf("Of(%d, %d): %d, %v", k, n, got, err)
			}
			if !under(k, n, got) {
				t.Fatalf("Of(%d, %d) is %d, but it is not under that share", k, n, got)
			}
			for d := 1; d < got; d++ {
				if under(k, n, d) {
					t.Fatalf("Of(%d, %d) is %d, but %d is enough", k, n, got, d)
				}
			}
		}
	}
}

func TestOfErrors(t *testing.T) {
	numbers := []int{-1, -999, api.MaxTimes, api.MaxTimes + 1, 1 << 60, -1 << 60, math.MaxInt, math.MinInt}
	for _, k := range wrong {
		for _, n := range append([]int{0, 1, 999}, numbers...) {
			got, err := degree.Of(k, n)
			if got != 0 || plain.Told(err) != api.ErrRange {
				t.Errorf("Of(%d, %d): %d, %v; want ErrRange", k, n, got, err)
			}
		}
	}
	for k := 1; k <= api.MaxBlocks; k++ {
		for _, n := range numbers {
			got, err := degree.Of(k, n)
			if got != 0 || plain.Told(err) != api.ErrRange {
				t.Errorf("Of(%d, %d): %d, %v; want ErrRange", k, n, got, err)
			}
		}
	}
}

func TestTimes(t *testing.T) {
	for _, c := range []struct {
		k    int
		want []int
	}{
		{1, []int{1000}},
		{2, []int{500, 500}},
		{3, []int{334, 500, 166}},
		{4, []int{250, 500, 167, 83}},
		{5, []int{200, 500, 167, 83, 50}},
		{10, []int{100, 500, 167, 83, 50, 34, 24, 17, 14, 11}},
		{16, []int{63, 500, 167, 83, 50, 33, 24, 18, 14, 11, 9, 8, 6, 6, 4, 4}},
	} {
		got, err := degree.Times(c.k)
		if !slices.Equal(got, c.want) || err != nil {
			t.Errorf("Times(%d): %v, %v; want %v", c.k, got, err, c.want)
		}
	}
}

// TestTimesCountsOf: at every k it is the count of what Of answers, one for each degree, and each number is counted once.
func TestTimesCountsOf(t *testing.T) {
	for k := 1; k <= api.MaxBlocks; k++ {
		want := make([]int, k)
		for n := range api.MaxTimes {
			d, _ := degree.Of(k, n)
			want[d-1]++
		}
		got, err := degree.Times(k)
		if !slices.Equal(got, want) || err != nil {
			t.Errorf("Times(%d): %v, %v; want %v", k, got, err, want)
		}
		sum := 0
		for _, m := range got {
			sum += m
		}
		if sum != api.MaxTimes {
			t.Errorf("Times(%d): %d in all", k, sum)
		}
	}
}

func TestTimesErrors(t *testing.T) {
	for _, k := range wrong {
		got, err := degree.Times(k)
		if len(got) != 0 || plain.Told(err) != api.ErrRange {
			t.Errorf("Times(%d): %v, %v; want ErrRange", k, got, err)
		}
	}
}

// TestTimesAreFresh: what is written into one answer is not seen in another.
func TestTimesAreFresh(t *testing.T) {
	first, _ := degree.Times(3)
	second, _ := degree.Times(3)
	clear(first)
	_ = append(first, 9)
	third, _ := degree.Times(3)
	want := []int{334, 500, 166}
	if !slices.Equal(second, want) || !slices.Equal(third, want) {
		t.Errorf("answers share memory: %v, %v", second, third)
	}
}

// TestSameAgain: an answer hangs on its arguments alone, whatever was asked, or went wrong, ahead.
func TestSameAgain(t *testing.T) {
	for range 3 {
		if d, err := degree.Of(16, 731); d != 4 || err != nil {
			t.Fatalf("Of: %d, %v", d, err)
		}
		if l, err := degree.Times(2); !slices.Equal(l, []int{500, 500}) || err != nil {
			t.Fatalf("Times: %v, %v", l, err)
		}
		degree.Of(17, 5)
		degree.Of(5, -1)
		degree.Times(0)
	}
}
