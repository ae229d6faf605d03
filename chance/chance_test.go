package chance_test

import (
	"math"
	"math/big"
	"slices"
	"testing"

	"dropletmill/api"
	"dropletmill/chance"
	"dropletmill/plain"
)

// last number that has a next one.
const last = api.Modulo - 1

// none: numbers that have no next one.
var none = []int{0, -1, -api.Modulo, api.Modulo, api.Modulo + 1, 1 << 40, math.MaxInt, math.MinInt}

// after tells the next of n by numbers that have no bound.
func after(n int) int {
	p := new(big.Int).Mul(big.NewInt(16807), big.NewInt(int64(n)))
	return int(p.Mod(p, big.NewInt(1<<31-1)).Int64())
}

func TestNext(t *testing.T) {
	for _, c := range []struct{ n, want int }{
		{1, 16807},
		{2, 33614},
		{16807, 282475249},
		{282475249, 1622650073},
		{1622650073, 984943658},
		{127773, 2147480811},
		{127774, 13971},
		{last, 2147466840},
		{1407677000, 1},
		{739806647, last},
	} {
		got, err := chance.Next(c.n)
		if got != c.want || err != nil {
			t.Errorf("Next(%d): %d, %v; want %d", c.n, got, err, c.want)
		}
	}
}

// TestNextAllOver: numbers from the first to the last, by another reckoning; the next one has a next one too.
func TestNextAllOver(t *testing.T) {
	for n := 1; n <= last; n += 99_991 {
		for _, n := range []int{n, api.Modulo - n} {
			got, err := chance.Next(n)
			if got != after(n) || err != nil {
				t.Fatalf("Next(%d): %d, %v; want %d", n, got, err, after(n))
			}
			if got < 1 || got > last {
				t.Fatalf("Next(%d) is %d, which has no next one", n, got)
			}
		}
	}
}

// TestNextTenThousand: behind 1, the ten thousandth is the known one.
func TestNextTenThousand(t *testing.T) {
	n := 1
	for range 10_000 {
		next, err := chance.Next(n)
		if err != nil {
			t.Fatalf("Next(%d): %v", n, err)
		}
		n = next
	}
	if n != 1_043_618_065 {
		t.Errorf("the ten thousandth is %d", n)
	}
}

func TestNextErrors(t *testing.T) {
	for _, n := range none {
		got, err := chance.Next(n)
		if got != 0 || plain.Told(err) != api.ErrRange {
			t.Errorf("Next(%d): %d, %v; want ErrRange", n, got, err)
		}
	}
}

func TestRow(t *testing.T) {
	for _, c := range []struct {
		seed, many int
		want       []int
	}{
		{1, 0, nil},
		{1, 1, []int{16807}},
		{1, 4, []int{16807, 282475249, 1622650073, 984943658}},
		{16807, 3, []int{282475249, 1622650073, 984943658}},
		{last, 2, []int{2147466840, 1865008398}},
		{last, 0, nil},
		{1407677000, 2, []int{1, 16807}},
	} {
		got, err := chance.Row(c.seed, c.many)
		if !slices.Equal(got, c.want) || err != nil {
			t.Errorf("Row(%d, %d): %v, %v; want %v", c.seed, c.many, got, err, c.want)
		}
	}
}

// TestRowIsNextByNext: of every length, each is the next of the one ahead.
func TestRowIsNextByNext(t *testing.T) {
	for many := range api.MaxDrops + 1 {
		for _, seed := range []int{1, 77, 10_000, last / 2, last} {
			got, err := chance.Row(seed, many)
			if len(got) != many || err != nil {
				t.Fatalf("Row(%d, %d): %d numbers, %v", seed, many, len(got), err)
			}
			n := seed
			for i, k := range got {
				n, _ = chance.Next(n)
				if k != n {
					t.Fatalf("Row(%d, %d): %d at place %d; want %d", seed, many, k, i, n)
				}
			}
		}
	}
}

func TestRowErrors(t *testing.T) {
	wrong := []int{-1, api.MaxDrops + 1, api.MaxTimes, math.MaxInt, math.MinInt}
	for _, many := range wrong {
		for _, seed := range append([]int{1, 5, last}, none...) {
			got, err := chance.Row(seed, many)
			if len(got) != 0 || plain.Told(err) != api.ErrRange {
				t.Errorf("Row(%d, %d): %v, %v; want ErrRange", seed, many, got, err)
			}
		}
	}
	// A seed that is none such is told even where nothing is asked for.
	for _, seed := range none {
		for _, many := range []int{0, 1, api.MaxDrops} {
			got, err := chance.Row(seed, many)
			if len(got) != 0 || plain.Told(err) != api.ErrRange {
				t.Errorf("Row(%d, %d): %v, %v; want ErrRange", seed, many, got, err)
			}
		}
	}
}

func TestBelow(t *testing.T) {
	for _, c := range []struct{ n, bound, below, next int }{
		{1, 1, 0, 16807},
		{1, 2, 1, 16807},
		{1, 10, 7, 16807},
		{1, 7, 0, 16807},
		{1, api.MaxTimes, 807, 16807},
		{1407677000, 1, 0, 1},
		{1407677000, 2, 1, 1},
		{last, api.MaxTimes, 840, 2147466840},
		{739806647, api.MaxTimes, 646, last},
	} {
		below, next, err := chance.Below(c.n, c.bound)
		if below != c.below || next != c.next || err != nil {
			t.Errorf("Below(%d, %d): %d, %d, %v; want %d, %d", c.n, c.bound, below, next, err, c.below, c.next)
		}
	}
}

// TestBelowEveryBound: it is the next, modulo each bound that may be.
func TestBelowEveryBound(t *testing.T) {
	for bound := 1; bound <= api.MaxTimes; bound++ {
		for _, n := range []int{1, 4321, last - bound, last} {
			below, next, err := chance.Below(n, bound)
			if next != after(n) || below != after(n)%bound || err != nil {
				t.Fatalf("Below(%d, %d): %d, %d, %v", n, bound, below, next, err)
			}
		}
	}
}

func TestBelowErrors(t *testing.T) {
	wrong := []int{0, -1, api.MaxTimes + 1, api.Modulo, math.MaxInt, math.MinInt}
	for _, n := range none {
		for _, bound := range append([]int{1, 10, api.MaxTimes}, wrong...) {
			below, next, err := chance.Below(n, bound)
			if below != 0 || next != 0 || plain.Told(err) != api.ErrRange {
				t.Errorf("Below(%d, %d): %d, %d, %v; want ErrRange", n, bound, below, next, err)
			}
		}
	}
	for _, bound := range wrong {
		for _, n := range []int{1, 5, last} {
			below, next, err := chance.Below(n, bound)
			if below != 0 || next != 0 || plain.Told(err) != api.ErrRange {
				t.Errorf("Below(%d, %d): %d, %d, %v; want ErrRange", n, bound, below, next, err)
			}
		}
	}
}

// TestRowsAreFresh: what is written into one answer is not seen in another.
func TestRowsAreFresh(t *testing.T) {
	first, _ := chance.Row(1, 3)
	second, _ := chance.Row(1, 3)
	clear(first)
	_ = append(first, 9)
	third, _ := chance.Row(1, 3)
	want := []int{16807, 282475249, 1622650073}
	if !slices.Equal(second, want) || !slices.Equal(third, want) {
		t.Errorf("rows share memory: %v, %v", second, third)
	}
}

// TestSameAgain: an answer hangs on its arguments alone, whatever was asked, or went wrong, ahead.
func TestSameAgain(t *testing.T) {
	for range 3 {
		if n, err := chance.Next(5); n != 84035 || err != nil {
			t.Fatalf("Next: %d, %v", n, err)
		}
		if l, err := chance.Row(5, 2); !slices.Equal(l, []int{84035, 1412376245}) || err != nil {
			t.Fatalf("Row: %v, %v", l, err)
		}
		if a, b, err := chance.Below(5, 100); a != 35 || b != 84035 || err != nil {
			t.Fatalf("Below: %d, %d, %v", a, b, err)
		}
		chance.Next(0)
		chance.Row(7, -1)
		chance.Below(7, 0)
	}
}
