package wheel_test

import (
	"math"
	"slices"
	"testing"

	"dropletmill/api"
	"dropletmill/drop"
	"dropletmill/need"
	"dropletmill/plain"
	"dropletmill/wheel"
)

// atIs: this seed comes at a time, without an error.
func atIs(t *testing.T, k, extra, at, want int) {
	t.Helper()
	if got, err := wheel.At(k, extra, at); got != want || err != nil {
		t.Errorf("At(%d, %d, %d): %d, %v; want %d", k, extra, at, got, err, want)
	}
}

// rowIs: these seeds come from a time on, without an error.
func rowIs(t *testing.T, k, extra, from, many int, want ...int) {
	t.Helper()
	if got, err := wheel.Row(k, extra, from, many); !slices.Equal(got, want) || err != nil {
		t.Errorf("Row(%d, %d, %d, %d): %v, %v; want %v", k, extra, from, many, got, err, want)
	}
}

// whenIs: at this time a seed comes first, without an error.
func whenIs(t *testing.T, k, extra, seed, want int) {
	t.Helper()
	if got, err := wheel.When(k, extra, seed); got != want || err != nil {
		t.Errorf("When(%d, %d, %d): %d, %v; want %d", k, extra, seed, got, err, want)
	}
}

// atRefuses: At answers that a number is none that may be, and nothing else.
func atRefuses(t *testing.T, k, extra, at int) {
	t.Helper()
	if got, err := wheel.At(k, extra, at); got != 0 || plain.Told(err) != api.ErrRange {
		t.Errorf("At(%d, %d, %d): %d, %v; want ErrRange", k, extra, at, got, err)
	}
}

// rowRefuses: Row answers that a number is none that may be, and nothing else.
func rowRefuses(t *testing.T, k, extra, from, many int) {
	t.Helper()
	if got, err := wheel.Row(k, extra, from, many); len(got) != 0 || plain.Told(err) != api.ErrRange {
		t.Errorf("Row(%d, %d, %d, %d): %v, %v; want ErrRange", k, extra, from, many, got, err)
	}
}

// whenRefuses: When answers the error, and nothing else.
func whenRefuses(t *testing.T, k, extra, seed int, want api.Errno) {
	t.Helper()
	if got, err := wheel.When(k, extra, seed); got != 0 || plain.Told(err) != want {
		t.Errorf("When(%d, %d, %d): %d, %v; want %v", k, extra, seed, got, err, want)
	}
}

// played: the seeds of all times from 0 to MaxTimes, round by round, by the words of the promise.
func played(k, extra int) []int {
	var out []int
	next := k + 1
	for len(out) <= api.MaxTimes {
		for seed := 1; seed <= k; seed++ {
			out = append(out, seed)
		}
		for range extra {
			out = append(out, next)
			next++
		}
	}
	return out[:api.MaxTimes+1]
}

// everyWheel that may be, with the seeds of all its times.
func everyWheel(ask func(k, extra int, seeds []int)) {
	for k := 1; k <= api.MaxBlocks; k++ {
		for extra := 0; extra <= api.MaxBlocks; extra++ {
			ask(k, extra, played(k, extra))
		}
	}
}

// Numbers that are none of their kind.
var (
	wrongK     = []int{0, -1, -16, api.MaxBlocks + 1, 1<<32 + 1, math.MaxInt, math.MinInt}
	wrongExtra = []int{-1, -16, api.MaxBlocks + 1, 1 << 32, math.MaxInt, math.MinInt}
	wrongTime  = []int{-1, api.MaxTimes + 1, 1 << 32, math.MaxInt, math.MinInt}
	wrongMany  = []int{-1, api.MaxDrops + 1, 1 << 32, math.MaxInt, math.MaxInt - 999, math.MinInt}
	wrongSeed  = []int{0, -1, api.MaxSeed + 1, 1<<32 + 1, math.MaxInt, math.MinInt}
)

// TestRounds: three rounds of a wheel, each with others behind the first ones.
func TestRounds(t *testing.T) {
	rowIs(t, 3, 2, 0, 15, 1, 2, 3, 4, 5, 1, 2, 3, 6, 7, 1, 2, 3, 8, 9)
	rowIs(t, 2, 0, 0, 5, 1, 2, 1, 2, 1)
	rowIs(t, 1, 0, 0, 3, 1, 1, 1)
	rowIs(t, 1, 1, 0, 6, 1, 2, 1, 3, 1, 4)
	rowIs(t, 1, 3, 0, 8, 1, 2, 3, 4, 1, 5, 6, 7)
	rowIs(t, 16, 16, 30, 20, 31, 32, 1, 2, 3, 4, 5, 6, 7, 8, 9, 10, 11, 12, 13, 14, 15, 16, 33, 34)
	atIs(t, 3, 2, 0, 1)
	atIs(t, 3, 2, 4, 5)
	atIs(t, 3, 2, 8, 6)
	whenIs(t, 3, 2, 3, 2)
	whenIs(t, 3, 2, 5, 4)
	whenIs(t, 3, 2, 6, 8)
	whenIs(t, 3, 2, 8, 13)
}

// TestAtAll: every wheel at every time. No seed is too great for a drop, so that ErrFull is never told.
func TestAtAll(t *testing.T) {
	everyWheel(func(k, extra int, seeds []int) {
		for at, want := range seeds {
			atIs(t, k, extra, at, want)
		}
	})
}

// TestRowAll: rows of every length, from the first time to the last.
func TestRowAll(t *testing.T) {
	everyWheel(func(k, extra int, seeds []int) {
		for from := 0; from <= api.MaxTimes; from += 37 {
			for many := 0; many <= api.MaxDrops; many++ {
				if from+many <= api.MaxTimes {
					rowIs(t, k, extra, from, many, seeds[from:from+many]...)
				} else {
					rowRefuses(t, k, extra, from, many)
				}
			}
		}
	})
}

// TestWhenAll: every seed of every wheel; one that does not come till MaxTimes never does.
func TestWhenAll(t *testing.T) {
	everyWheel(func(k, extra int, seeds []int) {
		first := map[int]int{}
		for at, seed := range seeds {
			if _, ok := first[seed]; !ok {
				first[seed] = at
			}
		}
		for seed := 1; seed <= api.MaxSeed; seed++ {
			if at, ok := first[seed]; ok {
				whenIs(t, k, extra, seed, at)
			} else {
				whenRefuses(t, k, extra, seed, api.ErrNone)
			}
		}
	})
}

// TestLastTime: MaxTimes itself is a time, but a row ends ahead of it.
func TestLastTime(t *testing.T) {
	const last = api.MaxTimes
	atIs(t, 1, 0, last, 1)
	atIs(t, 1, 1, last, 1)
	atIs(t, 1, 1, last-1, 501)
	atIs(t, 2, 1, last, 2)
	atIs(t, 1, 16, last, 943)
	atIs(t, 6, 1, last, 149)
	atRefuses(t, 1, 0, last+1)
	rowIs(t, 2, 1, last, 0)
	rowIs(t, 2, 1, last-1, 1, 1)
	rowIs(t, 2, 1, last-2, 2, 335, 1)
	rowRefuses(t, 2, 1, last, 1)
	rowRefuses(t, 2, 1, last-1, 2)
	rowRefuses(t, 2, 1, last+1, 0)
	rowRefuses(t, 2, 1, last-api.MaxDrops+1, api.MaxDrops)
	if l, err := wheel.Row(2, 1, last-api.MaxDrops, api.MaxDrops); len(l) != api.MaxDrops || err != nil {
		t.Errorf("the last row: %v, %v", l, err)
	}
	// Just at the last time one comes that was not yet; the next one would come behind it.
	whenIs(t, 6, 1, 149, last)
	whenRefuses(t, 6, 1, 150, api.ErrNone)
	whenIs(t, 1, 16, 943, last)
	whenRefuses(t, 1, 16, 944, api.ErrNone)
}

// TestNeverComes: without more a round, only the first ones come.
func TestNeverComes(t *testing.T) {
	for k := 1; k <= api.MaxBlocks; k++ {
		for seed := 1; seed <= k; seed++ {
			whenIs(t, k, 0, seed, seed-1)
		}
		for _, seed := range []int{k + 1, 2 * k, 2*k + 1, api.MaxSeed} {
			if seed > k {
				whenRefuses(t, k, 0, seed, api.ErrNone)
			}
		}
	}
}

// TestRoundHasAll: who waits a round has all, from whatever time on.
func TestRoundHasAll(t *testing.T) {
	everyWheel(func(k, extra int, _ []int) {
		for from := range 2 * (k + extra) {
			seeds, err := wheel.Row(k, extra, from, k+extra)
			if err != nil {
				t.Fatal(err)
			}
			if lacks, err := need.Lacks(k, seeds); len(lacks) != 0 || err != nil {
				t.Fatalf("a round of %d and %d from %d on lacks %v, %v", k, extra, from, lacks, err)
			}
		}
	})
}

// TestSeedsAreOfDrops: each that comes is a seed of a drop.
func TestSeedsAreOfDrops(t *testing.T) {
	for _, extra := range []int{0, 1, api.MaxBlocks} {
		for at := range api.MaxTimes + 1 {
			seed, _ := wheel.At(1, extra, at)
			if _, err := drop.Set(1, seed); err != nil {
				t.Fatalf("At(1, %d, %d) is %d: %v", extra, at, seed, err)
			}
		}
	}
}

// TestWrongWheels: k and extra are asked ahead of all, whatever the other numbers are.
func TestWrongWheels(t *testing.T) {
	refuse := func(k, extra int) {
		for _, n := range append([]int{0, 1, 5, api.MaxTimes}, wrongTime...) {
			atRefuses(t, k, extra, n)
			for _, many := range append([]int{0, 1, api.MaxDrops}, wrongMany...) {
				rowRefuses(t, k, extra, n, many)
			}
		}
		for _, seed := range append([]int{1, 17, 500, api.MaxSeed}, wrongSeed...) {
			whenRefuses(t, k, extra, seed, api.ErrRange)
		}
	}
	for _, k := range wrongK {
		for _, extra := range append([]int{0, 1, api.MaxBlocks}, wrongExtra...) {
			refuse(k, extra)
		}
		// With these a round is of 0, or of 1, in all: nothing is divided ahead of asking.
		refuse(k, -k)
		refuse(k, 1-k)
	}
	for _, extra := range wrongExtra {
		for k := 1; k <= api.MaxBlocks; k++ {
			refuse(k, extra)
		}
	}
}

// TestWrongNumbers: a time, a length or a seed that is none.
func TestWrongNumbers(t *testing.T) {
	everyWheel(func(k, extra int, _ []int) {
		for _, at := range wrongTime {
			atRefuses(t, k, extra, at)
			for _, many := range append([]int{0, 1, api.MaxDrops}, wrongMany...) {
				rowRefuses(t, k, extra, at, many)
			}
		}
		for _, many := range wrongMany {
			for _, from := range []int{0, 1, 500, api.MaxTimes} {
				rowRefuses(t, k, extra, from, many)
			}
		}
		// That it is none is told even where it would never come.
		for _, seed := range wrongSeed {
			whenRefuses(t, k, extra, seed, api.ErrRange)
		}
	})
}

// TestRowsAreFresh: what is written into one answer is not seen in another.
func TestRowsAreFresh(t *testing.T) {
	first, _ := wheel.Row(3, 2, 4, 5)
	second, _ := wheel.Row(3, 2, 4, 5)
	clear(first[:cap(first)])
	_ = append(first, 9)
	if want := []int{5, 1, 2, 3, 6}; !slices.Equal(second, want) {
		t.Errorf("rows share memory: %v; want %v", second, want)
	}
	rowIs(t, 3, 2, 4, 5, 5, 1, 2, 3, 6)
}

// TestSameAgain: an answer hangs on its arguments alone, whatever was asked, or went wrong, ahead.
func TestSameAgain(t *testing.T) {
	for range 3 {
		atIs(t, 4, 3, 13, 10)
		rowIs(t, 4, 3, 12, 3, 9, 10, 1)
		whenIs(t, 4, 3, 10, 13)
		atRefuses(t, 0, 3, 13)
		rowRefuses(t, 4, 3, 12, -1)
		whenRefuses(t, 4, 0, 10, api.ErrNone)
	}
}
