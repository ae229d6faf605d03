package need_test

import (
	"math"
	"slices"
	"testing"

	"dropletmill/api"
	"dropletmill/drop"
	"dropletmill/need"
	"dropletmill/plain"
	"dropletmill/solve"
)

// firstIs: so many are enough, without an error.
func firstIs(t *testing.T, k int, seeds []int, want int) {
	t.Helper()
	if got, err := need.First(k, seeds); got != want || err != nil {
		t.Errorf("First(%d, %v): %d, %v; want %d", k, seeds, got, err, want)
	}
}

// few seeds: First tells that all are not enough.
func few(t *testing.T, k int, seeds []int) {
	t.Helper()
	if got, err := need.First(k, seeds); got != 0 || plain.Told(err) != api.ErrFew {
		t.Errorf("First(%d, %v): %d, %v; want 0, ErrFew", k, seeds, got, err)
	}
}

// newAre the places of those that are new, without an error.
func newAre(t *testing.T, k int, seeds []int, want ...int) {
	t.Helper()
	if got, err := need.New(k, seeds); !slices.Equal(got, want) || err != nil {
		t.Errorf("New(%d, %v): %v, %v; want %v", k, seeds, got, err, want)
	}
}

// lacking blocks, without an error.
func lacking(t *testing.T, k int, seeds []int, want ...int) {
	t.Helper()
	if got, err := need.Lacks(k, seeds); !slices.Equal(got, want) || err != nil {
		t.Errorf("Lacks(%d, %v): %v, %v; want %v", k, seeds, got, err, want)
	}
}

// refuse seeds, all three.
func refuse(t *testing.T, k int, seeds []int, want api.Errno) {
	t.Helper()
	if got, err := need.First(k, seeds); got != 0 || plain.Told(err) != want {
		t.Errorf("First(%d, %v): %d, %v; want %v", k, seeds, got, err, want)
	}
	if got, err := need.New(k, seeds); len(got) != 0 || plain.Told(err) != want {
		t.Errorf("New(%d, %v): %v, %v; want %v", k, seeds, got, err, want)
	}
	if got, err := need.Lacks(k, seeds); len(got) != 0 || plain.Told(err) != want {
		t.Errorf("Lacks(%d, %v): %v, %v; want %v", k, seeds, got, err, want)
	}
}

// rank of seeds, which has no error.
func rank(t *testing.T, k int, seeds []int) int {
	t.Helper()
	n, err := solve.Rank(k, seeds)
	if err != nil {
		t.Fatal(err)
	}
	return n
}

// seedOf the nth drop, from 0 on, of just these of k blocks.
func seedOf(t *testing.T, k, nth int, places ...int) int {
	t.Helper()
	for seed := 1; seed <= api.MaxSeed; seed++ {
		if set, _ := drop.Set(k, seed); slices.Equal(set, places) {
			if nth == 0 {
				return seed
			}
			nth--
		}
	}
	t.Fatalf("no seed of %d blocks has %v", k, places)
	return 0
}

// below: the numbers from 0 on that are below n.
func below(n int) (out []int) {
	for i := range n {
		out = append(out, i)
	}
	return out
}

// alone: seeds of drops of these blocks, each alone.
func alone(blocks ...int) (out []int) {
	for _, block := range blocks {
		out = append(out, block+1)
	}
	return out
}

// dice that fall the same each time.
type dice uint64

func (d *dice) below(n int) int {
	*d = *d*6364136223846793005 + 1442695040888963407
	return int(uint64(*d) >> 33 % uint64(n))
}

func (d *dice) seeds(many, most int) []int {
	out := make([]int, many)
	for i := range out {
		out[i] = 1 + d.below(most)
	}
	return out
}

func TestNone(t *testing.T) {
	for k := 1; k <= api.MaxBlocks; k++ {
		for _, seeds := range [][]int{nil, {}} {
			few(t, k, seeds)
			newAre(t, k, seeds)
			lacking(t, k, seeds, below(k)...)
		}
	}
}

// TestAlone: drops of one block each, rising and falling.
func TestAlone(t *testing.T) {
	for k := 1; k <= api.MaxBlocks; k++ {
		all := alone(below(k)...)
		for n := range k {
			few(t, k, all[:n])
			newAre(t, k, all[:n], below(n)...)
			lacking(t, k, all[:n], below(k)[n:]...)
		}
		slices.Reverse(all)
		for n := range k {
			few(t, k, all[:n])
			lacking(t, k, all[:n], below(k-n)...)
		}
		firstIs(t, k, all, k)
		newAre(t, k, all, below(k)...)
		lacking(t, k, all)
		// More than enough change nothing.
		firstIs(t, k, append(all, all...), k)
		newAre(t, k, append(all, all...), below(k)...)
		lacking(t, k, append(all, all...))
	}
}

// TestMade: what those ahead make is not new, whatever its seed.
func TestMade(t *testing.T) {
	a, b, c := seedOf(t, 4, 0, 0, 1), seedOf(t, 4, 0, 1, 3), seedOf(t, 4, 0, 0, 3)
	for _, l := range [][]int{{a, b, c}, {a, c, b}, {b, a, c}, {b, c, a}, {c, a, b}, {c, b, a}} {
		newAre(t, 4, l, 0, 1)
		few(t, 4, l)
		// Block 0 makes 1 and 3 known, and of 2 nothing was heard.
		lacking(t, 4, l, 0, 2)
		newAre(t, 4, append(l, 3, 3, 2, 1), 0, 1, 3, 5)
		firstIs(t, 4, append(l, 3, 3, 2, 1), 6)
		lacking(t, 4, append(l, 3, 3), 0)
		lacking(t, 4, append(l, 1), 2)
	}
	newAre(t, 4, []int{a, a, seedOf(t, 4, 1, 0, 1), b}, 0, 3)
	lacking(t, 4, []int{seedOf(t, 4, 0, 0, 1, 2)}, 0, 1, 3)
	lacking(t, 4, []int{seedOf(t, 4, 0, 0, 1, 2), 1}, 1, 3)
	lacking(t, 4, []int{seedOf(t, 4, 0, 0, 1, 2), 1, a}, 3)
}

// TestFull: of MaxDrops that are not enough it is told what lacks, too.
func TestFull(t *testing.T) {
	for k := 1; k <= api.MaxBlocks; k++ {
		full := slices.Repeat([]int{k}, api.MaxDrops)
		newAre(t, k, full, 0)
		lacking(t, k, full, below(k-1)...)
		if k > 1 {
			few(t, k, full)
		} else {
			firstIs(t, k, full, 1)
		}
		// Just the last ones make it enough.
		for block := range k - 1 {
			full[api.MaxDrops-1-block] = block + 1
		}
		if k > 1 {
			firstIs(t, k, full, api.MaxDrops)
		}
		lacking(t, k, full)
	}
}

// asked of seeds: the three answers, each reckoned from the rank by the words of the promise.
type asked struct {
	first      int
	new, lacks []int
}

// reckon them; first is 0 where all are not enough.
func reckon(t *testing.T, k int, seeds []int) (out asked) {
	t.Helper()
	for n := range seeds {
		if rank(t, k, seeds[:n+1]) > rank(t, k, seeds[:n]) {
			out.new = append(out.new, n)
		}
		if out.first == 0 && rank(t, k, seeds[:n+1]) == k {
			out.first = n + 1
		}
	}
	out.lacks = least(t, k, seeds)
	return out
}

// least of all lists of so many blocks as the rank is short of that make it k.
func least(t *testing.T, k int, seeds []int) []int {
	t.Helper()
	short := k - rank(t, k, seeds)
	for _, list := range lists(k, short) {
		if rank(t, k, append(slices.Clone(seeds), alone(list...)...)) == k {
			return list
		}
	}
	t.Fatalf("no %d of %d blocks make %v enough", short, k, seeds)
	return nil
}

// lists of so many of k blocks, each rising, the least one first.
func lists(k, many int) [][]int {
	out := [][]int{nil}
	for range many {
		var longer [][]int
		for _, l := range out {
			from := 0
			if len(l) > 0 {
				from = l[len(l)-1] + 1
			}
			for block := from; block < k; block++ {
				longer = append(longer, append(slices.Clone(l), block))
			}
		}
		out = longer
	}
	return out
}

// TestAgainstReckoning: any seeds, some enough and some not.
func TestAgainstReckoning(t *testing.T) {
	fall := dice(1)
	for k := 1; k <= 9; k++ {
		enough, not := 0, 0
		for range 60 {
			seeds := fall.seeds(fall.below(3*k+1), []int{3 * k, 100, api.MaxSeed}[fall.below(3)])
			want := reckon(t, k, seeds)
			newAre(t, k, seeds, want.new...)
			lacking(t, k, seeds, want.lacks...)
			if want.first == 0 {
				not++
				few(t, k, seeds)
			} else {
				enough++
				firstIs(t, k, seeds, want.first)
			}
		}
		if enough == 0 || not == 0 {
			t.Errorf("of %d blocks: %d were enough and %d not: the test asks too little", k, enough, not)
		}
	}
}

// greedy: block by block from the first on, each that raises the rank.
func greedy(t *testing.T, k int, seeds []int) (out []int) {
	t.Helper()
	seeds = slices.Clone(seeds)
	for block := range k {
		more := append(seeds, block+1)
		if rank(t, k, more) > rank(t, k, seeds) {
			out, seeds = append(out, block), more
		}
	}
	return out
}

// TestAgainstRanks: of many blocks, with what the three tell held against each other.
func TestAgainstRanks(t *testing.T) {
	fall := dice(2)
	for k := 10; k <= api.MaxBlocks; k++ {
		for range 40 {
			seeds := fall.seeds(fall.below(api.MaxDrops-k+1), []int{3 * k, 100, api.MaxSeed}[fall.below(3)])
			places, err := need.New(k, seeds)
			if err != nil || len(places) != rank(t, k, seeds) {
				t.Fatalf("New(%d, %v): %v, %v", k, seeds, places, err)
			}
			want := greedy(t, k, seeds)
			lacking(t, k, seeds, want...)
			if len(places)+len(want) != k {
				t.Errorf("of %d blocks %v: %d are new and %d lack", k, seeds, len(places), len(want))
			}
			if len(want) == 0 {
				firstIs(t, k, seeds, places[k-1]+1)
				few(t, k, seeds[:places[k-1]])
			} else {
				few(t, k, seeds)
				firstIs(t, k, append(slices.Clone(seeds), alone(want...)...), len(seeds)+len(want))
			}
		}
	}
}

func TestErrors(t *testing.T) {
	full, more := slices.Repeat([]int{1}, api.MaxDrops), slices.Repeat([]int{1}, api.MaxDrops+1)
	for _, k := range []int{0, -1, api.MaxBlocks + 1, 1<<32 + 1, math.MaxInt, math.MinInt} {
		for _, seeds := range [][]int{nil, {}, {1}, {0}, full} {
			refuse(t, k, seeds, api.ErrRange)
		}
		// That they are too many is told ahead of everything.
		refuse(t, k, more, api.ErrFull)
	}
	for _, seed := range []int{0, -1, api.MaxSeed + 1, 1<<32 + 1, math.MaxInt, math.MinInt} {
		for k := 1; k <= api.MaxBlocks; k++ {
			refuse(t, k, []int{seed}, api.ErrRange)
			refuse(t, k, []int{seed, 1}, api.ErrRange)
			// It is told though those ahead of it are enough.
			refuse(t, k, append(alone(below(k)...), seed), api.ErrRange)
			refuse(t, k, append(slices.Clone(more), seed), api.ErrFull)
		}
	}
	refuse(t, 1, more, api.ErrFull)
	refuse(t, 3, make([]int, 10_000), api.ErrFull)
	firstIs(t, 1, full, 1)
	newAre(t, 3, full, 0)
	lacking(t, 3, full, 1, 2)
	lacking(t, 3, []int{api.MaxSeed, 1, 2, 3})
}

// TestArgumentsStay: what is handed in is as it was, also behind its length.
func TestArgumentsStay(t *testing.T) {
	seeds := []int{4, 4, 77, 1, -5, 99_999, 0, 0}
	was := slices.Clone(seeds)
	want := reckon(t, 5, was[:4:4])
	few(t, 5, seeds[:4])
	newAre(t, 5, seeds[:4], want.new...)
	lacking(t, 5, seeds[:4], want.lacks...)
	if !slices.Equal(seeds, was) {
		t.Errorf("the seeds were written into: %v", seeds)
	}
}

// TestAnswersAreFresh: no answer shares memory with another one or with the seeds.
func TestAnswersAreFresh(t *testing.T) {
	seeds := []int{1, 2, 3}
	for _, ask := range []func(int, []int) ([]int, error){need.New, need.Lacks} {
		first, _ := ask(6, seeds)
		second, _ := ask(6, seeds)
		was := slices.Clone(second)
		for i := range first[:cap(first)] {
			first[:cap(first)][i] = -1
		}
		if !slices.Equal(second, was) || !slices.Equal(seeds, []int{1, 2, 3}) {
			t.Errorf("answers share memory: %v, of %v", second, seeds)
		}
	}
	newAre(t, 6, seeds, 0, 1, 2)
	lacking(t, 6, seeds, 3, 4, 5)
}
