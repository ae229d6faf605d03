package drop_test

import (
	"math"
	"math/big"
	"slices"
	"strings"
	"testing"
	"unsafe"

	"dropletmill/api"
	"dropletmill/drop"
	"dropletmill/plain"
)

// wrongSeeds has seeds that are none, among them such as wrap round to one.
var wrongSeeds = []int{0, -1, -5, api.MaxSeed + 1, api.MaxSeed + 2, api.Modulo, api.Modulo + 1, 1<<32 + 1, 1 << 62, math.MaxInt, math.MinInt}

// wrongCounts has numbers of blocks that are none.
var wrongCounts = []int{0, -1, -16, api.MaxBlocks + 1, api.MaxSeed, 1<<32 + 1, 1 << 62, math.MaxInt, math.MinInt}

// equal: so many different blocks of so many bytes.
func equal(many, size int) []string {
	l := make([]string, many)
	for i := range l {
		b := make([]byte, size)
		for j := range b {
			b[j] = byte(i*53 + j*29 + i*i*j + 1)
		}
		l[i] = string(b)
	}
	return l
}

// after a number: the next one, by numbers without bounds.
func after(n int64) int64 {
	v := new(big.Int).Mul(big.NewInt(16807), big.NewInt(n))
	return v.Mod(v, big.NewInt(1<<31-1)).Int64()
}

// reckoned: the set of a seed, word by word as the promise has it, as a mask of places.
func reckoned(k, seed int) (set uint) {
	if seed <= k {
		return 1 << (seed - 1)
	}
	n := after(int64(seed))
	many := shareOf(k, int(n%1000))
	for there := 0; there < many; {
		n = after(n)
		if bit := uint(1) << (n % int64(k)); set&bit == 0 {
			set |= bit
			there++
		}
	}
	return set
}

// shareOf: of how many blocks.
func shareOf(k, n int) int {
	if n*k < 1000 {
		return 1
	}
	d := 2
	for n*k*d >= 1000*(d+k*(d-1)) {
		d++
	}
	return d
}

// mask of places that rise, or false.
func mask(k int, l []int) (set uint, ok bool) {
	last := -1
	for _, place := range l {
		if place <= last || place >= k {
			return 0, false
		}
		last = place
		set |= 1 << place
	}
	return set, true
}

func TestSet(t *testing.T) {
	for _, c := range []struct {
		k, seed int
		want    []int
	}{
		{1, 1, []int{0}},
		{1, 2, []int{0}},
		{1, api.MaxSeed, []int{0}},
		{2, 1, []int{0}},
		{2, 2, []int{1}},
		{16, 1, []int{0}},
		{16, 16, []int{15}},
		{5, 59, []int{2, 4}},
		{5, 24, []int{0, 1}},
		{6, 4613, []int{1, 2, 5}},
		// 3 has 50421, so 421 of 1000, a share of 1 of 2 blocks; then 847425747, which is odd.
		{2, 3, []int{1}},
	} {
		got, err := drop.Set(c.k, c.seed)
		if !slices.Equal(got, c.want) || err != nil {
			t.Errorf("Set(%d, %d): %v, %v; want %v", c.k, c.seed, got, err, c.want)
		}
	}
}

// TestFirstSeeds: a seed up to k is of the one block at seed less 1; the seed behind is not.
func TestFirstSeeds(t *testing.T) {
	for k := 1; k <= api.MaxBlocks; k++ {
		for seed := 1; seed <= k; seed++ {
			got, err := drop.Set(k, seed)
			if !slices.Equal(got, []int{seed - 1}) || err != nil {
				t.Errorf("Set(%d, %d): %v, %v", k, seed, got, err)
			}
		}
		got, err := drop.Set(k, k+1)
		if set, ok := mask(k, got); !ok || set != reckoned(k, k+1) || err != nil {
			t.Errorf("Set(%d, %d): %v, %v", k, k+1, got, err)
		}
	}
}

// TestEverySet: at every k and seed, against a reckoning of the test's own.
func TestEverySet(t *testing.T) {
	for k := 1; k <= api.MaxBlocks; k++ {
		degrees := make(map[int]int)
		for seed := 1; seed <= api.MaxSeed; seed++ {
			got, err := drop.Set(k, seed)
			set, ok := mask(k, got)
			if err != nil || !ok || set != reckoned(k, seed) {
				t.Fatalf("Set(%d, %d): %v, %v; want places %b", k, seed, got, err, reckoned(k, seed))
			}
			degrees[len(got)]++
		}
		if len(degrees) != k {
			t.Errorf("of %d blocks only %d degrees are there", k, len(degrees))
		}
	}
}

func TestSetErrors(t *testing.T) {
	for _, k := range wrongCounts {
		for _, seed := range append([]int{1, 16, 17, api.MaxSeed}, wrongSeeds...) {
			got, err := drop.Set(k, seed)
			if len(got) != 0 || plain.Told(err) != api.ErrRange {
				t.Errorf("Set(%d, %d): %v, %v; want ErrRange", k, seed, got, err)
			}
		}
	}
	for k := 1; k <= api.MaxBlocks; k++ {
		for _, seed := range wrongSeeds {
			got, err := drop.Set(k, seed)
			if len(got) != 0 || plain.Told(err) != api.ErrRange {
				t.Errorf("Set(%d, %d): %v, %v; want ErrRange", k, seed, got, err)
			}
		}
	}
}

func TestMake(t *testing.T) {
	six := []string{"\x01\x80", "\x02\x40", "\x04\x20", "\x08\x10", "\x10\x08", "\x20\x04"}
	for _, c := range []struct {
		l    []string
		seed int
		want string
	}{
		{six, 1, "\x01\x80"},
		{six, 6, "\x20\x04"},
		{six, 4613, "\x26\x64"},
		{six[:5], 59, "\x14\x28"},
		{six[:5], 24, "\x03\xc0"},
		{[]string{"a"}, 1, "a"},
		{[]string{"a"}, api.MaxSeed, "a"},
		{[]string{"ab", "ab", "ab", "ab", "ab"}, 24, "\x00\x00"},
	} {
		got, err := drop.Make(c.l, c.seed)
		if got != (api.Drop{Seed: c.seed, Data: c.want}) || err != nil {
			t.Errorf("Make(%q, %d): %v, %v; want %q", c.l, c.seed, got, err, c.want)
		}
	}
}

// TestEveryMake: at every number of blocks, every size and many seeds, block over block of the set; and Check finds nothing wrong with it.
func TestEveryMake(t *testing.T) {
	for k := 1; k <= api.MaxBlocks; k++ {
		for size := 1; size <= api.MaxSize; size++ {
			l := equal(k, size)
			for seed := 1; seed <= api.MaxSeed; seed += 1 + seed/20 {
				want := make([]byte, size)
				set := reckoned(k, seed)
				for i := range size * k {
					if set>>(i/size)&1 == 1 {
						want[i%size] ^= l[i/size][i%size]
					}
				}
				got, err := drop.Make(l, seed)
				if got.Seed != seed || got.Data != string(want) || err != nil {
					t.Fatalf("Make of %d blocks of %d, seed %d: %v, %v; want %q", k, size, seed, got, err, want)
				}
				if err := drop.Check(k, size, got); err != nil {
					t.Fatalf("Check of what Make made: %v", err)
				}
			}
		}
	}
}

func TestMakeErrors(t *testing.T) {
	for _, l := range [][]string{equal(1, 1), equal(3, 4), equal(api.MaxBlocks, api.MaxSize)} {
		for _, seed := range wrongSeeds {
			got, err := drop.Make(l, seed)
			if got != (api.Drop{}) || plain.Told(err) != api.ErrRange {
				t.Errorf("Make of %d blocks, seed %d: %v, %v; want ErrRange", len(l), seed, got, err)
			}
		}
		if _, err := drop.Make(l, api.MaxSeed); err != nil {
			t.Errorf("Make of %d blocks, the last seed: %v", len(l), err)
		}
	}
}

// TestMakeTellsBlocksFirst: whatever the seed is, a fault of the blocks is told ahead of it, also of a block that the set does not have.
func TestMakeTellsBlocksFirst(t *testing.T) {
	for _, c := range []struct {
		name string
		list []string
		want api.Errno
	}{
		{"nil", nil, api.ErrNone},
		{"empty", []string{}, api.ErrNone},
		{"empty with memory behind", equal(3, 2)[:0], api.ErrNone},
		{"one beyond MaxBlocks", equal(api.MaxBlocks+1, 1), api.ErrFull},
		{"too many, of no bytes", make([]string, 1000), api.ErrFull},
		{"first of no bytes", []string{"", ""}, api.ErrRange},
		{"one beyond MaxSize", equal(2, api.MaxSize+1), api.ErrRange},
		{"last shorter", []string{"abc", "def", "gh"}, api.ErrShape},
		{"last longer", []string{"abc", "def", "ghij"}, api.ErrShape},
		{"last empty", []string{"abc", ""}, api.ErrShape},
	} {
		for _, seed := range append([]int{1, 2, 3, 4, 5000, api.MaxSeed}, wrongSeeds...) {
			got, err := drop.Make(c.list, seed)
			if got != (api.Drop{}) || plain.Told(err) != c.want {
				t.Errorf("Make, %s, seed %d: %v, %v; want %v", c.name, seed, got, err, c.want)
			}
		}
	}
}

func TestCheck(t *testing.T) {
	for k := 1; k <= api.MaxBlocks; k++ {
		for size := 1; size <= api.MaxSize; size++ {
			for _, seed := range []int{1, 2, 16, 17, 9999, api.MaxSeed} {
				if err := drop.Check(k, size, api.Drop{Seed: seed, Data: strings.Repeat("x", size)}); err != nil {
					t.Errorf("Check(%d, %d) of seed %d: %v", k, size, seed, err)
				}
				for _, n := range []int{0, size - 1, size + 1, 2 * size, api.MaxData, 1 << 16} {
					err := drop.Check(k, size, api.Drop{Seed: seed, Data: strings.Repeat("x", n)})
					if plain.Told(err) != api.ErrShape {
						t.Errorf("Check(%d, %d) of %d bytes: %v; want ErrShape", k, size, n, err)
					}
				}
			}
		}
	}
}

// TestCheckErrors: each number is asked, and all of them ahead of the bytes.
func TestCheckErrors(t *testing.T) {
	wrongSizes := []int{0, -1, api.MaxSize + 1, api.MaxData, 1<<32 + 1, math.MaxInt, math.MinInt}
	ask := func(k, size, seed, n int) {
		t.Helper()
		err := drop.Check(k, size, api.Drop{Seed: seed, Data: strings.Repeat("x", n)})
		if plain.Told(err) != api.ErrRange {
			t.Errorf("Check(%d, %d) of seed %d and %d bytes: %v; want ErrRange", k, size, seed, n, err)
		}
	}
	for _, n := range []int{0, 4, 5, api.MaxSize + 1, api.MaxData} {
		for _, k := range wrongCounts {
			ask(k, 4, 1, n)
			ask(k, 0, 0, n)
		}
		for _, size := range wrongSizes {
			ask(3, size, 1, n)
			ask(3, size, 0, n)
		}
		for _, seed := range wrongSeeds {
			ask(3, 4, seed, n)
		}
	}
}

// TestSetsAreFresh: what is written into one answer is not seen in another.
func TestSetsAreFresh(t *testing.T) {
	for _, seed := range []int{2, 4613} {
		want, _ := drop.Set(6, seed)
		kept := slices.Clone(want)
		first, _ := drop.Set(6, seed)
		clear(first)
		_ = append(first, 9)
		again, _ := drop.Set(6, seed)
		if !slices.Equal(want, kept) || !slices.Equal(again, kept) {
			t.Errorf("answers share memory: %v, %v; want %v", want, again, kept)
		}
	}
}

// TestDataIsFresh: a drop of one block has a copy of it.
func TestDataIsFresh(t *testing.T) {
	l := equal(3, 8)
	for seed := 1; seed <= 3; seed++ {
		d, _ := drop.Make(l, seed)
		if d.Data != l[seed-1] {
			t.Fatalf("Make, seed %d: %q", seed, d.Data)
		}
		if unsafe.StringData(d.Data) == unsafe.StringData(l[seed-1]) {
			t.Error("an answer lies in an argument")
		}
	}
}

// TestListsStayAsTheyWere: blocks are not written into, and what lies behind them is not read.
func TestListsStayAsTheyWere(t *testing.T) {
	l := []string{"ab", "cd", "behind", ""}
	kept := slices.Clone(l)
	for seed := 1; seed <= 200; seed++ {
		got, err := drop.Make(l[:2], seed)
		want, _ := drop.Make([]string{"ab", "cd"}, seed)
		if got != want || err != nil {
			t.Fatalf("Make reads behind a list: %v, %v", got, err)
		}
	}
	if !slices.Equal(l, kept) {
		t.Errorf("a list that was handed in was written into: %q", l)
	}
}

// TestSameAgain: an answer hangs on its arguments alone, whatever was asked, or went wrong, ahead.
func TestSameAgain(t *testing.T) {
	l := []string{"ab", "cd", "ef", "gh", "ij"}
	for range 3 {
		if s, err := drop.Set(6, 4613); !slices.Equal(s, []int{1, 2, 5}) || err != nil {
			t.Fatalf("Set: %v, %v", s, err)
		}
		if d, err := drop.Make(l, 24); d != (api.Drop{Seed: 24, Data: "\x02\x06"}) || err != nil {
			t.Fatalf("Make: %v, %v", d, err)
		}
		if err := drop.Check(5, 2, api.Drop{Seed: 24, Data: "ab"}); err != nil {
			t.Fatalf("Check: %v", err)
		}
		drop.Set(17, 5)
		drop.Make(l, 0)
		drop.Check(5, 2, api.Drop{})
	}
}
