package solve_test

import (
	"math"
	"math/bits"
	"slices"
	"strings"
	"testing"
	"unsafe"

	"dropletmill/api"
	"dropletmill/drop"
	"dropletmill/plain"
	"dropletmill/solve"
)

// ranks: the rank of seeds, without an error.
func ranks(t *testing.T, k int, seeds []int, want int) {
	t.Helper()
	if got, err := solve.Rank(k, seeds); got != want || err != nil {
		t.Errorf("Rank(%d, %v): %d, %v; want %d", k, seeds, got, err, want)
	}
}

// refusesRank of seeds.
func refusesRank(t *testing.T, k int, seeds []int, want api.Errno) {
	t.Helper()
	if got, err := solve.Rank(k, seeds); got != 0 || plain.Told(err) != want {
		t.Errorf("Rank(%d, %v): %d, %v; want %v", k, seeds, got, err, want)
	}
}

// solves drops, without an error.
func solves(t *testing.T, k, size int, l []api.Drop, want ...string) {
	t.Helper()
	if got, err := solve.Solve(k, size, l); !slices.Equal(got, want) || err != nil {
		t.Errorf("Solve(%d, %d, %v): %q, %v; want %q", k, size, l, got, err, want)
	}
}

// refuses to solve drops.
func refuses(t *testing.T, k, size int, l []api.Drop, want api.Errno) {
	t.Helper()
	if got, err := solve.Solve(k, size, l); len(got) != 0 || plain.Told(err) != want {
		t.Errorf("Solve(%d, %d, %v): %q, %v; want %v", k, size, l, got, err, want)
	}
}

// seedOf the nth drop, from 0 on, of just these of k blocks.
func seedOf(t *testing.T, k, nth int, places ...int) int {
	t.Helper()
	for seed := 1; seed <= api.MaxSeed; seed++ {
		if set, _ := drop.Set(k, seed); slices.Equal(set, places) {
			if nth == 0 {
				return seed
			}
			nth--
		}
	}
	t.Fatalf("no seed of %d blocks has %v", k, places)
	return 0
}

// mask of a drop's blocks, a bit each.
func mask(t *testing.T, k, seed int) (m uint) {
	t.Helper()
	set, err := drop.Set(k, seed)
	if err != nil {
		t.Fatal(err)
	}
	for _, place := range set {
		m |= 1 << place
	}
	return m
}

// masks of all the drops.
func masks(t *testing.T, k int, seeds []int) (out []uint) {
	for _, seed := range seeds {
		out = append(out, mask(t, k, seed))
	}
	return out
}

// seedsOf drops.
func seedsOf(l []api.Drop) (out []int) {
	for _, d := range l {
		out = append(out, d.Seed)
	}
	return out
}

// dice that fall the same each time.
type dice uint64

func (d *dice) below(n int) int {
	*d = *d*6364136223846793005 + 1442695040888963407
	return int(uint64(*d) >> 33 % uint64(n))
}

func (d *dice) bytes(n int) string {
	b := make([]byte, n)
	for i := range b {
		b[i] = byte(d.below(256))
	}
	return string(b)
}

func (d *dice) seeds(many, most int) []int {
	out := make([]int, many)
	for i := range out {
		out[i] = 1 + d.below(most)
	}
	return out
}

func (d *dice) text(k, size int) []string {
	l := make([]string, k)
	for i := range l {
		l[i] = d.bytes(size)
	}
	return l
}

// shuffled things.
func shuffled[T any](d *dice, l []T) []T {
	l = slices.Clone(l)
	for i := range l {
		j := i + d.below(len(l)-i)
		l[i], l[j] = l[j], l[i]
	}
	return l
}

// made drops of blocks.
func made(t *testing.T, l []string, seeds ...int) (out []api.Drop) {
	t.Helper()
	for _, seed := range seeds {
		d, err := drop.Make(l, seed)
		if err != nil {
			t.Fatal(err)
		}
		out = append(out, d)
	}
	return out
}

func TestRank(t *testing.T) {
	for k := 1; k <= api.MaxBlocks; k++ {
		ranks(t, k, nil, 0)
		ranks(t, k, []int{}, 0)
		ranks(t, k, []int{api.MaxSeed}, 1)
		ranks(t, k, []int{1, 1, 1}, 1)
		var all []int
		for seed := 1; seed <= k; seed++ {
			all = append(all, seed)
			ranks(t, k, all, seed)
		}
		for seed := k + 1; len(all) < api.MaxDrops; seed++ {
			all = append(all, seed)
		}
		ranks(t, k, all, k)
	}
}

// TestRankOfThree: of three, any two of which make the third, two count, in whatever order.
func TestRankOfThree(t *testing.T) {
	a, b, c := seedOf(t, 4, 0, 0, 1), seedOf(t, 4, 0, 1, 3), seedOf(t, 4, 0, 0, 3)
	for _, l := range [][]int{{a, b, c}, {a, c, b}, {b, a, c}, {b, c, a}, {c, a, b}, {c, b, a}} {
		ranks(t, 4, l, 2)
		ranks(t, 4, append(l, seedOf(t, 4, 0, 2)), 3)
		ranks(t, 4, append(l, seedOf(t, 4, 0, 0, 1, 2)), 3)
		ranks(t, 4, append(l, 1, 2, 3), 4)
	}
	// Two seeds of the same set are as one.
	ranks(t, 4, []int{a, seedOf(t, 4, 1, 0, 1)}, 1)
}

// free: none of these is what some of the others, one over the other, make.
func free(sets []uint) bool {
	for i := range sets {
		others := slices.Delete(slices.Clone(sets), i, i+1)
		for pick := range 1 << len(others) {
			if over(others, pick) == sets[i] {
				return false
			}
		}
	}
	return true
}

// over: those that are picked, one over the other.
func over(sets []uint, pick int) (m uint) {
	for i, set := range sets {
		if pick>>i&1 == 1 {
			m ^= set
		}
	}
	return m
}

// most that are free, of all ways to pick some.
func most(sets []uint) (best int) {
	for pick := range 1 << len(sets) {
		var some []uint
		for i, set := range sets {
			if pick>>i&1 == 1 {
				some = append(some, set)
			}
		}
		if len(some) > best && free(some) {
			best = len(some)
		}
	}
	return best
}

// TestRankByItsWords: of few seeds, as the promise says it.
func TestRankByItsWords(t *testing.T) {
	fall := dice(1)
	for k := 1; k <= api.MaxBlocks; k++ {
		for many := range 7 {
			for range 8 {
				seeds := fall.seeds(many, []int{k, 3 * k, 100, api.MaxSeed}[fall.below(4)])
				ranks(t, k, seeds, most(masks(t, k, seeds)))
			}
		}
	}
}

// spanned: of how many bits the number is of all that sets make, one over the other.
func spanned(sets []uint) int {
	made := []uint{0}
	there := map[uint]bool{0: true}
	for _, set := range sets {
		if there[set] {
			continue
		}
		for _, m := range slices.Clone(made) {
			there[m^set] = true
			made = append(made, m^set)
		}
	}
	return bits.Len(uint(len(made))) - 1
}

// TestRankAgainstSpan: of many seeds, too, and in whatever order.
func TestRankAgainstSpan(t *testing.T) {
	fall := dice(2)
	for k := 1; k <= api.MaxBlocks; k++ {
		for range 12 {
			seeds := fall.seeds(fall.below(api.MaxDrops+1), []int{3 * k, 100, api.MaxSeed}[fall.below(3)])
			want := spanned(masks(t, k, seeds))
			ranks(t, k, seeds, want)
			ranks(t, k, shuffled(&fall, seeds), want)
			few := seeds[:min(len(seeds), fall.below(k+2))]
			ranks(t, k, few, spanned(masks(t, k, few)))
		}
	}
}

func TestRankErrors(t *testing.T) {
	full, more := make([]int, api.MaxDrops), make([]int, api.MaxDrops+1)
	for i := range more {
		more[i] = 1
	}
	copy(full, more)
	for _, k := range []int{0, -1, api.MaxBlocks + 1, 1<<32 + 1, math.MaxInt, math.MinInt} {
		refusesRank(t, k, nil, api.ErrRange)
		refusesRank(t, k, []int{1}, api.ErrRange)
		refusesRank(t, k, []int{0}, api.ErrRange)
		refusesRank(t, k, full, api.ErrRange)
		// That they are too many is told ahead of everything.
		refusesRank(t, k, more, api.ErrFull)
	}
	for _, seed := range []int{0, -1, api.MaxSeed + 1, 1<<32 + 1, math.MaxInt, math.MinInt} {
		for k := 1; k <= api.MaxBlocks; k++ {
			refusesRank(t, k, []int{seed}, api.ErrRange)
			refusesRank(t, k, []int{seed, 1}, api.ErrRange)
			refusesRank(t, k, []int{1, 2, api.MaxSeed, seed}, api.ErrRange)
			refusesRank(t, k, append(slices.Clone(more), seed), api.ErrFull)
		}
	}
	ranks(t, 3, full, 1)
	refusesRank(t, 3, more, api.ErrFull)
	refusesRank(t, 3, make([]int, 10_000), api.ErrFull)
}

func TestSolve(t *testing.T) {
	l := []string{"ab", "cd", "\x00\xff", "ef"}
	solves(t, 4, 2, made(t, l, 1, 2, 3, 4), l...)
	solves(t, 4, 2, made(t, l, 4, 3, 2, 1), l...)
	// One by one nothing would be found: each is of more than one.
	solves(t, 4, 2, made(t, l,
		seedOf(t, 4, 0, 0, 1), seedOf(t, 4, 0, 1, 2), seedOf(t, 4, 0, 0, 1, 2), seedOf(t, 4, 0, 2, 3)), l...)
	// The same again and again, and more than are needed.
	solves(t, 4, 2, made(t, l, 1, 1, 77, 2, 2, 78, 3, 4, 79, 4, 77, api.MaxSeed), l...)
	solves(t, 1, 1, made(t, []string{"z"}, api.MaxSeed), "z")
	solves(t, 2, 1, []api.Drop{{Seed: 1, Data: "\x00"}, {Seed: 2, Data: "\x00"}}, "\x00", "\x00")
}

// TestEnoughIsEnough: of any drops of a text whose rank is as many as there are blocks these come back; of others there are too few.
func TestEnoughIsEnough(t *testing.T) {
	fall := dice(3)
	for k := 1; k <= api.MaxBlocks; k++ {
		enough, few := 0, 0
		for range 60 {
			l := fall.text(k, 1+fall.below(api.MaxSize))
			seeds := fall.seeds(fall.below(min(3*k, api.MaxDrops)+1), []int{3 * k, 100, api.MaxSeed}[fall.below(3)])
			drops := made(t, l, seeds...)
			if spanned(masks(t, k, seeds)) == k {
				enough++
				solves(t, k, len(l[0]), drops, l...)
				solves(t, k, len(l[0]), shuffled(&fall, drops), l...)
			} else {
				few++
				refuses(t, k, len(l[0]), drops, api.ErrFew)
			}
		}
		if enough == 0 || few == 0 {
			t.Errorf("of %d blocks: %d were enough and %d not: the test asks too little", k, enough, few)
		}
	}
}

// TestFull: MaxDrops may be, and no more.
func TestFull(t *testing.T) {
	for k := 1; k <= api.MaxBlocks; k++ {
		fall := dice(k)
		l := fall.text(k, api.MaxSize)
		var seeds []int
		for seed := 1; len(seeds) < api.MaxDrops; seed++ {
			seeds = append(seeds, seed)
		}
		solves(t, k, api.MaxSize, made(t, l, seeds...), l...)
		refuses(t, k, api.MaxSize, made(t, l, append(seeds, 1)...), api.ErrFull)
	}
}

// TestClash: drops that speak against each other, by one bit of one byte alone, whether there are enough or not.
func TestClash(t *testing.T) {
	a, b, c := seedOf(t, 4, 0, 0, 1), seedOf(t, 4, 0, 1, 3), seedOf(t, 4, 0, 0, 3)
	for _, size := range []int{1, 3, api.MaxSize} {
		l := make([]string, 4)
		for i := range l {
			l[i] = strings.Repeat(string(rune('a'+i)), size)
		}
		for _, seeds := range [][]int{{1, 1}, {1, seedOf(t, 4, 1, 0)}, {a, b, c}, {4, 1, c}, {1, 2, 3, 4, a}, {a, b, 1, 2, 3, 4, c}} {
			for at := range size {
				for bit := range 8 {
					drops := made(t, l, seeds...)
					data := []byte(drops[len(drops)-1].Data)
					data[at] ^= 1 << bit
					drops[len(drops)-1].Data = string(data)
					refuses(t, 4, size, drops, api.ErrClash)
					slices.Reverse(drops)
					refuses(t, 4, size, drops, api.ErrClash)
				}
			}
		}
	}
}

// TestClashAheadOfFew: what does not go together is told, though there are too few anyway; also where it comes late.
func TestClashAheadOfFew(t *testing.T) {
	refuses(t, 5, 1, []api.Drop{{Seed: 1, Data: "a"}, {Seed: 1, Data: "b"}}, api.ErrClash)
	refuses(t, 5, 1, []api.Drop{{Seed: 1, Data: "a"}, {Seed: 1, Data: "a"}}, api.ErrFew)
	refuses(t, 5, 1, []api.Drop{{Seed: 1, Data: "a"}, {Seed: 2, Data: "b"}, {Seed: 3, Data: "c"}, {Seed: 2, Data: "c"}, {Seed: 1, Data: "a"}}, api.ErrClash)
}

// parity: whether the bits are odd.
func parity(m uint) uint { return uint(bits.OnesCount(m)) & 1 }

// plane: of one bit of the blocks, all that it may be, in each block a bit.
func plane(k int, sets []uint, l []api.Drop, at, bit int) (may []uint) {
	for x := range uint(1) << k {
		right := true
		for i, d := range l {
			right = right && parity(x&sets[i]) == uint(d.Data[at])>>bit&1
		}
		if right {
			may = append(may, x)
		}
	}
	return may
}

// reckon the promise word by word: all blocks that may be are tried, bit by bit.
func reckon(t *testing.T, k, size int, l []api.Drop) ([]string, api.Errno) {
	t.Helper()
	sets := masks(t, k, seedsOf(l))
	several := false
	out := make([][]byte, k)
	for i := range out {
		out[i] = make([]byte, size)
	}
	for at := range size {
		for bit := range 8 {
			may := plane(k, sets, l, at, bit)
			if len(may) == 0 {
				return nil, api.ErrClash
			}
			several = several || len(may) > 1
			for i := range out {
				out[i][at] |= byte(may[0]>>i&1) << bit
			}
		}
	}
	if several {
		return nil, api.ErrFew
	}
	var blocks []string
	for _, b := range out {
		blocks = append(blocks, string(b))
	}
	return blocks, api.OK
}

// TestAgainstReckoning: any drops, that need not go together.
func TestAgainstReckoning(t *testing.T) {
	fall := dice(4)
	times := map[api.Errno]int{}
	for k := 1; k <= 8; k++ {
		for range 80 {
			size := 1 + fall.below(3)
			drops := made(t, fall.text(k, size), fall.seeds(fall.below(2*k+3), []int{2 * k, 100, api.MaxSeed}[fall.below(3)])...)
			for i := range drops {
				if fall.below(6*k) == 0 {
					drops[i].Data = fall.bytes(size)
				}
			}
			want, errno := reckon(t, k, size, drops)
			times[errno]++
			if errno == api.OK {
				solves(t, k, size, drops, want...)
			} else {
				refuses(t, k, size, drops, errno)
			}
		}
	}
	for _, errno := range []api.Errno{api.OK, api.ErrClash, api.ErrFew} {
		if times[errno] < 50 {
			t.Errorf("%v came %d times: the test asks too little", errno, times[errno])
		}
	}
}

func TestSolveErrors(t *testing.T) {
	good := []api.Drop{{Seed: 1, Data: "ab"}, {Seed: 2, Data: "cd"}, {Seed: 3, Data: "ef"}}
	more := make([]api.Drop, api.MaxDrops+1)
	full := slices.Repeat(good[:1], api.MaxDrops)
	for _, n := range []int{0, -1, api.MaxBlocks + 1, 1<<32 + 1, math.MaxInt, math.MinInt} {
		for _, l := range [][]api.Drop{nil, {}, good, full, {{Seed: 1, Data: ""}}} {
			refuses(t, n, 2, l, api.ErrRange)
			refuses(t, 3, n, l, api.ErrRange)
			refuses(t, n, n, l, api.ErrRange)
		}
		refuses(t, n, 2, more, api.ErrFull)
		refuses(t, 3, n, more, api.ErrFull)
	}
	refuses(t, 3, api.MaxSize+1, nil, api.ErrRange)
	refuses(t, 3, api.MaxSize+1, []api.Drop{{Seed: 1, Data: strings.Repeat("a", api.MaxSize+1)}}, api.ErrRange)
	refuses(t, 3, 2, more, api.ErrFull)
	refuses(t, 3, 2, full, api.ErrFew)
	for k := 1; k <= api.MaxBlocks; k++ {
		refuses(t, k, 1, nil, api.ErrFew)
		refuses(t, k, api.MaxSize, []api.Drop{}, api.ErrFew)
	}
	solves(t, 3, 2, good, "ab", "cd", "ef")
}

// TestFirstFaultIsTold: of several drops with a fault the first one's, and ahead of that drops clash, or are few.
func TestFirstFaultIsTold(t *testing.T) {
	one, against := api.Drop{Seed: 1, Data: "ab"}, api.Drop{Seed: 1, Data: "zz"}
	for _, seed := range []int{0, -1, api.MaxSeed + 1, math.MaxInt, math.MinInt} {
		for _, data := range []string{"", "a", "abc", strings.Repeat("a", api.MaxData+1)} {
			seedless, dataless := api.Drop{Seed: seed, Data: "ab"}, api.Drop{Seed: 1, Data: data}
			both := api.Drop{Seed: seed, Data: data}
			for _, k := range []int{1, 3} {
				refuses(t, k, 2, []api.Drop{seedless, dataless}, api.ErrRange)
				refuses(t, k, 2, []api.Drop{dataless, seedless}, api.ErrShape)
				refuses(t, k, 2, []api.Drop{both, dataless}, api.ErrRange)
				refuses(t, k, 2, []api.Drop{one, one, dataless, seedless}, api.ErrShape)
				refuses(t, k, 2, []api.Drop{one, against, dataless, seedless}, api.ErrShape)
				refuses(t, k, 2, []api.Drop{one, against, seedless, dataless}, api.ErrRange)
				refuses(t, k, 2, append(slices.Repeat([]api.Drop{one}, api.MaxDrops), seedless), api.ErrFull)
			}
		}
	}
}

// TestArgumentsStay: what is handed in is as it was, also behind its length.
func TestArgumentsStay(t *testing.T) {
	seeds := []int{9, 4, 4, 77, 1, -5, 99_999}
	was := slices.Clone(seeds)
	ranks(t, 5, seeds[:5], spanned(masks(t, 5, seeds[:5])))
	if !slices.Equal(seeds, was) {
		t.Errorf("Rank wrote into its seeds: %v", seeds)
	}
	l := []string{"ab", "cd", "ef"}
	drops := append(made(t, l, 3, 55, 2, 56, 1, 57), api.Drop{Seed: -1, Data: "x"})
	before := slices.Clone(drops)
	solves(t, 3, 2, drops[:6], l...)
	if !slices.Equal(drops, before) {
		t.Errorf("Solve wrote into its drops: %v", drops)
	}
}

// TestAnswersAreFresh: blocks share memory with no drop and with no other block.
func TestAnswersAreFresh(t *testing.T) {
	data := strings.Repeat("ab", 4)
	drops := []api.Drop{{Seed: 1, Data: data}, {Seed: 2, Data: data}, {Seed: 3, Data: data}}
	first, _ := solve.Solve(3, 8, drops)
	second, _ := solve.Solve(3, 8, drops)
	seen := []*byte{unsafe.StringData(data)}
	for _, b := range append(first, second...) {
		if b != data {
			t.Errorf("a block is %q", b)
		}
		if slices.Contains(seen, unsafe.StringData(b)) {
			t.Error("a block shares memory with a drop, or with another one")
		}
		seen = append(seen, unsafe.StringData(b))
	}
	if len(seen) != 7 {
		t.Errorf("%d blocks in two answers", len(seen)-1)
	}
	first[0] = "?"
	_ = append(first[:1], "?")
	if !slices.Equal(second, []string{data, data, data}) {
		t.Errorf("two answers share memory: %q", second)
	}
}
