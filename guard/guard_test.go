package guard_test

import (
	"math"
	"slices"
	"strings"
	"testing"
	"unsafe"

	"dropletmill/api"
	"dropletmill/guard"
	"dropletmill/plain"
)

// adds: Add answers these, without an error.
func adds(t *testing.T, l []string, each int, want ...string) {
	t.Helper()
	if got, err := guard.Add(l, each); !slices.Equal(got, want) || err != nil {
		t.Errorf("Add(%q, %d): %q, %v; want %q", l, each, got, err, want)
	}
}

// heals: Heal answers these, without an error.
func heals(t *testing.T, l []string, lacks []bool, each int, want ...string) {
	t.Helper()
	if got, err := guard.Heal(l, lacks, each); !slices.Equal(got, want) || err != nil {
		t.Errorf("Heal(%q, %v, %d): %q, %v; want %q", l, lacks, each, got, err, want)
	}
}

// addRefuses: Add answers the error, and nothing else.
func addRefuses(t *testing.T, l []string, each int, want api.Errno) {
	t.Helper()
	if got, err := guard.Add(l, each); len(got) != 0 || plain.Told(err) != want {
		t.Errorf("Add(%q, %d): %q, %v; want %v", l, each, got, err, want)
	}
}

// healRefuses: Heal answers the error, and nothing else.
func healRefuses(t *testing.T, l []string, lacks []bool, each int, want api.Errno) {
	t.Helper()
	if got, err := guard.Heal(l, lacks, each); len(got) != 0 || plain.Told(err) != want {
		t.Errorf("Heal(%q, %v, %d): %q, %v; want %v", l, lacks, each, got, err, want)
	}
}

// over: texts that are as long, byte by byte one over the other.
func over(l ...string) string {
	out := make([]byte, len(l[0]))
	for _, s := range l {
		for i := range out {
			out[i] ^= s[i]
		}
	}
	return string(out)
}

// cut blocks into groups of each so many.
func cut(l []string, each int) [][]string { return slices.Collect(slices.Chunk(l, each)) }

// guarded blocks, by the words of the promise.
func guarded(l []string, each int) []string {
	out := slices.Clone(l)
	for _, group := range cut(l, each) {
		out = append(out, over(group...))
	}
	return out
}

// groupOf a place, where so many blocks stand ahead of those behind.
func groupOf(place, many, each int) int {
	if place < many {
		return place / each
	}
	return place - many
}

// flags: of so many these places lack.
func flags(many int, places ...int) []bool {
	out := make([]bool, many)
	for _, place := range places {
		out[place] = true
	}
	return out
}

// dice that fall the same each time.
type dice uint64

func (d *dice) below(n int) int {
	*d = *d*6364136223846793005 + 1442695040888963407
	return int(uint64(*d) >> 33 % uint64(n))
}

func (d *dice) block(size int) string {
	out := make([]byte, size)
	for i := range out {
		out[i] = byte(d.below(256))
	}
	return string(out)
}

func (d *dice) blocks(many, size int) []string {
	out := make([]string, many)
	for i := range out {
		out[i] = d.block(size)
	}
	return out
}

// other block than this one, as long.
func (d *dice) other(b string) string {
	for {
		if o := d.block(len(b)); o != b {
			return o
		}
	}
}

// TestGroups: one behind the other, the last of fewer, each one's Xor behind all blocks.
func TestGroups(t *testing.T) {
	l := []string{"\x01\x10", "\x02\x20", "\x04\x40", "\x08\x80", "\x11\x01"}
	adds(t, l, 1, append(slices.Clone(l), l...)...)
	adds(t, l, 2, append(slices.Clone(l), "\x03\x30", "\x0c\xc0", "\x11\x01")...)
	adds(t, l, 3, append(slices.Clone(l), "\x07\x70", "\x19\x81")...)
	adds(t, l, 4, append(slices.Clone(l), "\x0f\xf0", "\x11\x01")...)
	adds(t, l, 5, append(slices.Clone(l), "\x1e\xf1")...)
	adds(t, l, 6, append(slices.Clone(l), "\x1e\xf1")...)
	adds(t, l, api.MaxBlocks, append(slices.Clone(l), "\x1e\xf1")...)
	adds(t, []string{"a"}, 1, "a", "a")
	adds(t, []string{"\x00", "\x00"}, 2, "\x00", "\x00", "\x00")
}

// TestAddAll: every number of blocks with every size of a group; what would be too many is told.
func TestAddAll(t *testing.T) {
	fall := dice(1)
	for many := 1; many <= api.MaxBlocks; many++ {
		for each := 1; each <= api.MaxBlocks; each++ {
			for size := 1; size <= api.MaxSize; size++ {
				l := fall.blocks(many, size)
				if want := guarded(l, each); len(want) <= api.MaxBlocks {
					adds(t, l, each, want...)
				} else {
					addRefuses(t, l, each, api.ErrFull)
				}
			}
		}
	}
}

// TestMost: just MaxBlocks with those behind, and one more.
func TestMost(t *testing.T) {
	fall := dice(2)
	l := fall.blocks(api.MaxBlocks, 3)
	adds(t, l[:8], 1, guarded(l[:8], 1)...)
	addRefuses(t, l[:9], 1, api.ErrFull)
	adds(t, l[:12], 3, guarded(l[:12], 3)...)
	addRefuses(t, l[:13], 3, api.ErrFull)
	adds(t, l[:15], 15, guarded(l[:15], 15)...)
	addRefuses(t, l[:15], 14, api.ErrFull)
	addRefuses(t, l, 16, api.ErrFull)
}

// TestHealEveryOne: whichever lacks, or none, the blocks come back; what stands where one lacks does not matter.
func TestHealEveryOne(t *testing.T) {
	fall := dice(3)
	for many := 1; many <= api.MaxBlocks; many++ {
		for each := 1; each <= api.MaxBlocks; each++ {
			l := fall.blocks(many, 1+fall.below(api.MaxSize))
			all := guarded(l, each)
			if len(all) > api.MaxBlocks {
				continue
			}
			heals(t, all, flags(len(all)), each, l...)
			for place := range all {
				heals(t, all, flags(len(all), place), each, l...)
				spoilt := slices.Clone(all)
				spoilt[place] = fall.other(all[place])
				heals(t, spoilt, flags(len(all), place), each, l...)
				healRefuses(t, spoilt, flags(len(all)), each, api.ErrClash)
			}
		}
	}
}

// TestHealOneOfEach: of every group one lacks at once.
func TestHealOneOfEach(t *testing.T) {
	fall := dice(4)
	for many := 1; many <= api.MaxBlocks; many++ {
		for each := 1; each <= api.MaxBlocks; each++ {
			l := fall.blocks(many, 1+fall.below(api.MaxSize))
			all := guarded(l, each)
			if len(all) > api.MaxBlocks {
				continue
			}
			for range 5 {
				lacks, spoilt := flags(len(all)), slices.Clone(all)
				for n, group := range cut(l, each) {
					place := many + n
					if in := fall.below(len(group) + 1); in < len(group) {
						place = n*each + in
					}
					lacks[place], spoilt[place] = true, fall.other(all[place])
				}
				heals(t, spoilt, lacks, each, l...)
			}
		}
	}
}

// verdict on a list, group by group, by the words of the promise: what is first.
func verdict(l []string, lacks []bool, many, each int) api.Errno {
	for n := range cut(l[:many], each) {
		gone, all := 0, []string(nil)
		for place := range l {
			if groupOf(place, many, each) != n {
				continue
			}
			all = append(all, l[place])
			if lacks[place] {
				gone++
			}
		}
		if gone > 1 {
			return api.ErrFew
		}
		if gone == 0 && strings.Trim(over(all...), "\x00") != "" {
			return api.ErrClash
		}
	}
	return api.OK
}

// TestHealAny: some lack and some are wrong, in whatever group.
func TestHealAny(t *testing.T) {
	fall := dice(5)
	seen := map[api.Errno]int{}
	for range 4000 {
		many, each := 1+fall.below(12), 1+fall.below(5)
		l := fall.blocks(many, 1+fall.below(3))
		all := guarded(l, each)
		if len(all) > api.MaxBlocks {
			continue
		}
		lacks := flags(len(all))
		for range fall.below(4) {
			place := fall.below(len(all))
			lacks[place], all[place] = true, fall.block(len(l[0]))
		}
		if fall.below(3) == 0 {
			place := fall.below(len(all))
			if !lacks[place] {
				all[place] = fall.other(all[place])
			}
		}
		want := verdict(all, lacks, many, each)
		seen[want]++
		if want != api.OK {
			healRefuses(t, all, lacks, each, want)
			continue
		}
		got, err := guard.Heal(all, lacks, each)
		if err != nil || len(got) != many {
			t.Fatalf("Heal(%q, %v, %d): %q, %v", all, lacks, each, got, err)
		}
		// What is healed fits what does not lack.
		for place, b := range guarded(got, each) {
			if !lacks[place] && b != all[place] {
				t.Errorf("Heal(%q, %v, %d): %q does not fit place %d", all, lacks, each, got, place)
			}
		}
	}
	for _, e := range []api.Errno{api.OK, api.ErrFew, api.ErrClash} {
		if seen[e] < 100 {
			t.Errorf("%v came %d times: the test asks too little", e, seen[e])
		}
	}
}

// TestFew: two of a group lack, the one behind too, even where what stands there is right.
func TestFew(t *testing.T) {
	l := []string{"ab", "cd", "ef", "gh", "ij"}
	all := guarded(l, 2)
	for _, pair := range [][]int{{0, 1}, {0, 5}, {1, 5}, {2, 3}, {2, 6}, {3, 6}, {4, 7}, {0, 1, 5}} {
		healRefuses(t, all, flags(8, pair...), 2, api.ErrFew)
	}
	for _, pair := range [][]int{{0, 2}, {1, 2}, {1, 6}, {0, 7}, {5, 6}, {3, 4}, {5, 6, 7}, {0, 3, 4}} {
		heals(t, all, flags(8, pair...), 2, l...)
	}
	healRefuses(t, all, slices.Repeat([]bool{true}, 8), 2, api.ErrFew)
	healRefuses(t, []string{"a", "a"}, flags(2, 0, 1), 1, api.ErrFew)
}

// TestFirstGroup: of several groups with a fault the first one's is told.
func TestFirstGroup(t *testing.T) {
	l := []string{"ab", "cd", "ef", "gh", "ij"}
	right := guarded(l, 2)
	spoilt := func(place int) []string {
		out := slices.Clone(right)
		out[place] = "xx"
		return out
	}
	for _, place := range []int{0, 1, 5} {
		healRefuses(t, spoilt(place), flags(8, 2, 3), 2, api.ErrClash)
		healRefuses(t, spoilt(place), flags(8, 4, 7), 2, api.ErrClash)
		// One that is wrong is not seen where another one of its group lacks.
		healRefuses(t, spoilt(place), flags(8, 0, 2, 3), 2, api.ErrFew)
	}
	for _, place := range []int{2, 3, 6, 4, 7} {
		healRefuses(t, spoilt(place), flags(8, 0, 1), 2, api.ErrFew)
		healRefuses(t, spoilt(place), flags(8, 1, 5), 2, api.ErrFew)
		healRefuses(t, spoilt(place), flags(8, 1), 2, api.ErrClash)
	}
}

// TestHealNumber: of which numbers Add makes some, and of which none.
func TestHealNumber(t *testing.T) {
	for each := 1; each <= api.MaxBlocks; each++ {
		blocksOf := map[int]int{}
		for many := 1; many <= api.MaxBlocks; many++ {
			blocksOf[len(guarded(slices.Repeat([]string{"\x00"}, many), each))] = many
		}
		for total := 1; total <= api.MaxBlocks; total++ {
			l := slices.Repeat([]string{"\x00"}, total)
			if many, ok := blocksOf[total]; ok {
				heals(t, l, flags(total), each, l[:many]...)
			} else {
				healRefuses(t, l, flags(total), each, api.ErrShape)
			}
		}
	}
	healRefuses(t, []string{"a"}, []bool{false}, 3, api.ErrShape)
	healRefuses(t, []string{"a"}, []bool{true}, 1, api.ErrShape)
	// Ahead of what is wrong in a group.
	healRefuses(t, []string{"a", "b", "c"}, flags(3, 0, 1, 2), 1, api.ErrShape)
	healRefuses(t, []string{"a", "b", "c"}, flags(3), 1, api.ErrShape)
}

// badBlocks, and what chapter 1's Check tells of them.
func badBlocks() map[api.Errno][][]string {
	return map[api.Errno][][]string{
		api.ErrNone:  {nil, {}},
		api.ErrFull:  {slices.Repeat([]string{"a"}, api.MaxBlocks+1), make([]string, 10_000)},
		api.ErrRange: {{""}, {"", "a"}, {strings.Repeat("a", api.MaxSize+1)}, {strings.Repeat("a", 100), "b"}},
		api.ErrShape: {{"a", "bc"}, {"ab", "c"}, {"ab", "cd", ""}, {"ab", "cd", "ef", "ghi"}},
	}
}

// wrongEach are no sizes of a group.
func wrongEach() []int {
	return []int{0, -1, api.MaxBlocks + 1, 1<<32 + 1, math.MaxInt, math.MinInt}
}

func TestAddErrors(t *testing.T) {
	for want, lists := range badBlocks() {
		for _, l := range lists {
			for _, each := range append(wrongEach(), 1, 2, api.MaxBlocks) {
				addRefuses(t, l, each, want)
			}
		}
	}
	for _, each := range wrongEach() {
		for many := 1; many <= api.MaxBlocks; many++ {
			addRefuses(t, slices.Repeat([]string{"ab"}, many), each, api.ErrRange)
		}
	}
}

func TestHealErrors(t *testing.T) {
	for want, lists := range badBlocks() {
		for _, l := range lists {
			for _, each := range append(wrongEach(), 1, 2, api.MaxBlocks) {
				healRefuses(t, l, flags(len(l)), each, want)
				healRefuses(t, l, flags(len(l)+1), each, want)
				healRefuses(t, l, slices.Repeat([]bool{true}, len(l)), each, want)
			}
		}
	}
	// One that lacks is as long as the others, too.
	healRefuses(t, []string{"ab", "", "ab"}, flags(3, 1), 2, api.ErrShape)
	healRefuses(t, []string{"", "ab"}, flags(2, 0), 1, api.ErrRange)
	l := []string{"ab", "cd", "ab", "cd"}
	for _, each := range append(wrongEach(), 1, 2) {
		for _, lacks := range [][]bool{nil, {}, flags(3), flags(5), make([]bool, 10_000)} {
			healRefuses(t, l, lacks, each, api.ErrShape)
		}
	}
	for _, each := range wrongEach() {
		healRefuses(t, l, flags(4), each, api.ErrRange)
		healRefuses(t, l, flags(4, 0, 1, 2, 3), each, api.ErrRange)
		// Of one alone Add makes nothing, yet each is told ahead of it.
		healRefuses(t, l[:1], flags(1), each, api.ErrRange)
	}
	heals(t, l, flags(4), 1, "ab", "cd")
}

// TestArgumentsStay: what is handed in is as it was, also behind its length.
func TestArgumentsStay(t *testing.T) {
	l := []string{"ab", "cd", "ef", "\x07\x02", "ef", "kept", "kept", "kept"}
	lacks := []bool{false, true, false, false, false, true, true, true}
	was, lacked := slices.Clone(l), slices.Clone(lacks)
	adds(t, l[:3], 2, guarded(was[:3], 2)...)
	heals(t, l[:5], lacks[:5], 2, "ab", over("ab", "\x07\x02"), "ef")
	healRefuses(t, l[:5], flags(5, 0, 1), 2, api.ErrFew)
	if !slices.Equal(l, was) || !slices.Equal(lacks, lacked) {
		t.Errorf("what was handed in was written into: %q, %v", l, lacks)
	}
}

// TestAnswersAreFresh: no answer shares memory with another one or with what was handed in, its texts neither.
func TestAnswersAreFresh(t *testing.T) {
	l := []string{"abcd", "efgh", "ijkl"}
	all := guarded(l, 2)
	one, _ := guard.Add(l, 2)
	two, _ := guard.Add(l, 2)
	three, _ := guard.Heal(all, flags(5, 1), 2)
	four, _ := guard.Heal(all, flags(5), 2)
	taken := map[*byte]int{}
	for _, list := range [][]string{l, one, two, three, four} {
		for _, s := range list {
			taken[unsafe.StringData(s)]++
		}
	}
	for at, times := range taken {
		if times != 1 {
			t.Errorf("the text at %p stands in %d places", at, times)
		}
	}
	for _, list := range [][]string{one, three} {
		for i := range list[:cap(list)] {
			list[:cap(list)][i] = "gone"
		}
	}
	if !slices.Equal(two, all) || !slices.Equal(four, l) || !slices.Equal(l, []string{"abcd", "efgh", "ijkl"}) {
		t.Errorf("answers share memory: %q, %q, of %q", two, four, l)
	}
	adds(t, l, 2, all...)
	heals(t, all, flags(5), 2, l...)
}
