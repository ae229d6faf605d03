package log_test

import (
	"fmt"
	"math"
	"reflect"
	"slices"
	"strings"
	"testing"
	"unsafe"

	"dropletmill/api"
	"dropletmill/blocks"
	"dropletmill/drop"
	"dropletmill/ear"
	"dropletmill/log"
	"dropletmill/plain"
)

// wrongSeed: numbers that are no seed.
var wrongSeed = []int{0, -1, api.MaxSeed + 1, 1<<32 + 1, math.MaxInt, math.MinInt}

// begun: a log that must be there.
func begun(t *testing.T, k, size, n int) *log.Log {
	t.Helper()
	l, err := log.New(k, size, n)
	if l == nil || err != nil {
		t.Fatalf("New(%d, %d, %d): %v, %v", k, size, n, l, err)
	}
	return l
}

// seedOf the nth drop, from 0 on, of just these of k blocks.
func seedOf(t *testing.T, k, nth int, places ...int) int {
	t.Helper()
	for seed := 1; seed <= api.MaxSeed; seed++ {
		if set, _ := drop.Set(k, seed); slices.Equal(set, places) {
			if nth == 0 {
				return seed
			}
			nth--
		}
	}
	t.Fatalf("no seed of %d blocks has %v", k, places)
	return 0
}

// made: the drops of seeds of a text.
func made(t *testing.T, text string, size int, seeds ...int) (out []api.Drop) {
	t.Helper()
	l, err := blocks.Split(text, size)
	if err != nil {
		t.Fatal(err)
	}
	for _, seed := range seeds {
		d, err := drop.Make(l, seed)
		if err != nil {
			t.Fatal(err)
		}
		out = append(out, d)
	}
	return out
}

// hears drops, without an error.
func hears(t *testing.T, l *log.Log, drops ...api.Drop) {
	t.Helper()
	for _, d := range drops {
		if err := l.Hear(d); err != nil {
			t.Errorf("Hear of %v: %v", d, err)
		}
	}
}

// syncs, without an error: all is safe.
func syncs(t *testing.T, l *log.Log) {
	t.Helper()
	was := l.Bytes()
	if err := l.Sync(); err != nil || l.Bytes() != was || l.Safe() != was {
		t.Errorf("Sync: %v, %d of %d are safe; there were %d", err, l.Safe(), l.Bytes(), was)
	}
}

// state: all that a log tells, as words, so that two can be held against each other.
func state(l *log.Log) string {
	data, err := l.Data()
	return fmt.Sprintf("%v %q %v %d %d", l.Seeds(), data, plain.Told(err), l.Bytes(), l.Safe())
}

// tells these seeds, and data.
func tells(t *testing.T, l *log.Log, data string, told api.Errno, seeds ...int) {
	t.Helper()
	got, err := l.Data()
	if got != data || plain.Told(err) != told || !slices.Equal(l.Seeds(), seeds) {
		t.Errorf("tells %v, %q, %v; want %v, %q, %v", l.Seeds(), got, err, seeds, data, told)
	}
}

// refuses a drop, and is as it was.
func refuses(t *testing.T, l *log.Log, d api.Drop, want api.Errno) {
	t.Helper()
	was := state(l)
	if err := l.Hear(d); plain.Told(err) != want {
		t.Errorf("Hear of %v: %v; want %v", d, err, want)
	}
	if now := state(l); now != was {
		t.Errorf("Hear of %v, refused, changed something: %s; was %s", d, now, was)
	}
}

// stuck: it has stopped, and says so of each drop and of a Sync, and is as it was.
func stuck(t *testing.T, l *log.Log, drops ...api.Drop) {
	t.Helper()
	for _, d := range drops {
		refuses(t, l, d, api.ErrState)
	}
	was := state(l)
	if err := l.Sync(); plain.Told(err) != api.ErrState {
		t.Errorf("Sync: %v; want ErrState", err)
	}
	if now := state(l); now != was {
		t.Errorf("Sync, refused, changed something: %s; was %s", now, was)
	}
}

// long: how many bytes the record of a drop has, as a log tells that has no other.
func long(t *testing.T, k, size, n int, d api.Drop) int {
	t.Helper()
	l := begun(t, k, size, n)
	hears(t, l, d)
	if l.Bytes() < 2 {
		t.Fatalf("the record of %v has %d bytes; want two at least", d, l.Bytes())
	}
	return l.Bytes()
}

// dice that fall the same each time.
type dice uint64

func (d *dice) below(n int) int {
	*d = *d*6364136223846793005 + 1442695040888963407
	return int(uint64(*d) >> 33 % uint64(n))
}

func (d *dice) bytes(n int) string {
	b := make([]byte, n)
	for i := range b {
		b[i] = byte(d.below(256))
	}
	return string(b)
}

// TestNew: of all numbers about the bounds those of which an ear can be made, and no others.
func TestNew(t *testing.T) {
	made := 0
	for k := -1; k <= api.MaxBlocks+2; k++ {
		for size := -4; size <= api.MaxSize+2; size++ {
			for n := -2; n <= (api.MaxBlocks+2)*(api.MaxSize+2); n++ {
				_, want := ear.New(k, size, n)
				l, err := log.New(k, size, n)
				if plain.Told(err) != plain.Told(want) || (l == nil) != (want != nil) {
					t.Fatalf("New(%d, %d, %d): %v, %v; want %v", k, size, n, l, err, want)
				}
				if l != nil {
					made++
				}
			}
		}
	}
	if want := 16*(1+2+3+4+5+6+7) + 15*8 + 8; made != want {
		t.Errorf("%d were made; want %d", made, want)
	}
}

func TestNewErrors(t *testing.T) {
	for _, n := range []int{1 << 32, 1<<32 + 1, 1<<62 + 1, math.MaxInt, math.MaxInt - 7, math.MinInt, math.MinInt + 1, -1} {
		for _, w := range [][3]int{{n, 1, 1}, {1, n, 1}, {1, 1, n}, {n, n, n}, {n, n, 0}, {1, n, n}} {
			if l, err := log.New(w[0], w[1], w[2]); l != nil || plain.Told(err) != api.ErrRange {
				t.Errorf("New(%v): %v, %v; want ErrRange", w, l, err)
			}
		}
	}
}

// TestNothing: of a log that heard nothing nothing is there, and all of it can be safe, or crash.
func TestNothing(t *testing.T) {
	l := begun(t, 3, 2, 6)
	for range 3 {
		if l.Bytes() != 0 || l.Safe() != 0 {
			t.Errorf("%d of %d bytes are safe", l.Safe(), l.Bytes())
		}
		tells(t, l, "", api.ErrFew)
		syncs(t, l)
		l.Crash(0)
		l.Crash(5)
	}
}

// TestHear: drops that are enough, each of which brings a record, whether it is of use or not.
func TestHear(t *testing.T) {
	text := "some bytes"
	drops := made(t, text, 3, seedOf(t, 4, 0, 1, 2), 4, 2, seedOf(t, 4, 1, 1), seedOf(t, 4, 0, 0, 2))
	l := begun(t, 4, 3, len(text))
	bytes := 0
	var seeds []int
	for i, d := range drops {
		hears(t, l, d)
		bytes += long(t, 4, 3, len(text), d)
		seeds = append(seeds, d.Seed)
		if l.Bytes() != bytes || l.Safe() != 0 {
			t.Errorf("of %d drops %d bytes, %d of them safe; want %d, 0", i+1, l.Bytes(), l.Safe(), bytes)
		}
		if i < 4 {
			tells(t, l, "", api.ErrFew, seeds...)
		}
	}
	tells(t, l, text, api.OK, seeds...)
	syncs(t, l)
	if l.Safe() != bytes {
		t.Errorf("%d bytes are safe; want %d", l.Safe(), bytes)
	}
	tells(t, l, text, api.OK, seeds...)
}

// TestNotNew: one whose seed was heard is refused, be its bytes as they may, and no record comes of it; another seed of the same block is new.
func TestNotNew(t *testing.T) {
	l := begun(t, 2, 2, 4)
	hears(t, l, api.Drop{Seed: 1, Data: "ab"})
	refuses(t, l, api.Drop{Seed: 1, Data: "ab"}, api.ErrClash)
	refuses(t, l, api.Drop{Seed: 1, Data: "zz"}, api.ErrClash)
	hears(t, l, api.Drop{Seed: 2, Data: "cd"})
	for range 100 {
		refuses(t, l, api.Drop{Seed: 1, Data: "zz"}, api.ErrClash)
		refuses(t, l, api.Drop{Seed: 2, Data: "cd"}, api.ErrClash)
	}
	tells(t, l, "abcd", api.OK, 1, 2)
	other := seedOf(t, 2, 1, 0)
	hears(t, l, api.Drop{Seed: other, Data: "ab"})
	tells(t, l, "abcd", api.OK, 1, 2, other)
}

// TestDataErrors: those of the ear: drops that do not go together, with enough and with too few.
func TestDataErrors(t *testing.T) {
	l := begun(t, 2, 1, 2)
	other := seedOf(t, 2, 1, 0)
	hears(t, l, api.Drop{Seed: 1, Data: "a"}, api.Drop{Seed: other, Data: "b"})
	tells(t, l, "", api.ErrClash, 1, other)
	hears(t, l, api.Drop{Seed: 2, Data: "c"})
	tells(t, l, "", api.ErrClash, 1, other, 2)
}

// TestWrongDrops: a seed that is none is told ahead of bytes that are not as many, both ahead of one that is not new, and behind its having stopped.
func TestWrongDrops(t *testing.T) {
	wrongData := []string{"", "a", "abc", strings.Repeat("x", 100_000)}
	l := begun(t, 2, 2, 3)
	again := func(wrong, shape api.Errno) {
		t.Helper()
		for _, seed := range wrongSeed {
			for _, data := range append([]string{"ab"}, wrongData...) {
				refuses(t, l, api.Drop{Seed: seed, Data: data}, wrong)
			}
		}
		for _, seed := range []int{1, 5, api.MaxSeed} {
			for _, data := range wrongData {
				refuses(t, l, api.Drop{Seed: seed, Data: data}, shape)
			}
		}
	}
	again(api.ErrRange, api.ErrShape)
	hears(t, l, api.Drop{Seed: 1, Data: "ab"})
	again(api.ErrRange, api.ErrShape)
	// None of these comes to a record, so that none of them is a step.
	l.Fail(1)
	again(api.ErrRange, api.ErrShape)
	hears(t, l, api.Drop{Seed: 2, Data: "c\x00"})
	again(api.ErrRange, api.ErrShape)
	stuck(t, l)
	again(api.ErrState, api.ErrState)
	l.Crash(100)
	again(api.ErrRange, api.ErrShape)
	tells(t, l, "abc", api.OK, 1, 2)
}

// TestFull: MaxDrops may be new; then none is heard any more, also none that was, till a Crash makes room.
func TestFull(t *testing.T) {
	l := begun(t, 8, 1, 8)
	drop := func(i int) api.Drop { return made(t, "abcdefgh", 1, 100+i)[0] }
	var seeds []int
	for i := range api.MaxDrops {
		hears(t, l, drop(i))
		seeds = append(seeds, 100+i)
		if i+1 < api.MaxDrops {
			refuses(t, l, drop(i/2), api.ErrClash)
		}
		if i == 40 {
			syncs(t, l)
		}
	}
	tells(t, l, "abcdefgh", api.OK, seeds...)
	l.Fail(0)
	for _, i := range []int{0, 7, api.MaxDrops - 1, api.MaxDrops, 500} {
		refuses(t, l, drop(i), api.ErrFull)
	}
	refuses(t, l, api.Drop{Seed: 100, Data: "xx"}, api.ErrShape)
	refuses(t, l, api.Drop{Seed: 0, Data: "x"}, api.ErrRange)
	l.Crash(0)
	tells(t, l, "abcdefgh", api.OK, seeds[:41]...)
	for i := 41; i < api.MaxDrops; i++ {
		hears(t, l, drop(1000+i))
	}
	refuses(t, l, drop(500), api.ErrFull)
}

// TestSeeds: each seed that may be comes back from its record, and so does each byte.
func TestSeeds(t *testing.T) {
	for seed := 1; seed <= api.MaxSeed; seed++ {
		data := string([]byte{byte(seed), byte(seed >> 8), 255})
		l := begun(t, 1, 3, 3)
		hears(t, l, api.Drop{Seed: seed, Data: data})
		if l.Bytes() < 2 {
			t.Fatalf("the record of %d has %d bytes; want two at least", seed, l.Bytes())
		}
		l.Crash(l.Bytes())
		tells(t, l, data, api.OK, seed)
		if t.Failed() {
			return
		}
	}
}

// TestSizes: drops of each size come back from their records, also when all of their bytes are 0.
func TestSizes(t *testing.T) {
	for size := 1; size <= api.MaxSize; size++ {
		for _, data := range []string{"\x00\x00\x00\x00\x00\x00\x00\x00", "\xff\xff\xff\xff\xff\xff\xff\xff", "\x01\x00\x01\x00\x01\x00\x01\x00", "01234567"} {
			l := begun(t, 1, size, size)
			for seed := range api.MaxDrops {
				hears(t, l, api.Drop{Seed: seed + 1, Data: data[:size]})
			}
			was := state(l)
			l.Crash(l.Bytes() - 1)
			if len(l.Seeds()) != api.MaxDrops-1 {
				t.Errorf("size %d: of all bytes but one %v are left", size, l.Seeds())
			}
			hears(t, l, api.Drop{Seed: api.MaxDrops, Data: data[:size]})
			l.Crash(l.Bytes())
			if want := strings.TrimSuffix(was, " 0") + fmt.Sprint(" ", l.Bytes()); state(l) != want {
				t.Errorf("size %d: %s; want %s", size, state(l), want)
			}
			tells(t, l, data[:size], api.OK, l.Seeds()...)
		}
	}
}

// TestFail: so many steps are done, and the next is not, be each a Hear or a Sync.
func TestFail(t *testing.T) {
	drops := made(t, "abcdef", 2, 1, 2, 3, 4, 5, 6)
	for steps := range 7 {
		for which := range 1 << (steps + 1) {
			l := begun(t, 3, 2, 6)
			l.Fail(steps)
			heard, safe := 0, 0
			for i := range steps + 1 {
				last := i == steps
				if which>>i&1 == 0 {
					was := l.Bytes()
					err := l.Sync()
					if (plain.Told(err) == api.ErrState) != last || l.Bytes() != was {
						t.Errorf("Fail(%d), step %d, a Sync: %v", steps, i, err)
					}
					if !last {
						safe = was
					}
					continue
				}
				if heard == len(drops) {
					break
				}
				err := l.Hear(drops[heard])
				if (plain.Told(err) == api.ErrState) != last {
					t.Errorf("Fail(%d), step %d, a Hear: %v", steps, i, err)
				}
				if !last {
					heard++
				}
			}
			if len(l.Seeds()) != heard || l.Safe() != safe {
				t.Errorf("Fail(%d): seeds %v, %d safe; want %d, %d", steps, l.Seeds(), l.Safe(), heard, safe)
			}
		}
	}
}

// TestFailHear: half the bytes of the record are there, rounded down, and the ear is as it was, also where the drop would have been the last that lacked.
func TestFailHear(t *testing.T) {
	for size := 1; size <= api.MaxSize; size++ {
		text := "0123456789abcdef"[:2*size]
		drops := made(t, text, size, 1, 2, seedOf(t, 2, 0, 0, 1))
		l := begun(t, 2, size, 2*size)
		hears(t, l, drops[0])
		syncs(t, l)
		first := l.Bytes()
		l.Fail(0)
		if err := l.Hear(drops[1]); plain.Told(err) != api.ErrState {
			t.Errorf("size %d: Hear: %v; want ErrState", size, err)
		}
		if want := first + long(t, 2, size, 2*size, drops[1])/2; l.Bytes() != want || l.Safe() != first {
			t.Errorf("size %d: %d bytes, %d safe; want %d, %d", size, l.Bytes(), l.Safe(), want, first)
		}
		tells(t, l, "", api.ErrFew, 1)
		stuck(t, l, drops...)
		for _, keep := range []int{0, 1, 2, 100} {
			l.Crash(keep)
			tells(t, l, "", api.ErrFew, 1)
			if l.Bytes() != first || l.Safe() != first {
				t.Errorf("size %d: %d bytes, %d safe; want %d", size, l.Bytes(), l.Safe(), first)
			}
		}
		hears(t, l, drops[1])
		tells(t, l, text, api.OK, 1, 2)
	}
}

// TestFailFirst: also of the first record of all half is there, and nothing was heard.
func TestFailFirst(t *testing.T) {
	d := api.Drop{Seed: 7, Data: "x"}
	l := begun(t, 1, 1, 1)
	l.Fail(0)
	refused := l.Hear(d)
	if want := long(t, 1, 1, 1, d) / 2; plain.Told(refused) != api.ErrState || l.Bytes() != want || l.Safe() != 0 {
		t.Errorf("Hear: %v, %d bytes, %d safe; want ErrState, %d, 0", refused, l.Bytes(), l.Safe(), want)
	}
	tells(t, l, "", api.ErrFew)
	l.Crash(1 << 40)
	if l.Bytes() != 0 || l.Safe() != 0 {
		t.Errorf("%d bytes, %d safe; want none", l.Bytes(), l.Safe())
	}
	hears(t, l, d)
	tells(t, l, "x", api.OK, 7)
}

// TestFailSync: nothing more is safe than was.
func TestFailSync(t *testing.T) {
	l := begun(t, 2, 1, 2)
	hears(t, l, api.Drop{Seed: 1, Data: "a"})
	syncs(t, l)
	hears(t, l, api.Drop{Seed: 2, Data: "b"})
	was := state(l)
	l.Fail(0)
	stuck(t, l)
	stuck(t, l, api.Drop{Seed: 3, Data: "c"}, api.Drop{Seed: 1, Data: "a"})
	if now := state(l); now != was {
		t.Errorf("%s; was %s", now, was)
	}
	tells(t, l, "ab", api.OK, 1, 2)
	l.Crash(0)
	tells(t, l, "", api.ErrFew, 1)
}

// TestFailNever: below 0 it does not stop, nor does it of more steps than there are.
func TestFailNever(t *testing.T) {
	for _, n := range []int{-1, -2, math.MinInt, -1 << 32, 1 << 32, math.MaxInt, 2 * api.MaxDrops} {
		l := begun(t, 1, 1, 1)
		l.Fail(0)
		l.Fail(n)
		for seed := range api.MaxDrops {
			hears(t, l, api.Drop{Seed: seed + 1, Data: "x"})
			syncs(t, l)
		}
		tells(t, l, "x", api.OK, l.Seeds()...)
	}
}

// TestFailAnew: a new one takes the place of the one ahead, from then on.
func TestFailAnew(t *testing.T) {
	l := begun(t, 1, 1, 1)
	l.Fail(1)
	hears(t, l, api.Drop{Seed: 1, Data: "x"})
	l.Fail(2)
	hears(t, l, api.Drop{Seed: 2, Data: "x"})
	l.Fail(3)
	l.Fail(1)
	syncs(t, l)
	was := l.Bytes()
	if err := l.Hear(api.Drop{Seed: 3, Data: "x"}); plain.Told(err) != api.ErrState || l.Bytes() == was {
		t.Errorf("Hear: %v, %d bytes; want ErrState, and half a record behind %d", err, l.Bytes(), was)
	}
}

// TestNoSteps: what is not new, or can't be heard, and what is asked, is none.
func TestNoSteps(t *testing.T) {
	l := begun(t, 2, 1, 2)
	hears(t, l, api.Drop{Seed: 1, Data: "a"})
	l.Fail(2)
	none := func() {
		t.Helper()
		for range 5 {
			refuses(t, l, api.Drop{Seed: 1, Data: "a"}, api.ErrClash)
			refuses(t, l, api.Drop{Seed: 0, Data: "a"}, api.ErrRange)
			refuses(t, l, api.Drop{Seed: 9, Data: "aa"}, api.ErrShape)
		}
	}
	none()
	syncs(t, l)
	none()
	hears(t, l, api.Drop{Seed: 2, Data: "b"})
	none()
	tells(t, l, "ab", api.OK, 1, 2)
	stuck(t, l)
	stuck(t, l, api.Drop{Seed: 1, Data: "a"}, api.Drop{Seed: 0, Data: "a"})
}

// TestStopped: it goes on by a Crash alone, whatever Fail says, and that is forgotten.
func TestStopped(t *testing.T) {
	for _, n := range []int{-1, 0, 1, 5, math.MaxInt, math.MinInt} {
		l := begun(t, 2, 1, 2)
		hears(t, l, api.Drop{Seed: 1, Data: "a"})
		l.Fail(0)
		stuck(t, l)
		l.Fail(n)
		for range 8 {
			stuck(t, l, api.Drop{Seed: 2, Data: "b"}, api.Drop{Seed: 1, Data: "a"})
		}
		l.Crash(100)
		for seed := 2; seed <= 9; seed++ {
			hears(t, l, made(t, "ab", 1, seed)...)
			syncs(t, l)
		}
		tells(t, l, "ab", api.OK, 1, 2, 3, 4, 5, 6, 7, 8, 9)
	}
}

// TestCrashForgets: what Fail said of a log that has not stopped is forgotten, too.
func TestCrashForgets(t *testing.T) {
	for n := range 4 {
		l := begun(t, 2, 1, 2)
		l.Fail(n)
		l.Crash(0)
		for seed := 1; seed <= 9; seed++ {
			hears(t, l, made(t, "ab", 1, seed)...)
			syncs(t, l)
		}
	}
}

// TestCrash: of so many that are safe, and so many that are not, each first byte that may be kept.
func TestCrash(t *testing.T) {
	text := "a log that crashes"
	drops := made(t, text, 3, 3, 1, 8, 6, 2, 4, 5)
	for safe := range len(drops) + 1 {
		ends, all := endsOf(t, text, drops, safe)
		for keep := -3; keep <= all+5; keep++ {
			crashed(t, text, drops, safe, keep, ends)
		}
		for _, keep := range []int{math.MinInt, -1 << 32, -1<<32 + 5, 1 << 32, 1<<63 - 1, math.MaxInt - 5} {
			crashed(t, text, drops, safe, keep, ends)
		}
	}
}

// kept: a log of drops, the first of which are safe.
func kept(t *testing.T, text string, drops []api.Drop, safe int) *log.Log {
	t.Helper()
	l := begun(t, (len(text)+2)/3, 3, len(text))
	hears(t, l, drops[:safe]...)
	syncs(t, l)
	hears(t, l, drops[safe:]...)
	return l
}

// endsOf the records of drops, and how many bytes there are.
func endsOf(t *testing.T, text string, drops []api.Drop, safe int) ([]int, int) {
	t.Helper()
	ends := []int{0}
	for i := range drops {
		ends = append(ends, kept(t, text, drops[:i+1], min(safe, i+1)).Bytes())
	}
	return ends, ends[len(drops)]
}

// crashed: what is left of a log are the records that end among the bytes that are safe or kept.
func crashed(t *testing.T, text string, drops []api.Drop, safe, keep int, ends []int) {
	t.Helper()
	l := kept(t, text, drops, safe)
	l.Crash(keep)
	left := safe
	for keep > 0 && left < len(drops) && ends[left+1]-ends[safe] <= keep {
		left++
	}
	if l.Bytes() != ends[left] || l.Safe() != ends[left] {
		t.Errorf("%d safe, Crash(%d): %d bytes, %d safe; want %d", safe, keep, l.Bytes(), l.Safe(), ends[left])
	}
	isLike(t, l, text, drops[:left])
	// What is left is not new, what is lost is, and with it the log is as it was.
	for _, d := range drops[:left] {
		refuses(t, l, d, api.ErrClash)
	}
	hears(t, l, drops[left:]...)
	isLike(t, l, text, drops)
	if l.Safe() != ends[left] || l.Bytes() != ends[len(drops)] {
		t.Errorf("%d safe, Crash(%d), heard again: %d of %d safe; want %d of %d", safe, keep, l.Safe(), l.Bytes(), ends[left], ends[len(drops)])
	}
	l.Crash(-1)
	isLike(t, l, text, drops[:left])
}

// isLike an ear that heard these drops.
func isLike(t *testing.T, l *log.Log, text string, drops []api.Drop) {
	t.Helper()
	e, err := ear.New((len(text)+2)/3, 3, len(text))
	if err != nil {
		t.Fatal(err)
	}
	var seeds []int
	for _, d := range drops {
		if _, err := e.Hear(d); err != nil {
			t.Fatal(err)
		}
		seeds = append(seeds, d.Seed)
	}
	data, err := e.Data()
	tells(t, l, data, plain.Told(err), seeds...)
}

// TestCrashWaiting: an ear that goes on by its records is the one that was, also with drops that wait for each other.
func TestCrashWaiting(t *testing.T) {
	text := "abc"
	drops := made(t, text, 1, seedOf(t, 3, 0, 0, 1), seedOf(t, 3, 0, 1, 2), 3)
	l := begun(t, 3, 1, 3)
	hears(t, l, drops[:2]...)
	syncs(t, l)
	hears(t, l, drops[2])
	tells(t, l, text, api.OK, l.Seeds()...)
	l.Crash(0)
	tells(t, l, "", api.ErrFew, drops[0].Seed, drops[1].Seed)
	hears(t, l, drops[2])
	tells(t, l, text, api.OK, l.Seeds()...)
}

// TestCrashOther: where one is lost another may come in its place, of the same seed with other bytes too.
func TestCrashOther(t *testing.T) {
	l := begun(t, 2, 1, 2)
	hears(t, l, api.Drop{Seed: 1, Data: "a"})
	syncs(t, l)
	hears(t, l, api.Drop{Seed: 2, Data: "b"})
	l.Crash(0)
	hears(t, l, api.Drop{Seed: 2, Data: "z"})
	tells(t, l, "az", api.OK, 1, 2)
	syncs(t, l)
	l.Crash(0)
	tells(t, l, "az", api.OK, 1, 2)
}

// like: a log by the words of the promises: which drops were heard, where each record ends, and how many bytes there are.
type like struct {
	fresh       []api.Drop
	ends        []int
	bytes, safe int
	left        int
	stopped     bool
}

// step: whether it may be done.
func (m *like) step() bool {
	m.stopped = m.stopped || m.left == 0
	m.left--
	return !m.stopped
}

// hear a drop whose record is so long.
func (m *like) hear(k, size, long int, d api.Drop) api.Errno {
	if m.stopped {
		return api.ErrState
	}
	if err := drop.Check(k, size, d); err != nil {
		return plain.Told(err)
	}
	if len(m.fresh) == api.MaxDrops {
		return api.ErrFull
	}
	if slices.ContainsFunc(m.fresh, func(o api.Drop) bool { return o.Seed == d.Seed }) {
		return api.ErrClash
	}
	if !m.step() {
		m.bytes += long / 2
		return api.ErrState
	}
	m.bytes += long
	m.fresh, m.ends = append(m.fresh, d), append(m.ends, m.bytes)
	return api.OK
}

// sync what is there.
func (m *like) sync() api.Errno {
	if m.stopped || !m.step() {
		return api.ErrState
	}
	m.safe = m.bytes
	return api.OK
}

// crash, and keep so many of the first bytes that are not safe.
func (m *like) crash(keep int) {
	left := 0
	for left < len(m.ends) && (m.ends[left] <= m.safe || m.ends[left]-m.safe <= keep) {
		left++
	}
	m.fresh, m.ends = m.fresh[:left:left], m.ends[:left:left]
	m.bytes = 0
	if left > 0 {
		m.bytes = m.ends[left-1]
	}
	*m = like{fresh: m.fresh, ends: m.ends, bytes: m.bytes, safe: m.bytes, left: -1}
}

// told by it: its state.
func (m *like) told(t *testing.T, k, size, n int) string {
	t.Helper()
	e, err := ear.New(k, size, n)
	if err != nil {
		t.Fatal(err)
	}
	seeds := []int{}
	for _, d := range m.fresh {
		if _, err := e.Hear(d); err != nil {
			t.Fatal(err)
		}
		seeds = append(seeds, d.Seed)
	}
	data, err := e.Data()
	return fmt.Sprintf("%v %q %v %d %d", seeds, data, plain.Told(err), m.bytes, m.safe)
}

// TestAnyCalls: any of all calls, one behind the other, against what the promises' words say.
func TestAnyCalls(t *testing.T) {
	d := dice(19)
	for range 400 {
		k, size := 1+d.below(6), 1+d.below(api.MaxSize)
		n := k*size - d.below(size)
		record := long(t, k, size, n, api.Drop{Seed: 1, Data: d.bytes(size)})
		text := d.bytes(n)
		l, m := begun(t, k, size, n), &like{left: -1}
		var calls []string
		for range 60 {
			call, got, want := anyCall(t, &d, l, m, k, size, record, text)
			calls = append(calls, call)
			if plain.Told(got) != want || state(l) != m.told(t, k, size, n) {
				t.Fatalf("k %d, size %d, n %d, %s: %v, %s; want %v, %s", k, size, n, strings.Join(calls, ", "), got, state(l), want, m.told(t, k, size, n))
			}
		}
	}
}

// anyCall of both: how it is written, and what comes of it.
func anyCall(t *testing.T, d *dice, l *log.Log, m *like, k, size, record int, text string) (string, error, api.Errno) {
	t.Helper()
	switch d.below(12) {
	case 0, 1:
		return "Sync", l.Sync(), m.sync()
	case 2:
		steps := d.below(12) - 2
		l.Fail(steps)
		m.left = steps
		return fmt.Sprintf("Fail(%d)", steps), nil, api.OK
	case 3:
		keep := d.below(8*record) - 2
		l.Crash(keep)
		m.crash(max(keep, 0))
		return fmt.Sprintf("Crash(%d)", keep), nil, api.OK
	case 4:
		wrong := api.Drop{Seed: d.below(3), Data: d.bytes(size + d.below(3) - 1)}
		return fmt.Sprintf("Hear(%v)", wrong), l.Hear(wrong), m.hear(k, size, record, wrong)
	case 5:
		other := api.Drop{Seed: 1 + d.below(90), Data: d.bytes(size)}
		return fmt.Sprintf("Hear(%v)", other), l.Hear(other), m.hear(k, size, record, other)
	}
	next := made(t, text, size, 1+d.below(90))[0]
	return fmt.Sprintf("Hear(%v)", next), l.Hear(next), m.hear(k, size, record, next)
}

// TestWhatIsSafeIsKept: whatever comes behind a Sync, the seeds that were there are the first of those that are left.
func TestWhatIsSafeIsKept(t *testing.T) {
	d := dice(7)
	text := "kept when the power goes"
	for range 300 {
		l := begun(t, 6, 4, len(text))
		var safe []int
		for range 80 {
			switch d.below(8) {
			case 0:
				if l.Sync() == nil {
					safe = l.Seeds()
				}
			case 1:
				l.Fail(d.below(6))
			case 2:
				l.Crash(d.below(40) - 5)
				safe = l.Seeds()
			default:
				_ = l.Hear(made(t, text, 4, 1+d.below(60))[0])
			}
			seeds := l.Seeds()
			if len(seeds) < len(safe) || !slices.Equal(seeds[:len(safe)], safe) {
				t.Fatalf("safe were %v; now %v", safe, seeds)
			}
			if data, err := l.Data(); err == nil && data != text {
				t.Fatalf("Data: %q; want %q", data, text)
			}
		}
	}
}

// TestAskedAgain: what is asked changes nothing.
func TestAskedAgain(t *testing.T) {
	l := begun(t, 3, 2, 6)
	hears(t, l, made(t, "abcdef", 2, 1, 2)...)
	syncs(t, l)
	hears(t, l, made(t, "abcdef", 2, 3)...)
	was := state(l)
	for range 50 {
		if now := state(l); now != was {
			t.Fatalf("%s; was %s", now, was)
		}
	}
}

// TestNothingIsKept: bytes that are written anew behind a drop's back are those that were heard.
func TestNothingIsKept(t *testing.T) {
	b := []byte("abcd")
	l := begun(t, 2, 2, 4)
	hears(t, l, api.Drop{Seed: 1, Data: unsafe.String(&b[0], 2)}, api.Drop{Seed: 2, Data: unsafe.String(&b[2], 2)})
	copy(b, "????")
	tells(t, l, "abcd", api.OK, 1, 2)
	l.Crash(100)
	tells(t, l, "abcd", api.OK, 1, 2)
}

// TestAnswersAreFresh: what is written into one answer is not seen in another, nor by the log.
func TestAnswersAreFresh(t *testing.T) {
	l := begun(t, 2, 1, 2)
	hears(t, l, made(t, "ab", 1, 1, 2, 3)...)
	first, second := l.Seeds(), l.Seeds()
	clear(first[:cap(first)])
	_ = append(first[:1], 77)
	tells(t, l, "ab", api.OK, 1, 2, 3)
	if !slices.Equal(second, []int{1, 2, 3}) {
		t.Errorf("answers share memory: %v", second)
	}
	l.Crash(100)
	tells(t, l, "ab", api.OK, 1, 2, 3)
	one, err := l.Data()
	two, again := l.Data()
	if err != nil || again != nil || unsafe.StringData(one) == unsafe.StringData(two) {
		t.Errorf("two texts share memory, or there is none: %v, %v", err, again)
	}
}

// TestApart: what one log hears, or says, another does not.
func TestApart(t *testing.T) {
	a, b := begun(t, 2, 1, 2), begun(t, 2, 1, 2)
	hears(t, a, api.Drop{Seed: 1, Data: "a"})
	hears(t, b, api.Drop{Seed: 2, Data: "b"})
	a.Fail(0)
	stuck(t, a)
	syncs(t, b)
	a.Crash(0)
	tells(t, a, "", api.ErrFew)
	tells(t, b, "", api.ErrFew, 2)
	hears(t, b, api.Drop{Seed: 1, Data: "c"})
	tells(t, b, "cb", api.OK, 2, 1)
}

// TestSameAgain: what is answered hangs on the calls alone.
func TestSameAgain(t *testing.T) {
	play := func() string {
		l := begun(t, 3, 2, 6)
		hears(t, l, made(t, "abcdef", 2, 5, 6, 7, 8)...)
		syncs(t, l)
		l.Fail(1)
		hears(t, l, made(t, "abcdef", 2, 9)...)
		stuck(t, l)
		was := state(l)
		l.Crash(3)
		return was + state(l)
	}
	want := play()
	for range 50 {
		if got := play(); got != want {
			t.Fatalf("%s; was %s", got, want)
		}
	}
}

// TestFace: a log has the methods that the chapter lists and no others.
func TestFace(t *testing.T) {
	face := reflect.TypeFor[*log.Log]()
	var names []string
	for i := range face.NumMethod() {
		names = append(names, face.Method(i).Name)
	}
	if want := []string{"Bytes", "Crash", "Data", "Fail", "Hear", "Safe", "Seeds", "Sync"}; !slices.Equal(names, want) {
		t.Errorf("methods: %v; want %v", names, want)
	}
	for _, f := range reflect.VisibleFields(face.Elem()) {
		if f.IsExported() {
			t.Errorf("field %s is handed out", f.Name)
		}
	}
}
