package ear_test

import (
	"math"
	"reflect"
	"slices"
	"strings"
	"testing"
	"unsafe"

	"dropletmill/api"
	"dropletmill/blocks"
	"dropletmill/drop"
	"dropletmill/ear"
	"dropletmill/need"
	"dropletmill/peel"
	"dropletmill/plain"
	"dropletmill/solve"
)

// wrongSeed: numbers that are no seed.
var wrongSeed = []int{0, -1, api.MaxSeed + 1, 1<<32 + 1, math.MaxInt, math.MinInt}

// begun: an ear that must be there.
func begun(t *testing.T, k, size, n int) *ear.Ear {
	t.Helper()
	e, err := ear.New(k, size, n)
	if e == nil || err != nil {
		t.Fatalf("New(%d, %d, %d): %v, %v", k, size, n, e, err)
	}
	return e
}

// seedOf the nth drop, from 0 on, of just these of k blocks.
func seedOf(t *testing.T, k, nth int, places ...int) int {
	t.Helper()
	for seed := 1; seed <= api.MaxSeed; seed++ {
		if set, _ := drop.Set(k, seed); slices.Equal(set, places) {
			if nth == 0 {
				return seed
			}
			nth--
		}
	}
	t.Fatalf("no seed of %d blocks has %v", k, places)
	return 0
}

// hears a drop, without an error.
func hears(t *testing.T, e *ear.Ear, d api.Drop, drops, fresh, knows int) {
	t.Helper()
	want := api.Heard{Drops: drops, New: fresh, Knows: knows}
	if got, err := e.Hear(d); got != want || err != nil {
		t.Errorf("Hear of %v: %v, %v; want %v", d, got, err, want)
	}
}

// hearsAll drops, without an error, whatever is told of them.
func hearsAll(t *testing.T, e *ear.Ear, l ...api.Drop) {
	t.Helper()
	for _, d := range l {
		if _, err := e.Hear(d); err != nil {
			t.Errorf("Hear of %v: %v", d, err)
		}
	}
}

// state: all that an ear tells.
type state struct {
	done  bool
	data  string
	err   api.Errno
	lacks string
}

// stateOf an ear; of a list the bytes of its numbers, so that two states can be held against each other.
func stateOf(e *ear.Ear) state {
	data, err := e.Data()
	return state{e.Done(), data, plain.Told(err), listed(e.Lacks())}
}

func listed(l []int) string {
	var b strings.Builder
	for _, n := range l {
		b.WriteRune(rune(n))
	}
	return b.String()
}

// tells this state.
func tells(t *testing.T, e *ear.Ear, done bool, data string, told api.Errno, lacks ...int) {
	t.Helper()
	want := state{done, data, told, listed(lacks)}
	if got := stateOf(e); got != want {
		t.Errorf("tells %+v; want %+v", got, want)
	}
}

// refuses a drop, and is as it was.
func refuses(t *testing.T, e *ear.Ear, d api.Drop, want api.Errno) {
	t.Helper()
	was := stateOf(e)
	got, err := e.Hear(d)
	if got != (api.Heard{}) || plain.Told(err) != want {
		t.Errorf("Hear of %v: %v, %v; want %v", d, got, err, want)
	}
	if now := stateOf(e); now != was {
		t.Errorf("Hear of %v, refused, changed something: %+v; was %+v", d, now, was)
	}
}

// made: the drops of seeds of a text.
func made(t *testing.T, text string, size int, seeds ...int) (out []api.Drop) {
	t.Helper()
	l, err := blocks.Split(text, size)
	if err != nil {
		t.Fatal(err)
	}
	for _, seed := range seeds {
		d, err := drop.Make(l, seed)
		if err != nil {
			t.Fatal(err)
		}
		out = append(out, d)
	}
	return out
}

// seedsOf drops.
func seedsOf(l []api.Drop) (out []int) {
	for _, d := range l {
		out = append(out, d.Seed)
	}
	return out
}

// dice that fall the same each time.
type dice uint64

func (d *dice) below(n int) int {
	*d = *d*6364136223846793005 + 1442695040888963407
	return int(uint64(*d) >> 33 % uint64(n))
}

func (d *dice) bytes(n int) string {
	b := make([]byte, n)
	for i := range b {
		b[i] = byte(d.below(256))
	}
	return string(b)
}

// TestNew: of all numbers about the bounds those by which n bytes are cut into k blocks, and no others.
func TestNew(t *testing.T) {
	made := 0
	for k := -1; k <= api.MaxBlocks+2; k++ {
		for size := -1; size <= api.MaxSize+2; size++ {
			for n := -2; n <= (api.MaxBlocks+2)*(api.MaxSize+2); n++ {
				e, err := ear.New(k, size, n)
				may := k >= 1 && k <= 16 && size >= 1 && size <= 8 && n >= 0 && n <= 120 &&
					(n > (k-1)*size && n <= k*size || n == 0 && k == 1)
				if may && (e == nil || err != nil) || !may && (e != nil || plain.Told(err) != api.ErrRange) {
					t.Fatalf("New(%d, %d, %d): %v, %v", k, size, n, e, err)
				}
				if may {
					made++
				}
			}
		}
	}
	// By each size each n up to 16 blocks (by 8 up to MaxData, which are 15) goes with one k, and so does 0.
	if want := 16*(1+2+3+4+5+6+7) + 15*8 + 8; made != want {
		t.Errorf("%d were made; want %d", made, want)
	}
}

func TestNewErrors(t *testing.T) {
	far := []int{1 << 32, 1<<32 + 1, 1<<62 + 1, math.MaxInt, math.MaxInt - 7, math.MinInt, math.MinInt + 1, -1}
	for _, n := range far {
		for _, w := range [][3]int{{n, 1, 1}, {1, n, 1}, {1, 1, n}, {n, n, n}, {api.MaxBlocks, api.MaxSize, n}, {n, n, 0}, {1, n, n}} {
			if e, err := ear.New(w[0], w[1], w[2]); e != nil || plain.Told(err) != api.ErrRange {
				t.Errorf("New(%v): %v, %v; want ErrRange", w, e, err)
			}
		}
	}
}

// TestNothingHeard: of each number of blocks all are lacking.
func TestNothingHeard(t *testing.T) {
	for k := 1; k <= api.MaxBlocks; k++ {
		var all []int
		for i := range k {
			all = append(all, i)
		}
		tells(t, begun(t, k, 3, 3*k), false, "", api.ErrFew, all...)
	}
	tells(t, begun(t, 1, 8, 0), false, "", api.ErrFew, 0)
}

// TestHear: what is found one by one, told drop by drop.
func TestHear(t *testing.T) {
	text := "some bytes"
	l := made(t, text, 3, 2, seedOf(t, 4, 0, 0, 2), 4, seedOf(t, 4, 0, 1, 2))
	e := begun(t, 4, 3, len(text))
	hears(t, e, l[0], 1, 1, 1)
	tells(t, e, false, "", api.ErrFew, 0, 2, 3)
	hears(t, e, l[1], 2, 2, 1)
	tells(t, e, false, "", api.ErrFew, 0, 3)
	hears(t, e, l[2], 3, 3, 2)
	tells(t, e, false, "", api.ErrFew, 0)
	hears(t, e, l[3], 4, 4, 4)
	tells(t, e, true, text, api.OK)
}

// TestHeardAgain: one whose seed was heard is heard, but is not new, nor anything else, be its bytes as they may.
func TestHeardAgain(t *testing.T) {
	e := begun(t, 2, 2, 4)
	hears(t, e, api.Drop{Seed: 1, Data: "ab"}, 1, 1, 1)
	hears(t, e, api.Drop{Seed: 1, Data: "ab"}, 2, 1, 1)
	hears(t, e, api.Drop{Seed: 1, Data: "zz"}, 3, 1, 1)
	tells(t, e, false, "", api.ErrFew, 1)
	hears(t, e, api.Drop{Seed: 2, Data: "cd"}, 4, 2, 2)
	hears(t, e, api.Drop{Seed: 1, Data: "zz"}, 5, 2, 2)
	hears(t, e, api.Drop{Seed: 2, Data: "zz"}, 6, 2, 2)
	tells(t, e, true, "abcd", api.OK)
	// Another seed of the same block is new.
	hears(t, e, api.Drop{Seed: seedOf(t, 2, 1, 0), Data: "ab"}, 7, 3, 2)
	tells(t, e, true, "abcd", api.OK)
}

// TestHeardAgainWaiting: also one that waits is not new when it comes again.
func TestHeardAgainWaiting(t *testing.T) {
	both := seedOf(t, 2, 0, 0, 1)
	e := begun(t, 2, 1, 2)
	hears(t, e, api.Drop{Seed: both, Data: "\x03"}, 1, 1, 0)
	hears(t, e, api.Drop{Seed: both, Data: "\x05"}, 2, 1, 0)
	tells(t, e, false, "", api.ErrFew, 0)
	hears(t, e, api.Drop{Seed: 1, Data: "\x01"}, 3, 2, 2)
	tells(t, e, true, "\x01\x02", api.OK)
}

// TestEnoughNotKnown: enough is enough, though the peeler finds none of the blocks.
func TestEnoughNotKnown(t *testing.T) {
	l := made(t, "abc", 1, seedOf(t, 3, 0, 0, 1), seedOf(t, 3, 0, 1, 2), seedOf(t, 3, 0, 0, 1, 2), seedOf(t, 3, 0, 0, 2))
	e := begun(t, 3, 1, 3)
	hears(t, e, l[0], 1, 1, 0)
	tells(t, e, false, "", api.ErrFew, 0, 2)
	hears(t, e, l[1], 2, 2, 0)
	tells(t, e, false, "", api.ErrFew, 0)
	// What others make is new, but brings no more.
	hears(t, e, l[3], 3, 3, 0)
	tells(t, e, false, "", api.ErrFew, 0)
	hears(t, e, l[2], 4, 4, 0)
	tells(t, e, true, "abc", api.OK)
}

// TestClash: drops that do not go together, with enough and with too few.
func TestClash(t *testing.T) {
	e := begun(t, 2, 1, 2)
	hears(t, e, api.Drop{Seed: 1, Data: "a"}, 1, 1, 1)
	hears(t, e, api.Drop{Seed: seedOf(t, 2, 1, 0), Data: "b"}, 2, 2, 1)
	tells(t, e, false, "", api.ErrClash, 1)
	hears(t, e, api.Drop{Seed: 2, Data: "c"}, 3, 3, 2)
	tells(t, e, true, "", api.ErrClash)
}

// TestClashLater: what was had is had no more when a drop comes that does not go with the others.
func TestClashLater(t *testing.T) {
	e := begun(t, 2, 1, 2)
	hearsAll(t, e, made(t, "ab", 1, 1, 2)...)
	tells(t, e, true, "ab", api.OK)
	hears(t, e, api.Drop{Seed: seedOf(t, 2, 0, 0, 1), Data: "x"}, 3, 3, 2)
	tells(t, e, true, "", api.ErrClash)
}

// TestFirstBytes: the bytes behind the n-th are not told, be they 0 or not.
func TestFirstBytes(t *testing.T) {
	for n := 5; n <= 8; n++ {
		e := begun(t, 2, 4, n)
		hearsAll(t, e, api.Drop{Seed: 2, Data: "efgh"}, api.Drop{Seed: 1, Data: "abcd"})
		tells(t, e, true, "abcdefgh"[:n], api.OK)
	}
	e := begun(t, 1, 4, 0)
	hears(t, e, api.Drop{Seed: 77, Data: "abcd"}, 1, 1, 1)
	tells(t, e, true, "", api.OK)
}

// TestWrongDrops: a seed that is none is told ahead of bytes that are not as many; none of these is heard.
func TestWrongDrops(t *testing.T) {
	wrongData := []string{"", "a", "abc", strings.Repeat("x", 100_000)}
	e := begun(t, 2, 2, 3)
	again := func() {
		t.Helper()
		for _, seed := range wrongSeed {
			for _, data := range append([]string{"ab"}, wrongData...) {
				refuses(t, e, api.Drop{Seed: seed, Data: data}, api.ErrRange)
			}
		}
		// 1 was heard, or comes next, and 5 never was.
		for _, seed := range []int{1, 5, api.MaxSeed} {
			for _, data := range wrongData {
				refuses(t, e, api.Drop{Seed: seed, Data: data}, api.ErrShape)
			}
		}
	}
	again()
	hears(t, e, api.Drop{Seed: 1, Data: "ab"}, 1, 1, 1)
	again()
	hears(t, e, api.Drop{Seed: 2, Data: "c\x00"}, 2, 2, 2)
	again()
	tells(t, e, true, "abc", api.OK)
}

// TestSizes: each number of bytes that a block may have, and no other.
func TestSizes(t *testing.T) {
	for size := 1; size <= api.MaxSize; size++ {
		e := begun(t, 2, size, 2*size)
		for n := range 2 * api.MaxSize {
			if n != size {
				refuses(t, e, api.Drop{Seed: 1, Data: "0123456789abcdef"[:n]}, api.ErrShape)
			}
		}
		hears(t, e, api.Drop{Seed: 1, Data: "01234567"[:size]}, 1, 1, 1)
	}
}

// TestSeeds: each that may be.
func TestSeeds(t *testing.T) {
	for seed := 1; seed <= api.MaxSeed; seed++ {
		hears(t, begun(t, 1, 1, 1), api.Drop{Seed: seed, Data: "x"}, 1, 1, 1)
	}
}

// TestFull: MaxDrops may be new, of any many that are heard; then none is heard any more, also none that was, and wrong ones are told as ever.
func TestFull(t *testing.T) {
	text := "abcdefgh"
	seed := func(i int) int { return 100 + i }
	e := begun(t, 8, 1, 8)
	for i := range api.MaxDrops {
		d := made(t, text, 1, seed(i))[0]
		hearsAll(t, e, d)
		if i+1 == api.MaxDrops {
			break
		}
		for range 3 {
			d.Data = "?"
			hearsAll(t, e, d)
		}
	}
	tells(t, e, true, text, api.OK)
	for _, i := range []int{0, 7, api.MaxDrops - 1, api.MaxDrops, 500} {
		refuses(t, e, made(t, text, 1, seed(i))[0], api.ErrFull)
	}
	for _, i := range []int{0, api.MaxDrops} {
		refuses(t, e, api.Drop{Seed: seed(i), Data: "xx"}, api.ErrShape)
	}
	for _, wrong := range wrongSeed {
		refuses(t, e, api.Drop{Seed: wrong, Data: "x"}, api.ErrRange)
	}
	tells(t, e, true, text, api.OK)
}

// TestManyHeard: how many are heard is not bounded, as long as they are not new; and the last one that is new has its numbers told.
func TestManyHeard(t *testing.T) {
	e := begun(t, 1, 1, 1)
	for i := range 1_000 {
		hears(t, e, api.Drop{Seed: 9, Data: "x"}, i+1, 1, 1)
	}
	for i := range api.MaxDrops - 1 {
		hears(t, e, api.Drop{Seed: 10 + i, Data: "x"}, 1_001+i, 2+i, 1)
	}
	refuses(t, e, api.Drop{Seed: 9, Data: "x"}, api.ErrFull)
	tells(t, e, true, "x", api.OK)
}

// TestFullFew: also of MaxDrops that are not enough it is told what is lacking.
func TestFullFew(t *testing.T) {
	e := begun(t, 2, 1, 2)
	for i := range api.MaxDrops {
		hears(t, e, api.Drop{Seed: seedOf(t, 2, i, 1), Data: "b"}, i+1, i+1, 1)
	}
	refuses(t, e, api.Drop{Seed: 1, Data: "a"}, api.ErrFull)
	tells(t, e, false, "", api.ErrFew, 0)
}

// TestAnyOrder: who heard enough has it, in whatever order the drops came.
func TestAnyOrder(t *testing.T) {
	text := "order!!"
	l := made(t, text, 2, 3, seedOf(t, 4, 0, 0, 1), seedOf(t, 4, 0, 1, 2), seedOf(t, 4, 0, 0, 1, 2, 3), seedOf(t, 4, 0, 0, 2))
	var each func(n int)
	each = func(n int) {
		if n == len(l) {
			e := begun(t, 4, 2, len(text))
			hearsAll(t, e, l...)
			tells(t, e, true, text, api.OK)
			return
		}
		for i := n; i < len(l); i++ {
			l[n], l[i] = l[i], l[n]
			each(n + 1)
			l[n], l[i] = l[i], l[n]
		}
	}
	each(0)
}

// TestWhoHeardEnoughHasIt: any text, any blocks, any drops of it: it is had at once when these are enough, and not ahead.
func TestWhoHeardEnoughHasIt(t *testing.T) {
	d := dice(12)
	for range 400 {
		size := 1 + d.below(api.MaxSize)
		text := d.bytes(d.below(min(api.MaxData, size*api.MaxBlocks) + 1))
		l, err := blocks.Split(text, size)
		if err != nil {
			t.Fatal(err)
		}
		e := begun(t, len(l), size, len(text))
		var seeds []int
		for !e.Done() && len(seeds) < api.MaxDrops {
			seed := 1 + d.below(api.MaxSeed)
			if slices.Contains(seeds, seed) {
				continue
			}
			seeds = append(seeds, seed)
			hearsAll(t, e, made(t, text, size, seed)...)
		}
		first, err := need.First(len(l), seeds)
		if err == nil && first == len(seeds) {
			tells(t, e, true, text, api.OK)
		} else if plain.Told(err) != api.ErrFew || e.Done() {
			t.Errorf("of %v seeds %v the first %d, %v, are enough; done: %v", len(l), seeds, first, err, e.Done())
		}
		if t.Failed() {
			return
		}
	}
}

// TestAgainstParts: any drops, also such as go together with no others, held against what the chapters ahead tell of those that were new.
func TestAgainstParts(t *testing.T) {
	d := dice(34)
	for range 300 {
		k, size := 1+d.below(api.MaxBlocks), 1+d.below(api.MaxSize)
		n := min(api.MaxData, k*size)
		if (k-1)*size >= n {
			continue
		}
		e := begun(t, k, size, n)
		p, err := peel.New(k, size)
		if err != nil {
			t.Fatal(err)
		}
		var fresh []api.Drop
		for heard := 1; heard <= 100 && len(fresh) < api.MaxDrops; heard++ {
			next := api.Drop{Seed: 1 + d.below(3*k), Data: strings.Repeat(string([]byte{byte(d.below(2))}), size)}
			if !slices.Contains(seedsOf(fresh), next.Seed) {
				fresh = append(fresh, next)
				if _, err := p.Take(next); err != nil {
					t.Fatal(err)
				}
			}
			hears(t, e, next, heard, len(fresh), len(p.Knows()))
			tellsOf(t, e, k, size, n, fresh)
			if t.Failed() {
				t.Fatalf("k %d, size %d, drops %v", k, size, fresh)
			}
		}
	}
}

// tellsOf drops that were new what the chapters ahead do.
func tellsOf(t *testing.T, e *ear.Ear, k, size, n int, fresh []api.Drop) {
	t.Helper()
	rank, err := solve.Rank(k, seedsOf(fresh))
	if err != nil {
		t.Fatal(err)
	}
	lacks, err := need.Lacks(k, seedsOf(fresh))
	if err != nil || len(lacks) != k-rank {
		t.Fatalf("%v are lacking of %d of %d, %v", lacks, rank, k, err)
	}
	data := ""
	l, err := solve.Solve(k, size, fresh)
	if err == nil {
		data, err = blocks.Join(l, n)
	}
	tells(t, e, rank == k, data, plain.Told(err), lacks...)
}

// TestAskedAgain: what is asked changes nothing.
func TestAskedAgain(t *testing.T) {
	e := begun(t, 3, 2, 6)
	hearsAll(t, e, made(t, "abcdef", 2, 1, seedOf(t, 3, 0, 1, 2))...)
	for range 50 {
		tells(t, e, false, "", api.ErrFew, 1)
	}
	hears(t, e, made(t, "abcdef", 2, 3)[0], 3, 3, 3)
	for range 50 {
		tells(t, e, true, "abcdef", api.OK)
	}
}

// TestNothingIsKept: bytes that are written anew behind a drop's back are those that were heard.
func TestNothingIsKept(t *testing.T) {
	b := []byte("abcd")
	e := begun(t, 2, 2, 4)
	hearsAll(t, e, api.Drop{Seed: 1, Data: unsafe.String(&b[0], 2)}, api.Drop{Seed: seedOf(t, 2, 0, 0, 1), Data: unsafe.String(&b[2], 2)})
	want, err := e.Data()
	if err != nil {
		t.Fatal(err)
	}
	want = strings.Clone(want)
	copy(b, "????")
	if got, err := e.Data(); got != want || err != nil {
		t.Errorf("Data: %q, %v; was %q", got, err, want)
	}
}

// TestAnswersAreFresh: what is written into one answer is not seen in another, nor by the ear.
func TestAnswersAreFresh(t *testing.T) {
	e := begun(t, 5, 2, 10)
	hearsAll(t, e, made(t, "abcdefghij", 2, 2)...)
	first, second := e.Lacks(), e.Lacks()
	clear(first[:cap(first)])
	_ = append(first[:1], 77)
	if want := []int{0, 2, 3, 4}; !slices.Equal(second, want) || !slices.Equal(e.Lacks(), want) {
		t.Errorf("answers share memory: %v, %v; want %v", second, e.Lacks(), want)
	}
	d := api.Drop{Seed: 1, Data: strings.Clone("ab")}
	one := begun(t, 1, 2, 2)
	hearsAll(t, one, d)
	stand := map[*byte]struct{}{unsafe.StringData(d.Data): {}}
	for range 3 {
		data, err := one.Data()
		if data != "ab" || err != nil {
			t.Fatalf("Data: %q, %v", data, err)
		}
		stand[unsafe.StringData(data)] = struct{}{}
	}
	if len(stand) != 4 {
		t.Errorf("of four texts some share memory: they stand at %d places", len(stand))
	}
}

// TestApart: what one ear hears another does not.
func TestApart(t *testing.T) {
	a, b := begun(t, 2, 1, 2), begun(t, 2, 1, 2)
	hears(t, a, api.Drop{Seed: 1, Data: "a"}, 1, 1, 1)
	hears(t, b, api.Drop{Seed: 2, Data: "b"}, 1, 1, 1)
	tells(t, a, false, "", api.ErrFew, 1)
	tells(t, b, false, "", api.ErrFew, 0)
	hears(t, a, api.Drop{Seed: 2, Data: "c"}, 2, 2, 2)
	tells(t, a, true, "ac", api.OK)
	tells(t, b, false, "", api.ErrFew, 0)
}

// TestFace: an ear has the methods that the chapter lists and no others, so that no drop comes to its peeler unheard, and the peeler cannot be taken out.
func TestFace(t *testing.T) {
	face := reflect.TypeFor[*ear.Ear]()
	var names []string
	for i := range face.NumMethod() {
		names = append(names, face.Method(i).Name)
	}
	if want := []string{"Data", "Done", "Hear", "Lacks"}; !slices.Equal(names, want) {
		t.Errorf("methods: %v; want %v", names, want)
	}
	for _, f := range reflect.VisibleFields(face.Elem()) {
		if f.IsExported() {
			t.Errorf("field %s is handed out", f.Name)
		}
	}
}
