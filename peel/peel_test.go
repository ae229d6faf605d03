package peel_test

import (
	"math"
	"slices"
	"strings"
	"testing"
	"unsafe"

	"dropletmill/api"
	"dropletmill/drop"
	"dropletmill/peel"
	"dropletmill/plain"
)

// begun: a peeler that must be there.
func begun(t *testing.T, k, size int) *peel.Peeler {
	t.Helper()
	p, err := peel.New(k, size)
	if p == nil || err != nil {
		t.Fatalf("New(%d, %d): %v, %v", k, size, p, err)
	}
	return p
}

// seedOf the nth drop, from 0 on, of just these of k blocks.
func seedOf(t *testing.T, k, nth int, places ...int) int {
	t.Helper()
	for seed := 1; seed <= api.MaxSeed; seed++ {
		if set, _ := drop.Set(k, seed); slices.Equal(set, places) {
			if nth == 0 {
				return seed
			}
			nth--
		}
	}
	t.Fatalf("no seed of %d blocks has %v", k, places)
	return 0
}

// takes a drop, and holds what is told, and how many wait then, against what is wanted.
func takes(t *testing.T, p *peel.Peeler, seed int, data string, waits int, found ...int) {
	t.Helper()
	got, err := p.Take(api.Drop{Seed: seed, Data: data})
	if !slices.Equal(got, found) || err != nil || p.Waits() != waits {
		t.Errorf("Take of seed %d, %q: %v, %v, %d wait; want %v, %d wait", seed, data, got, err, p.Waits(), found, waits)
	}
}

// refuses a drop, and is as it was.
func refuses(t *testing.T, p *peel.Peeler, d api.Drop, want api.Errno) {
	t.Helper()
	knows, waits := p.Knows(), p.Waits()
	got, err := p.Take(d)
	if len(got) != 0 || plain.Told(err) != want {
		t.Errorf("Take of %v: %v, %v; want %v", d, got, err, want)
	}
	if !slices.Equal(p.Knows(), knows) || p.Waits() != waits {
		t.Errorf("Take of %v, refused, changed something: %v, %d; was %v, %d", d, p.Knows(), p.Waits(), knows, waits)
	}
}

// has a block that is known.
func has(t *testing.T, p *peel.Peeler, i int, want string) {
	t.Helper()
	if got, err := p.Block(i); got != want || err != nil {
		t.Errorf("Block(%d): %q, %v; want %q", i, got, err, want)
	}
}

func TestNew(t *testing.T) {
	for k := 1; k <= api.MaxBlocks; k++ {
		for size := 1; size <= api.MaxSize; size++ {
			p := begun(t, k, size)
			if len(p.Knows()) != 0 || p.Waits() != 0 {
				t.Errorf("New(%d, %d) knows %v, and %d wait", k, size, p.Knows(), p.Waits())
			}
			for i := range k {
				if b, err := p.Block(i); b != "" || plain.Told(err) != api.ErrNone {
					t.Errorf("Block(%d) of a new one: %q, %v", i, b, err)
				}
			}
		}
	}
}

func TestNewErrors(t *testing.T) {
	wrong := []int{0, -1, api.MaxBlocks + 1, 1<<32 + 1, math.MaxInt, math.MinInt}
	ask := func(k, size int) {
		t.Helper()
		if p, err := peel.New(k, size); p != nil || plain.Told(err) != api.ErrRange {
			t.Errorf("New(%d, %d): %v, %v; want ErrRange", k, size, p, err)
		}
	}
	for _, n := range wrong {
		ask(n, 1)
		ask(n, api.MaxSize)
		ask(1, n)
		ask(api.MaxBlocks, n)
		ask(n, n)
	}
	ask(3, api.MaxSize+1)
	ask(api.MaxBlocks, api.MaxBlocks)
}

// TestOneByOne: a drop of two waits, until one of them is known; one makes the next known.
func TestOneByOne(t *testing.T) {
	p := begun(t, 5, 2)
	takes(t, p, seedOf(t, 5, 0, 2, 4), "\x14\x28", 1)
	takes(t, p, seedOf(t, 5, 0, 1, 2), "\x06\x60", 2)
	takes(t, p, 4, "\x08\x10", 2, 3)
	takes(t, p, 5, "\x10\x08", 0, 1, 2, 4)
	if got := p.Knows(); !slices.Equal(got, []int{1, 2, 3, 4}) {
		t.Errorf("Knows: %v", got)
	}
	has(t, p, 1, "\x02\x40")
	has(t, p, 2, "\x04\x20")
	has(t, p, 3, "\x08\x10")
	has(t, p, 4, "\x10\x08")
	if b, err := p.Block(0); b != "" || plain.Told(err) != api.ErrNone {
		t.Errorf("Block(0), that is not known: %q, %v", b, err)
	}
}

// TestNoneLeft: a drop all of whose blocks are known does not wait, nor tell anything, be its bytes as they may.
func TestNoneLeft(t *testing.T) {
	p := begun(t, 3, 1)
	takes(t, p, 1, "a", 0, 0)
	takes(t, p, 2, "b", 0, 1)
	takes(t, p, seedOf(t, 3, 0, 0, 1), "z", 0)
	takes(t, p, seedOf(t, 3, 1, 0), "z", 0)
	has(t, p, 0, "a")
	has(t, p, 1, "b")
}

// TestLeftBehind: drops that wait for the same block all cease to wait when one of them makes it known.
func TestLeftBehind(t *testing.T) {
	p := begun(t, 4, 1)
	takes(t, p, seedOf(t, 4, 0, 0, 1), "\x03", 1)
	takes(t, p, seedOf(t, 4, 1, 0, 1), "\x03", 2)
	takes(t, p, seedOf(t, 4, 0, 2, 3), "\x0c", 3)
	takes(t, p, 1, "\x01", 1, 0, 1)
}

// TestFirstIsBelieved: of drops that speak against each other the one that came first makes the block known.
func TestFirstIsBelieved(t *testing.T) {
	for _, c := range []struct{ first, second, want string }{
		{"\x10", "\x20", "\x11"},
		{"\x20", "\x10", "\x21"},
	} {
		p := begun(t, 4, 1)
		takes(t, p, seedOf(t, 4, 1, 0, 1), c.first, 1)
		takes(t, p, seedOf(t, 4, 0, 0, 1), c.second, 2)
		takes(t, p, 1, "\x01", 0, 0, 1)
		has(t, p, 1, c.want)
	}
}

// TestFromTheFirstAgain: after each block the first is sought anew, also ahead of the drop that made it known.
func TestFromTheFirstAgain(t *testing.T) {
	p := begun(t, 4, 1)
	takes(t, p, seedOf(t, 4, 0, 1, 2), "\x40", 1)
	takes(t, p, seedOf(t, 4, 0, 0, 1), "\x01", 2)
	takes(t, p, seedOf(t, 4, 0, 0, 2), "\x02", 3)
	// 0 is known; then 1 by the second, as 2 is not known; then 2 by the first, not by the third.
	takes(t, p, 1, "\x00", 0, 0, 1, 2)
	has(t, p, 1, "\x01")
	has(t, p, 2, "\x41")
}

func TestTakeErrors(t *testing.T) {
	p := begun(t, 5, 2)
	takes(t, p, 3, "ab", 0, 2)
	takes(t, p, seedOf(t, 5, 0, 1, 3), "cd", 1)
	for _, seed := range []int{0, -1, api.MaxSeed + 1, 1<<32 + 1, math.MaxInt, math.MinInt} {
		refuses(t, p, api.Drop{Seed: seed, Data: "ab"}, api.ErrRange)
		refuses(t, p, api.Drop{Seed: seed, Data: "abc"}, api.ErrRange)
	}
	for _, data := range []string{"", "a", "abc", strings.Repeat("a", api.MaxData+1)} {
		refuses(t, p, api.Drop{Seed: 1, Data: data}, api.ErrShape)
		// What is wrong with the drop is told ahead of that its seed was taken.
		refuses(t, p, api.Drop{Seed: 3, Data: data}, api.ErrShape)
	}
	refuses(t, p, api.Drop{Seed: 3, Data: "ab"}, api.ErrClash)
	refuses(t, p, api.Drop{Seed: 3, Data: "zz"}, api.ErrClash)
	// Of one that waits still, too; and what was refused is not taken.
	refuses(t, p, api.Drop{Seed: seedOf(t, 5, 0, 1, 3), Data: "cd"}, api.ErrClash)
	takes(t, p, 1, "ef", 1, 0)
}

// TestFull: MaxDrops are taken and no more, whether they wait, made something known or were of no use.
func TestFull(t *testing.T) {
	for _, k := range []int{1, 2, 7, api.MaxBlocks} {
		p := begun(t, k, 1)
		for i := range api.MaxDrops {
			if _, err := p.Take(api.Drop{Seed: api.MaxSeed - i, Data: "a"}); err != nil {
				t.Fatalf("of %d blocks, drop %d: %v", k, i, err)
			}
			refuses(t, p, api.Drop{Seed: api.MaxSeed - i, Data: "a"}, api.ErrClash)
		}
		refuses(t, p, api.Drop{Seed: 1, Data: "a"}, api.ErrFull)
		refuses(t, p, api.Drop{Seed: 1, Data: "a"}, api.ErrFull)
		// Ahead of it: the drop itself, and that its seed was taken.
		refuses(t, p, api.Drop{Seed: 0, Data: "a"}, api.ErrRange)
		refuses(t, p, api.Drop{Seed: 1, Data: "ab"}, api.ErrShape)
		refuses(t, p, api.Drop{Seed: api.MaxSeed, Data: "a"}, api.ErrClash)
		refuses(t, p, api.Drop{Seed: api.MaxSeed - api.MaxDrops + 1, Data: "a"}, api.ErrClash)
	}
}

// TestRefusedAreNotCounted: what is refused takes no place of the MaxDrops.
func TestRefusedAreNotCounted(t *testing.T) {
	p := begun(t, 3, 1)
	for range 2 * api.MaxDrops {
		refuses(t, p, api.Drop{Seed: 1, Data: ""}, api.ErrShape)
	}
	for seed := 1; seed <= api.MaxDrops; seed++ {
		if _, err := p.Take(api.Drop{Seed: seed, Data: "a"}); err != nil {
			t.Fatalf("seed %d: %v", seed, err)
		}
	}
	refuses(t, p, api.Drop{Seed: api.MaxDrops + 1, Data: "a"}, api.ErrFull)
}

func TestBlockErrors(t *testing.T) {
	for k := 1; k <= api.MaxBlocks; k++ {
		p := begun(t, k, 1)
		for _, i := range []int{-1, k, k + 1, api.MaxBlocks, 1 << 32, math.MaxInt, math.MinInt} {
			if b, err := p.Block(i); b != "" || plain.Told(err) != api.ErrRange {
				t.Errorf("Block(%d) of %d: %q, %v; want ErrRange", i, k, b, err)
			}
		}
		takes(t, p, k, "z", 0, k-1)
		has(t, p, k-1, "z")
		if b, err := p.Block(k); b != "" || plain.Told(err) != api.ErrRange {
			t.Errorf("Block(%d) of %d: %q, %v; want ErrRange", k, k, b, err)
		}
	}
}

// told is a drop as the test's own reckoning keeps it: all that were taken, with none thrown away.
type told struct {
	set  []int
	data []byte
	gone bool
}

// reckoning of the promise, word by word.
type reckoning struct {
	known map[int][]byte
	all   []*told
}

// lacking places of a drop.
func (r *reckoning) lacking(d *told) (out []int) {
	for _, i := range d.set {
		if r.known[i] == nil {
			out = append(out, i)
		}
	}
	return out
}

// take a drop that may be taken.
func (r *reckoning) take(k int, d api.Drop) (found []int) {
	set, _ := drop.Set(k, d.Seed)
	r.all = append(r.all, &told{set: set, data: []byte(d.Data)})
	for {
		var first *told
		for _, w := range r.all {
			lacks := r.lacking(w)
			w.gone = w.gone || len(lacks) == 0
			if first == nil && !w.gone && len(lacks) == 1 {
				first = w
			}
		}
		if first == nil {
			slices.Sort(found)
			return found
		}
		data := slices.Clone(first.data)
		for _, i := range first.set {
			for j, b := range r.known[i] {
				data[j] ^= b
			}
		}
		place := r.lacking(first)[0]
		r.known[place] = data
		found = append(found, place)
	}
}

// waits: how many do.
func (r *reckoning) waits() (n int) {
	for _, w := range r.all {
		if !w.gone {
			n++
		}
	}
	return n
}

// dice that fall the same each time.
type dice uint64

func (d *dice) below(n int) int {
	*d = *d*6364136223846793005 + 1442695040888963407
	return int(uint64(*d) >> 33 % uint64(n))
}

func (d *dice) bytes(n int) string {
	b := make([]byte, n)
	for i := range b {
		b[i] = byte(d.below(256))
	}
	return string(b)
}

// TestAgainstReckoning: any drops, that need not go together, at every number of blocks and every size.
func TestAgainstReckoning(t *testing.T) {
	fall := dice(1)
	for k := 1; k <= api.MaxBlocks; k++ {
		for size := 1; size <= api.MaxSize; size++ {
			for range 20 {
				p, r := begun(t, k, size), &reckoning{known: map[int][]byte{}}
				seeds := map[int]bool{}
				most := []int{3 * k, 200, api.MaxSeed}[fall.below(3)]
				for range api.MaxDrops {
					d := api.Drop{Seed: 1 + fall.below(most), Data: fall.bytes(size)}
					if seeds[d.Seed] {
						refuses(t, p, d, api.ErrClash)
						continue
					}
					seeds[d.Seed] = true
					found := r.take(k, d)
					takes(t, p, d.Seed, d.Data, r.waits(), found...)
					agrees(t, p, r, k)
				}
			}
		}
	}
}

// agrees: a peeler knows what the reckoning does.
func agrees(t *testing.T, p *peel.Peeler, r *reckoning, k int) {
	t.Helper()
	var knows []int
	for i := range k {
		want, ok := r.known[i]
		if ok {
			knows = append(knows, i)
			has(t, p, i, string(want))
		} else if b, err := p.Block(i); b != "" || plain.Told(err) != api.ErrNone {
			t.Errorf("Block(%d), that is not known: %q, %v", i, b, err)
		}
	}
	if got := p.Knows(); !slices.Equal(got, knows) {
		t.Errorf("Knows: %v; want %v", got, knows)
	}
}

// shuffled drops.
func (d *dice) shuffled(l []api.Drop) []api.Drop {
	l = slices.Clone(l)
	for i := range l {
		j := i + d.below(len(l)-i)
		l[i], l[j] = l[j], l[i]
	}
	return l
}

// TestInWhateverOrder: of drops of a text the blocks that are found are its own, and the same ones in whatever order the drops come.
func TestInWhateverOrder(t *testing.T) {
	fall := dice(2)
	for k := 1; k <= api.MaxBlocks; k++ {
		for range 20 {
			size := 1 + fall.below(api.MaxSize)
			l := make([]string, k)
			for i := range l {
				l[i] = fall.bytes(size)
			}
			var drops []api.Drop
			for i := range 2 * k {
				d, err := drop.Make(l, 1+i*300+fall.below(300))
				if err != nil {
					t.Fatal(err)
				}
				drops = append(drops, d)
			}
			first := heard(t, l, drops)
			for range 5 {
				again := heard(t, l, fall.shuffled(drops))
				if !slices.Equal(again.Knows(), first.Knows()) || again.Waits() != first.Waits() {
					t.Fatalf("of %d blocks: %v known, %d wait; in another order %v, %d", k, first.Knows(), first.Waits(), again.Knows(), again.Waits())
				}
			}
		}
	}
}

// heard: a peeler of drops of blocks; what it knows is so, and each block was told once.
func heard(t *testing.T, l []string, drops []api.Drop) *peel.Peeler {
	t.Helper()
	p := begun(t, len(l), len(l[0]))
	var found []int
	for _, d := range drops {
		more, err := p.Take(d)
		if err != nil || !slices.IsSorted(more) {
			t.Fatalf("Take of %v: %v, %v", d, more, err)
		}
		found = append(found, more...)
	}
	slices.Sort(found)
	if !slices.Equal(found, p.Knows()) {
		t.Fatalf("told %v; knows %v", found, p.Knows())
	}
	for _, i := range found {
		has(t, p, i, l[i])
	}
	return p
}

// TestAnswersAreFresh: what is written into an answer is not seen in another.
func TestAnswersAreFresh(t *testing.T) {
	p := begun(t, 4, 1)
	takes(t, p, seedOf(t, 4, 0, 1, 3), "\x0a", 1)
	found, _ := p.Take(api.Drop{Seed: 2, Data: "\x02"})
	if !slices.Equal(found, []int{1, 3}) {
		t.Fatalf("Take: %v", found)
	}
	knows := p.Knows()
	found[0], found[1] = 9, 9
	if !slices.Equal(knows, []int{1, 3}) {
		t.Errorf("Knows lies in what Take told: %v", knows)
	}
	clear(knows)
	_ = append(knows, 9)
	if got := p.Knows(); !slices.Equal(got, []int{1, 3}) {
		t.Errorf("Knows, after its answer was written into: %v", got)
	}
}

// TestTextsAreFresh: neither is a text that was handed in kept, nor one that is kept handed out.
func TestTextsAreFresh(t *testing.T) {
	p := begun(t, 3, 8)
	data := strings.Repeat("ab", 4)
	takes(t, p, 1, data, 0, 0)
	first, _ := p.Block(0)
	second, _ := p.Block(0)
	if first != data || second != data {
		t.Fatalf("Block(0): %q, %q", first, second)
	}
	if unsafe.StringData(first) == unsafe.StringData(data) {
		t.Error("an answer lies in an argument")
	}
	if unsafe.StringData(first) == unsafe.StringData(second) {
		t.Error("two answers share memory")
	}
}

// TestBytesAreNotKept: a drop that waits has its bytes, though the memory they came in is written over.
func TestBytesAreNotKept(t *testing.T) {
	p := begun(t, 4, 1)
	memory := []byte{0x0a}
	takes(t, p, seedOf(t, 4, 0, 1, 3), unsafe.String(&memory[0], 1), 1)
	memory[0] = 0xff
	takes(t, p, 2, "\x02", 0, 1, 3)
	has(t, p, 3, "\x08")
}

// TestPeelersAreApart: what one takes another does not know.
func TestPeelersAreApart(t *testing.T) {
	a, b := begun(t, 3, 1), begun(t, 3, 1)
	takes(t, a, 1, "a", 0, 0)
	takes(t, b, 1, "b", 0, 0)
	takes(t, b, seedOf(t, 3, 0, 1, 2), "c", 1)
	has(t, a, 0, "a")
	has(t, b, 0, "b")
	if a.Waits() != 0 || b.Waits() != 1 {
		t.Errorf("%d and %d wait", a.Waits(), b.Waits())
	}
}

// TestAskingChangesNothing: between two drops, ask as often as one likes.
func TestAskingChangesNothing(t *testing.T) {
	p := begun(t, 4, 1)
	takes(t, p, seedOf(t, 4, 0, 1, 3), "\x0a", 1)
	takes(t, p, 1, "\x01", 1, 0)
	for range 3 {
		has(t, p, 0, "\x01")
		p.Block(3)
		p.Block(-1)
		if !slices.Equal(p.Knows(), []int{0}) || p.Waits() != 1 {
			t.Fatalf("knows %v, %d wait", p.Knows(), p.Waits())
		}
	}
	takes(t, p, 4, "\x08", 0, 1, 3)
}
