package air_test

import (
	"math"
	"slices"
	"strconv"
	"strings"
	"testing"
	"unsafe"

	"dropletmill/air"
	"dropletmill/api"
	"dropletmill/plain"
)

// Numbers that are none of their kind.
var (
	wrongSeed  = []int{0, -1, api.MaxSeed + 1, 1<<32 + 1, math.MaxInt, math.MinInt}
	wrongPlace = []int{-1, -2, api.MaxDrops, api.MaxDrops + 1, 1 << 32, math.MaxInt, math.MinInt}
	wrongData  = []string{"", "123456789", strings.Repeat("x", 100_000)}
)

// sent: an air with these drops.
func sent(t *testing.T, drops ...api.Drop) *air.Air {
	t.Helper()
	a := air.New()
	for _, d := range drops {
		sends(t, a, d)
	}
	return a
}

// some drops: seeds 1 and on, each with bytes of its own.
func some(many int) (out []api.Drop) {
	for i := range many {
		out = append(out, api.Drop{Seed: i + 1, Data: "d" + strconv.Itoa(i+1)})
	}
	return out
}

// seedsOf drops, in their order.
func seedsOf(l []api.Drop) (out []int) {
	for _, d := range l {
		out = append(out, d.Seed)
	}
	return out
}

// sends a drop, without an error.
func sends(t *testing.T, a *air.Air, d api.Drop) {
	t.Helper()
	if err := a.Send(d); err != nil {
		t.Errorf("Send of %v: %v", d, err)
	}
}

// gives this drop, without an error.
func gives(t *testing.T, a *air.Air, i int, want api.Drop) {
	t.Helper()
	if got, err := a.Give(i); got != want || err != nil {
		t.Errorf("Give(%d): %v, %v; want %v", i, got, err, want)
	}
}

// works: a call that must not fail.
func works(t *testing.T, what string, err error) {
	t.Helper()
	if err != nil {
		t.Errorf("%s: %v", what, err)
	}
}

// has these seeds.
func has(t *testing.T, a *air.Air, want ...int) {
	t.Helper()
	if got := a.All(); !slices.Equal(got, want) {
		t.Errorf("All: %v; want %v", got, want)
	}
}

// refuses: the call tells this error, and the seeds are as they were.
func refuses(t *testing.T, a *air.Air, what string, call func() error, want api.Errno) {
	t.Helper()
	was := a.All()
	if err := call(); plain.Told(err) != want {
		t.Errorf("%s: %v; want %v", what, err, want)
	}
	if got := a.All(); !slices.Equal(got, was) {
		t.Errorf("%s, refused, changed the seeds: %v; were %v", what, got, was)
	}
}

// refusesDrop: Send tells this error.
func refusesDrop(t *testing.T, a *air.Air, d api.Drop, want api.Errno) {
	t.Helper()
	refuses(t, a, "Send of seed "+strconv.Itoa(d.Seed), func() error { return a.Send(d) }, want)
}

// refusesPlace: Give, Lose and Twice tell that there is no such drop.
func refusesPlace(t *testing.T, a *air.Air, i int) {
	t.Helper()
	at := "(" + strconv.Itoa(i) + ")"
	refuses(t, a, "Give"+at, func() error {
		d, err := a.Give(i)
		if d != (api.Drop{}) {
			t.Errorf("Give%s, refused, gave %v", at, d)
		}
		return err
	}, api.ErrRange)
	refuses(t, a, "Lose"+at, func() error { return a.Lose(i) }, api.ErrRange)
	refuses(t, a, "Twice"+at, func() error { return a.Twice(i) }, api.ErrRange)
}

// holds just these drops, in this order: each is given, so that nothing is there then.
func holds(t *testing.T, a *air.Air, want ...api.Drop) {
	t.Helper()
	for _, d := range want {
		gives(t, a, 0, d)
	}
	has(t, a)
	refusesPlace(t, a, 0)
}

// TestNew: nothing is in the air.
func TestNew(t *testing.T) {
	a := air.New()
	if a == nil {
		t.Fatal("New: nil")
	}
	has(t, a)
	for _, i := range append([]int{0, 1}, wrongPlace...) {
		refusesPlace(t, a, i)
	}
}

// TestOrder: drops are there in the order in which they were sent, not in that of their seeds.
func TestOrder(t *testing.T) {
	l := []api.Drop{{Seed: 7, Data: "seven"}, {Seed: 2, Data: "two"}, {Seed: api.MaxSeed, Data: "most"}, {Seed: 1, Data: "one"}}
	a := air.New()
	for i, d := range l {
		sends(t, a, d)
		has(t, a, seedsOf(l[:i+1])...)
	}
	holds(t, a, l...)
}

// TestGive: of each place; what is behind it comes one place ahead.
func TestGive(t *testing.T) {
	for many := 1; many <= 5; many++ {
		for i := range many {
			l := some(many)
			a := sent(t, l...)
			gives(t, a, i, l[i])
			refusesPlace(t, a, many-1)
			holds(t, a, slices.Delete(l, i, i+1)...)
		}
	}
}

// TestLose: of each place.
func TestLose(t *testing.T) {
	for many := 1; many <= 5; many++ {
		for i := range many {
			l := some(many)
			a := sent(t, l...)
			works(t, "Lose", a.Lose(i))
			refusesPlace(t, a, many-1)
			holds(t, a, slices.Delete(l, i, i+1)...)
		}
	}
}

// TestTwice: of each place; the one that was there stays at its place.
func TestTwice(t *testing.T) {
	for many := 1; many <= 5; many++ {
		for i := range many {
			l := some(many)
			a := sent(t, l...)
			works(t, "Twice", a.Twice(i))
			refusesPlace(t, a, many+1)
			// One of the second is one of the first too.
			works(t, "Twice", a.Twice(many))
			holds(t, a, append(l, l[i], l[i])...)
		}
	}
}

// TestTwiceEach: of two that are alike one goes, and the other one stays.
func TestTwiceEach(t *testing.T) {
	l := some(3)
	a := sent(t, l...)
	works(t, "Twice", a.Twice(0))
	works(t, "Lose", a.Lose(0))
	has(t, a, 2, 3, 1)
	works(t, "Twice", a.Twice(2))
	gives(t, a, 2, l[0])
	holds(t, a, l[1], l[2], l[0])
}

// TestSameSeed: drops of one seed may be there at once, alike or not, and of other lengths.
func TestSameSeed(t *testing.T) {
	l := []api.Drop{{Seed: 5, Data: "a"}, {Seed: 5, Data: "a"}, {Seed: 5, Data: "b"}, {Seed: 5, Data: "12345678"}}
	a := sent(t, l...)
	has(t, a, 5, 5, 5, 5)
	holds(t, a, l...)
}

// TestSentAgain: what was given, or was lost, may be sent again.
func TestSentAgain(t *testing.T) {
	l := some(2)
	a := sent(t, l...)
	gives(t, a, 0, l[0])
	sends(t, a, l[0])
	has(t, a, 2, 1)
	works(t, "Lose", a.Lose(0))
	sends(t, a, l[1])
	holds(t, a, l...)
}

// TestAnyBytes: each length that may be, of all bytes.
func TestAnyBytes(t *testing.T) {
	for size := 1; size <= api.MaxSize; size++ {
		for b := range 256 {
			d := api.Drop{Seed: b + 1, Data: strings.Repeat(string([]byte{byte(b)}), size)}
			a := sent(t, d)
			works(t, "Twice", a.Twice(0))
			holds(t, a, d, d)
		}
	}
}

// TestSeeds: each that may be.
func TestSeeds(t *testing.T) {
	for seed := 1; seed <= api.MaxSeed; seed++ {
		a := sent(t, api.Drop{Seed: seed, Data: "x"})
		has(t, a, seed)
	}
}

// TestWrongDrops: that the seed is none is told ahead of the bytes, and both ahead of there being too many.
func TestWrongDrops(t *testing.T) {
	for _, many := range []int{0, 3, api.MaxDrops} {
		l := some(many)
		a := sent(t, l...)
		for _, seed := range wrongSeed {
			for _, data := range append([]string{"x", "12345678"}, wrongData...) {
				refusesDrop(t, a, api.Drop{Seed: seed, Data: data}, api.ErrRange)
			}
		}
		for _, seed := range []int{1, 500, api.MaxSeed} {
			for _, data := range wrongData {
				refusesDrop(t, a, api.Drop{Seed: seed, Data: data}, api.ErrShape)
			}
		}
		holds(t, a, l...)
	}
}

// TestFull: MaxDrops may be there; one more only when one has gone.
func TestFull(t *testing.T) {
	l := some(api.MaxDrops)
	more := api.Drop{Seed: 99, Data: "more"}
	a := sent(t, l[:api.MaxDrops-1]...)
	works(t, "Twice", a.Twice(3))
	full := func() {
		t.Helper()
		refusesDrop(t, a, more, api.ErrFull)
		for _, i := range []int{0, 3, api.MaxDrops - 1} {
			refuses(t, a, "Twice", func() error { return a.Twice(i) }, api.ErrFull)
		}
		// That there is no such drop is told ahead of there being too many.
		for _, i := range wrongPlace {
			refusesPlace(t, a, i)
		}
	}
	full()
	works(t, "Lose", a.Lose(api.MaxDrops-1))
	sends(t, a, l[api.MaxDrops-1])
	full()
	gives(t, a, 0, l[0])
	works(t, "Twice", a.Twice(0))
	full()
	holds(t, a, append(l[1:], l[1])...)
	// So many at once, not in all.
	for range 3 * api.MaxDrops {
		sends(t, a, more)
		gives(t, a, 0, more)
	}
}

// TestWrongPlaces: no drop is ahead of the first, or behind the last.
func TestWrongPlaces(t *testing.T) {
	for _, many := range []int{1, 2, api.MaxDrops - 1, api.MaxDrops} {
		l := some(many)
		a := sent(t, l...)
		for _, i := range append([]int{many, many + 1}, wrongPlace...) {
			refusesPlace(t, a, i)
		}
		holds(t, a, l...)
	}
}

// TestAgainstList: any calls, held against a list of drops.
func TestAgainstList(t *testing.T) {
	chance := uint32(1)
	below := func(n int) int {
		chance = chance*1664525 + 1013904223
		return int(chance>>8) % n
	}
	a := air.New()
	var l []api.Drop
	for range 20_000 {
		i := below(api.MaxDrops+4) - 2
		there := i >= 0 && i < len(l)
		if !there {
			refusesPlace(t, a, i)
		}
		switch what := below(6); {
		case what < 2 && len(l) < api.MaxDrops:
			d := api.Drop{Seed: below(api.MaxSeed) + 1, Data: strings.Repeat(strconv.Itoa(below(10)), below(api.MaxSize)+1)}
			sends(t, a, d)
			l = append(l, d)
		case what == 2 && there && len(l) < api.MaxDrops:
			works(t, "Twice", a.Twice(i))
			l = append(l, l[i])
		case what == 3 && there:
			gives(t, a, i, l[i])
			l = slices.Delete(l, i, i+1)
		case what == 4 && there:
			works(t, "Lose", a.Lose(i))
			l = slices.Delete(l, i, i+1)
		}
		if t.Failed() || !slices.Equal(a.All(), seedsOf(l)) {
			t.Fatalf("All: %v; want %v", a.All(), seedsOf(l))
		}
	}
	holds(t, a, l...)
}

// TestAllIsFresh: what is written into one answer is not seen in another, nor in the air.
func TestAllIsFresh(t *testing.T) {
	a := sent(t, some(5)...)
	first, second := a.All(), a.All()
	clear(first[:cap(first)])
	_ = append(first[:2], 77)
	if want := []int{1, 2, 3, 4, 5}; !slices.Equal(second, want) {
		t.Errorf("answers share memory: %v; want %v", second, want)
	}
	holds(t, a, some(5)...)
}

// TestBytesAreFresh: neither the bytes that were handed in nor those of another drop are given.
func TestBytesAreFresh(t *testing.T) {
	d := api.Drop{Seed: 3, Data: strings.Clone("bytes")}
	a := sent(t, d, d)
	works(t, "Twice", a.Twice(0))
	works(t, "Twice", a.Twice(2))
	stand := map[*byte]struct{}{unsafe.StringData(d.Data): {}}
	for range 4 {
		got, err := a.Give(0)
		if got != d || err != nil {
			t.Fatalf("Give: %v, %v", got, err)
		}
		stand[unsafe.StringData(got.Data)] = struct{}{}
	}
	if len(stand) != 5 {
		t.Errorf("of five texts some share memory: they stand at %d places", len(stand))
	}
}

// TestApart: what one air has is not in another.
func TestApart(t *testing.T) {
	l := some(4)
	a, b := sent(t, l[:2]...), sent(t, l[2:]...)
	works(t, "Lose", a.Lose(0))
	works(t, "Twice", b.Twice(1))
	has(t, air.New())
	holds(t, a, l[1])
	holds(t, b, l[2], l[3], l[3])
}
