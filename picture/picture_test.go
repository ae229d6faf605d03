package picture_test

import (
	"math"
	"slices"
	"testing"

	"dropletmill/api"
	"dropletmill/picture"
	"dropletmill/plain"
)

// Numbers that are none of their kind.
var (
	wrongSide  = []int{0, -1, -6, api.MaxSide + 1, 1<<32 + 1, math.MaxInt, math.MinInt}
	wrongPixel = []int{-1, -255, 256, 1 << 32, math.MaxInt, math.MinInt}
	wrongMove  = []int{-api.MaxSide - 1, api.MaxSide + 1, 1<<32 + 1, -1 << 32, math.MaxInt, math.MinInt}
)

// of these sides, and pixels.
func of(wide, high int, pix ...int) api.Picture {
	return api.Picture{Wide: wide, High: high, Pix: pix}
}

// numbered: a picture, each of whose pixels is another.
func numbered(wide, high, from int) api.Picture {
	p := of(wide, high)
	for i := range wide * high {
		p.Pix = append(p.Pix, from+i)
	}
	return p
}

// same tells whether two pictures are.
func same(a, b api.Picture) bool {
	return a.Wide == b.Wide && a.High == b.High && slices.Equal(a.Pix, b.Pix)
}

// blank tells whether it is what stands beside an error.
func blank(p api.Picture) bool { return same(p, api.Picture{}) }

// copied: a picture in memory of its own.
func copied(p api.Picture) api.Picture {
	return of(p.Wide, p.High, slices.Clone(p.Pix)...)
}

// everySize that a picture may have.
func everySize(ask func(wide, high int)) {
	for wide := 1; wide <= api.MaxSide; wide++ {
		for high := 1; high <= api.MaxSide; high++ {
			ask(wide, high)
		}
	}
}

// checkIs: this is what Check tells of it, and each of the others of it, whatever else they are given.
func checkIs(t *testing.T, p api.Picture, want api.Errno) {
	t.Helper()
	if got := plain.Told(picture.Check(p)); got != want {
		t.Errorf("Check(%v): %v; want %v", p, got, want)
	}
	if want == api.OK {
		return
	}
	for _, b := range []api.Picture{p, of(1, 1, 0), of(0, 0), of(1, 1), of(1, 1, 256)} {
		unlikeRefuses(t, p, b, want)
	}
	unlikeRefuses(t, of(1, 1, 0), p, want)
	for _, m := range []api.Move{{}, {X: 1, Y: -1}, {X: 7}, {Y: math.MinInt}} {
		shiftRefuses(t, p, m, want)
	}
}

// flatRefuses: Flat answers that a number is none that may be, and nothing else.
func flatRefuses(t *testing.T, wide, high, n int) {
	t.Helper()
	if got, err := picture.Flat(wide, high, n); !blank(got) || plain.Told(err) != api.ErrRange {
		t.Errorf("Flat(%d, %d, %d): %v, %v; want ErrRange", wide, high, n, got, err)
	}
}

// unlikeIs: two pictures are so far apart, without an error, whichever is first.
func unlikeIs(t *testing.T, a, b api.Picture, want int) {
	t.Helper()
	if got, err := picture.Unlike(a, b); got != want || err != nil {
		t.Errorf("Unlike(%v, %v): %d, %v; want %d", a, b, got, err, want)
	}
	if got, err := picture.Unlike(b, a); got != want || err != nil {
		t.Errorf("Unlike(%v, %v): %d, %v; want %d", b, a, got, err, want)
	}
}

// unlikeRefuses: Unlike answers the error, and nothing else.
func unlikeRefuses(t *testing.T, a, b api.Picture, want api.Errno) {
	t.Helper()
	if got, err := picture.Unlike(a, b); got != 0 || plain.Told(err) != want {
		t.Errorf("Unlike(%v, %v): %d, %v; want %v", a, b, got, err, want)
	}
}

// shiftIs: a picture, moved so, is this one, without an error.
func shiftIs(t *testing.T, p api.Picture, x, y int, want api.Picture) {
	t.Helper()
	if got, err := picture.Shift(p, api.Move{X: x, Y: y}); !same(got, want) || err != nil {
		t.Errorf("Shift(%v, %d, %d): %v, %v; want %v", p, x, y, got, err, want)
	}
}

// shiftRefuses: Shift answers the error, and nothing else.
func shiftRefuses(t *testing.T, p api.Picture, m api.Move, want api.Errno) {
	t.Helper()
	if got, err := picture.Shift(p, m); !blank(got) || plain.Told(err) != want {
		t.Errorf("Shift(%v, %v): %v, %v; want %v", p, m, got, err, want)
	}
}

// pushed: a picture, moved by one pixel at a time: a row, or column, that comes in is the one that was at that side.
func pushed(p api.Picture, m api.Move) api.Picture {
	rows := [][]int{}
	for row := range slices.Chunk(p.Pix, p.Wide) {
		rows = append(rows, slices.Clone(row))
	}
	for ; m.Y > 0; m.Y-- {
		rows = append([][]int{slices.Clone(rows[0])}, rows[:p.High-1]...)
	}
	for ; m.Y < 0; m.Y++ {
		rows = append(rows[1:], slices.Clone(rows[p.High-1]))
	}
	for i, row := range rows {
		for range m.X {
			row = append([]int{row[0]}, row[:p.Wide-1]...)
		}
		for range -m.X {
			row = append(row[1:], row[p.Wide-1])
		}
		rows[i] = row
	}
	return of(p.Wide, p.High, slices.Concat(rows...)...)
}

// TestCheck: pictures of every size have nothing wrong, with pixels at both ends too.
func TestCheck(t *testing.T) {
	everySize(func(wide, high int) {
		checkIs(t, numbered(wide, high, 0), api.OK)
		checkIs(t, numbered(wide, high, 256-wide*high), api.OK)
	})
	checkIs(t, of(2, 2, 0, 255, 255, 0), api.OK)
}

// TestCheckSides: a side that is none that may be, also where pixels are as many, or are none that may be.
func TestCheckSides(t *testing.T) {
	for _, side := range wrongSide {
		for _, pix := range [][]int{nil, {}, {1}, {300}, make([]int, 6), make([]int, 7), make([]int, 49)} {
			checkIs(t, of(side, 1, pix...), api.ErrRange)
			checkIs(t, of(1, side, pix...), api.ErrRange)
			checkIs(t, of(side, side, pix...), api.ErrRange)
		}
	}
	checkIs(t, api.Picture{}, api.ErrRange)
	checkIs(t, of(-2, -3, 1, 2, 3, 4, 5, 6), api.ErrRange)
	checkIs(t, of(12, 3, make([]int, 36)...), api.ErrRange)
	// Sides of which the area, kept in 64 bits, would be 4.
	checkIs(t, of(1<<62+1, 4, 1, 2, 3, 4), api.ErrRange)
}

// TestCheckMany: too few pixels, or too many, ahead of one that is none that may be.
func TestCheckMany(t *testing.T) {
	everySize(func(wide, high int) {
		pix := make([]int, wide*high+1)
		checkIs(t, of(wide, high, pix...), api.ErrShape)
		checkIs(t, of(wide, high, pix[2:]...), api.ErrShape)
		pix[wide*high] = 256
		checkIs(t, of(wide, high, pix...), api.ErrShape)
		checkIs(t, of(wide, high), api.ErrShape)
	})
	checkIs(t, of(6, 6, make([]int, 100_000)...), api.ErrShape)
	// What lies behind a list's length is not read.
	checkIs(t, of(2, 1, make([]int, 1, 2)...), api.ErrShape)
	checkIs(t, of(2, 1, []int{1, 2, 300}[:2]...), api.OK)
}

// TestCheckPixels: one pixel that is none that may be, at each place.
func TestCheckPixels(t *testing.T) {
	for _, n := range wrongPixel {
		everySize(func(wide, high int) {
			for place := range wide * high {
				p := numbered(wide, high, 7)
				p.Pix[place] = n
				if got := plain.Told(picture.Check(p)); got != api.ErrRange {
					t.Errorf("Check(%v): %v; want ErrRange", p, got)
				}
			}
		})
		checkIs(t, of(2, 1, n, 0), api.ErrRange)
		checkIs(t, of(2, 1, 0, n), api.ErrRange)
	}
}

// TestFlat: of every size, with every number.
func TestFlat(t *testing.T) {
	everySize(func(wide, high int) {
		for n := range 256 {
			want := of(wide, high)
			for range wide * high {
				want.Pix = append(want.Pix, n)
			}
			if got, err := picture.Flat(wide, high, n); !same(got, want) || err != nil {
				t.Errorf("Flat(%d, %d, %d): %v, %v", wide, high, n, got, err)
			}
		}
	})
}

// TestFlatErrors: each number alone is none that may be, or with the others.
func TestFlatErrors(t *testing.T) {
	for _, side := range wrongSide {
		for _, other := range append([]int{1, 6}, wrongSide...) {
			for _, n := range []int{0, 255, -1, 256} {
				flatRefuses(t, side, other, n)
				flatRefuses(t, other, side, n)
			}
		}
	}
	for _, n := range wrongPixel {
		everySize(func(wide, high int) { flatRefuses(t, wide, high, n) })
	}
}

// TestUnlike: the greatest difference, at whichever place, and to whichever side.
func TestUnlike(t *testing.T) {
	unlikeIs(t, of(2, 2, 1, 2, 3, 4), of(2, 2, 1, 2, 3, 4), 0)
	unlikeIs(t, of(2, 2, 1, 2, 3, 4), of(2, 2, 2, 3, 4, 5), 1)
	unlikeIs(t, of(3, 1, 10, 20, 30), of(3, 1, 15, 13, 36), 7)
	unlikeIs(t, of(1, 1, 0), of(1, 1, 255), 255)
	unlikeIs(t, of(1, 3, 255, 0, 128), of(1, 3, 0, 255, 128), 255)
	everySize(func(wide, high int) {
		for place := range wide * high {
			a, b := numbered(wide, high, 100), numbered(wide, high, 101)
			b.Pix[place] += place + 1
			unlikeIs(t, a, b, place+2)
		}
	})
	for a := range 256 {
		for b := range 256 {
			unlikeIs(t, of(1, 1, a), of(1, 1, b), max(a, b)-min(a, b))
		}
	}
}

// TestUnlikeErrors: what is wrong with a is told, then with b, then that they have not the same sides.
func TestUnlikeErrors(t *testing.T) {
	shape, number := of(2, 1, 1), of(2, 1, 1, 256)
	unlikeRefuses(t, shape, number, api.ErrShape)
	unlikeRefuses(t, number, shape, api.ErrRange)
	unlikeRefuses(t, of(1, 1, 1), shape, api.ErrShape)
	unlikeRefuses(t, of(1, 1, 1), number, api.ErrRange)
	unlikeRefuses(t, of(7, 1, 1, 1, 1, 1, 1, 1, 1), of(1, 1), api.ErrRange)
	unlikeRefuses(t, of(1, 1), of(7, 1, 1, 1, 1, 1, 1, 1, 1), api.ErrShape)
	everySize(func(wide, high int) {
		everySize(func(other, tall int) {
			if wide != other || high != tall {
				unlikeRefuses(t, numbered(wide, high, 0), numbered(other, tall, 0), api.ErrShape)
			}
		})
	})
}

// TestShift: at each place what was so many to the left, and above.
func TestShift(t *testing.T) {
	p := of(3, 2, 1, 2, 3, 4, 5, 6)
	shiftIs(t, p, 0, 0, p)
	shiftIs(t, p, 1, 0, of(3, 2, 1, 1, 2, 4, 4, 5))
	shiftIs(t, p, -1, 0, of(3, 2, 2, 3, 3, 5, 6, 6))
	shiftIs(t, p, 0, 1, of(3, 2, 1, 2, 3, 1, 2, 3))
	shiftIs(t, p, 0, -1, of(3, 2, 4, 5, 6, 4, 5, 6))
	shiftIs(t, p, 1, -1, of(3, 2, 4, 4, 5, 4, 4, 5))
	shiftIs(t, p, -2, 1, of(3, 2, 3, 3, 3, 3, 3, 3))
	shiftIs(t, p, 6, 6, of(3, 2, 1, 1, 1, 1, 1, 1))
	shiftIs(t, p, -6, -6, of(3, 2, 6, 6, 6, 6, 6, 6))
	shiftIs(t, p, 6, -6, of(3, 2, 4, 4, 4, 4, 4, 4))
	shiftIs(t, p, -6, 6, of(3, 2, 3, 3, 3, 3, 3, 3))
	shiftIs(t, of(1, 1, 9), -6, 6, of(1, 1, 9))
}

// TestShiftAll: pictures of every size by every move, against moving by one pixel at a time.
func TestShiftAll(t *testing.T) {
	everySize(func(wide, high int) {
		p := numbered(wide, high, 1)
		for x := -api.MaxSide; x <= api.MaxSide; x++ {
			for y := -api.MaxSide; y <= api.MaxSide; y++ {
				shiftIs(t, p, x, y, pushed(p, api.Move{X: x, Y: y}))
			}
		}
	})
}

// TestShiftErrors: a move that is none that may be, either way, and what is wrong with the picture ahead of it.
func TestShiftErrors(t *testing.T) {
	for _, n := range wrongMove {
		for _, p := range []api.Picture{of(1, 1, 0), numbered(6, 6, 0), of(3, 2, 1, 2, 3, 4, 5, 6)} {
			for _, other := range append([]int{0, -6, 6}, wrongMove...) {
				shiftRefuses(t, p, api.Move{X: n, Y: other}, api.ErrRange)
				shiftRefuses(t, p, api.Move{X: other, Y: n}, api.ErrRange)
			}
		}
		shiftRefuses(t, of(1, 1), api.Move{X: n}, api.ErrShape)
		shiftRefuses(t, of(1, 1), api.Move{Y: n}, api.ErrShape)
	}
}

// TestNothingIsChanged: no picture that is handed in is written into, also behind its pixels.
func TestNothingIsChanged(t *testing.T) {
	behind := []int{1, 2, 3, 4, 5, 6, 77, 78}
	a, b := of(3, 2, behind[:6]...), of(3, 2, 6, 5, 4, 3, 2, 1)
	wasBehind, wasB := slices.Clone(behind), copied(b)
	if err := picture.Check(a); err != nil {
		t.Error(err)
	}
	unlikeIs(t, a, b, 5)
	shiftIs(t, a, 1, 1, of(3, 2, 1, 1, 2, 1, 1, 2))
	shiftIs(t, b, 0, 0, wasB)
	if !slices.Equal(behind, wasBehind) || !same(b, wasB) {
		t.Errorf("what was handed in is %v and %v now", behind, b)
	}
}

// TestAnswersAreFresh: what is done to an answer is seen in no other, and not in what was handed in.
func TestAnswersAreFresh(t *testing.T) {
	p := of(3, 2, 1, 2, 3, 4, 5, 6)
	for _, m := range []api.Move{{}, {X: 1}, {Y: -1}, {X: 6, Y: 6}} {
		first, err := picture.Shift(p, m)
		if err != nil {
			t.Fatal(err)
		}
		want := copied(first)
		clear(first.Pix[:cap(first.Pix)])
		shiftIs(t, p, m.X, m.Y, want)
	}
	if !same(p, of(3, 2, 1, 2, 3, 4, 5, 6)) {
		t.Errorf("the picture is %v now", p)
	}
	shifted, err := picture.Shift(p, api.Move{})
	if err != nil {
		t.Fatal(err)
	}
	clear(p.Pix)
	if !same(shifted, of(3, 2, 1, 2, 3, 4, 5, 6)) {
		t.Errorf("what was answered is %v now", shifted)
	}
	one, err := picture.Flat(2, 2, 9)
	if err != nil {
		t.Fatal(err)
	}
	clear(one.Pix[:cap(one.Pix)])
	if two, err := picture.Flat(2, 2, 9); !same(two, of(2, 2, 9, 9, 9, 9)) || err != nil {
		t.Errorf("Flat, again: %v, %v", two, err)
	}
}
