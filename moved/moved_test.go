package moved_test

import (
	"math"
	"slices"
	"testing"

	"dropletmill/api"
	"dropletmill/moved"
	"dropletmill/picture"
	"dropletmill/plain"
)

// Numbers that are none of their kind.
var (
	wrongStep = []int{0, -1, -64, api.MaxStep + 1, 1<<32 + 1, math.MaxInt, math.MinInt}
	wrongMove = []int{-2, 2, -6, 6, 1 << 32, 1<<32 + 1, -1 << 32, math.MaxInt, math.MinInt}
	wrongRest = []int{-256, 256, 1 << 32, -1 << 32, math.MaxInt, math.MinInt}
)

// moves that may be, in the order in which the first of several is best.
var moves = []api.Move{
	{X: -1, Y: -1}, {X: 0, Y: -1}, {X: 1, Y: -1},
	{X: -1, Y: 0}, {X: 0, Y: 0}, {X: 1, Y: 0},
	{X: -1, Y: 1}, {X: 0, Y: 1}, {X: 1, Y: 1},
}

// faulty picture, and what Check tells of it.
type faulty struct {
	p    api.Picture
	want api.Errno
}

// faulties: pictures with something wrong of each kind, some of them with more than one.
func faulties() []faulty {
	return []faulty{
		{api.Picture{}, api.ErrRange}, {of(0, 2), api.ErrRange}, {of(2, 0), api.ErrRange}, {of(7, 1, 1, 2, 3, 4, 5, 6, 7), api.ErrRange},
		{of(1, 7, 1, 2, 3, 4, 5, 6, 300), api.ErrRange}, {of(-2, -1, 1, 2), api.ErrRange}, {of(1, math.MinInt, 1), api.ErrRange},
		{of(math.MaxInt, 1, 1), api.ErrRange}, {of(1<<62+1, 4, 1, 2, 3, 4), api.ErrRange},
		{of(2, 1, 1), api.ErrShape}, {of(2, 1, 1, 2, 3), api.ErrShape}, {of(2, 1), api.ErrShape}, {of(2, 1, 256), api.ErrShape},
		{of(2, 1, make([]int, 1, 2)...), api.ErrShape},
		{of(2, 1, 256, 0), api.ErrRange}, {of(2, 1, 0, -1), api.ErrRange}, {of(2, 1, math.MinInt, math.MaxInt), api.ErrRange},
	}
}

// dice: numbers that are always the same.
type dice int

// below n, from 0 on.
func (d *dice) below(n int) int {
	*d = (*d*16_807 + 11) % 2_147_483_647
	return int(*d) / 8 % n
}

// picture of so many pixels, of a span about the middle.
func (d *dice) picture(wide, high, span int) api.Picture {
	p := of(wide, high)
	for range wide * high {
		p.Pix = append(p.Pix, (256-span)/2+d.below(span))
	}
	return p
}

// of these sides, and pixels.
func of(wide, high int, pix ...int) api.Picture {
	return api.Picture{Wide: wide, High: high, Pix: pix}
}

// by a move, these rests.
func by(x, y int, rest ...int) api.Coded {
	return api.Coded{Move: api.Move{X: x, Y: y}, Rest: rest}
}

// same tells whether two pictures are.
func same(a, b api.Picture) bool {
	return a.Wide == b.Wide && a.High == b.High && slices.Equal(a.Pix, b.Pix)
}

// alike tells whether two that are coded are.
func alike(a, b api.Coded) bool {
	return a.Alone == b.Alone && a.Move == b.Move && slices.Equal(a.Rest, b.Rest)
}

// everySize that a picture may have.
func everySize(ask func(wide, high int)) {
	for wide := 1; wide <= api.MaxSide; wide++ {
		for high := 1; high <= api.MaxSide; high++ {
			ask(wide, high)
		}
	}
}

// shifted: a picture with a rim of one pixel about it, looked at through a window that is moved.
func shifted(p api.Picture, m api.Move) api.Picture {
	rim := [][]int{}
	for row := range slices.Chunk(p.Pix, p.Wide) {
		rim = append(rim, slices.Concat(row[:1], row, row[p.Wide-1:]))
	}
	rim = slices.Concat(rim[:1], rim, rim[p.High-1:])
	out := of(p.Wide, p.High)
	for y := range p.High {
		out.Pix = append(out.Pix, rim[1+y-m.Y][1-m.X:][:p.Wide]...)
	}
	return out
}

// differences of all pixels, added up.
func differences(a, b api.Picture) int {
	sum := 0
	for i, n := range a.Pix {
		if n > b.Pix[i] {
			sum += n - b.Pix[i]
		} else {
			sum += b.Pix[i] - n
		}
	}
	return sum
}

// chosen: the best move, by the promise's words.
func chosen(a, b api.Picture) api.Move {
	best := moves[0]
	for _, m := range moves[1:] {
		if differences(shifted(a, m), b) < differences(shifted(a, best), b) {
			best = m
		}
	}
	return best
}

// nearest number of steps, by trying them one by one from 0 on: of two that are as near the one further from 0.
func nearest(n, step int) int {
	if n < 0 {
		return -nearest(-n, step)
	}
	many := 0
	for 2*(n-many*step) >= step {
		many++
	}
	return many
}

// coded: what is coded of b, behind a, by the promise's words.
func coded(a, b api.Picture, step int) api.Coded {
	c := api.Coded{Move: chosen(a, b)}
	for i, n := range shifted(a, c.Move).Pix {
		c.Rest = append(c.Rest, nearest(b.Pix[i]-n, step))
	}
	return c
}

// decoded: the picture that is told behind a, by the promise's words.
func decoded(a api.Picture, c api.Coded, step int) api.Picture {
	p := shifted(a, c.Move)
	for i, many := range c.Rest {
		n := p.Pix[i] + many*step
		if n < 0 {
			n = 0
		}
		if n > 255 {
			n = 255
		}
		p.Pix[i] = n
	}
	return p
}

// bestIs: this is the best move, without an error.
func bestIs(t *testing.T, a, b api.Picture, x, y int) {
	t.Helper()
	want := api.Move{X: x, Y: y}
	if got, err := moved.Best(a, b); got != want || err != nil {
		t.Errorf("Best(%v, %v): %v, %v; want %v", a, b, got, err, want)
	}
}

// encodeIs: this is what is coded, without an error.
func encodeIs(t *testing.T, a, b api.Picture, step int, want api.Coded) {
	t.Helper()
	if got, err := moved.Encode(a, b, step); !alike(got, want) || err != nil {
		t.Errorf("Encode(%v, %v, %d): %v, %v; want %v", a, b, step, got, err, want)
	}
}

// encodeRefuses: Encode answers the error, and nothing else.
func encodeRefuses(t *testing.T, a, b api.Picture, step int, want api.Errno) {
	t.Helper()
	if got, err := moved.Encode(a, b, step); !alike(got, api.Coded{}) || plain.Told(err) != want {
		t.Errorf("Encode(%v, %v, %d): %v, %v; want %v", a, b, step, got, err, want)
	}
}

// bothRefuse: Best answers the error, and nothing else, and so does Encode, whatever its step.
func bothRefuse(t *testing.T, a, b api.Picture, want api.Errno) {
	t.Helper()
	if got, err := moved.Best(a, b); got != (api.Move{}) || plain.Told(err) != want {
		t.Errorf("Best(%v, %v): %v, %v; want %v", a, b, got, err, want)
	}
	for _, step := range append([]int{1, api.MaxStep}, wrongStep...) {
		encodeRefuses(t, a, b, step, want)
	}
}

// decodeIs: this picture is told, without an error.
func decodeIs(t *testing.T, a api.Picture, c api.Coded, step int, want api.Picture) {
	t.Helper()
	if got, err := moved.Decode(a, c, step); !same(got, want) || err != nil {
		t.Errorf("Decode(%v, %v, %d): %v, %v; want %v", a, c, step, got, err, want)
	}
}

// decodeRefuses: Decode answers the error, and nothing else.
func decodeRefuses(t *testing.T, a api.Picture, c api.Coded, step int, want api.Errno) {
	t.Helper()
	if got, err := moved.Decode(a, c, step); !same(got, api.Picture{}) || plain.Told(err) != want {
		t.Errorf("Decode(%v, %v, %d): %v, %v; want %v", a, c, step, got, err, want)
	}
}

// thereAndBack: a picture is coded as the promise says, and told again never further than half a step from what it was.
func thereAndBack(t *testing.T, a, b api.Picture, step int) {
	t.Helper()
	c := coded(a, b, step)
	bestIs(t, a, b, c.Move.X, c.Move.Y)
	encodeIs(t, a, b, step, c)
	told := decoded(a, c, step)
	decodeIs(t, a, c, step, told)
	if apart, err := picture.Unlike(b, told); apart > step/2 || err != nil {
		t.Errorf("%v is told as %v by step %d: %d apart, %v", b, told, step, apart, err)
	}
}

// TestBest: what a picture is moved by is found again.
func TestBest(t *testing.T) {
	a := of(3, 3, 10, 20, 40, 70, 110, 160, 220, 90, 30)
	bestIs(t, a, a, 0, 0)
	bestIs(t, a, of(3, 3, 10, 10, 20, 70, 70, 110, 220, 220, 90), 1, 0)
	bestIs(t, a, of(3, 3, 20, 40, 40, 110, 160, 160, 90, 30, 30), -1, 0)
	bestIs(t, a, of(3, 3, 10, 20, 40, 10, 20, 40, 70, 110, 160), 0, 1)
	bestIs(t, a, of(3, 3, 70, 110, 160, 220, 90, 30, 220, 90, 30), 0, -1)
	bestIs(t, a, of(3, 3, 10, 10, 20, 10, 10, 20, 70, 70, 110), 1, 1)
	bestIs(t, a, of(3, 3, 110, 160, 160, 90, 30, 30, 90, 30, 30), -1, -1)
	var d dice = 3
	everySize(func(wide, high int) {
		if wide < 3 || high < 3 {
			return
		}
		p := d.picture(wide, high, 256)
		for _, m := range moves {
			bestIs(t, p, shifted(p, m), m.X, m.Y)
		}
	})
}

// TestBestIsByAllAddedUp: not by the greatest difference, nor by how many pixels are another, nor by squares.
func TestBestIsByAllAddedUp(t *testing.T) {
	// By 0 0 one pixel is another, by 14; by 0 -1 five are, by no more than 11, but by 23 in all.
	a := of(5, 2, 100, 110, 120, 130, 140, 103, 113, 123, 133, 143)
	b := of(5, 2, 100, 110, 120, 130, 154, 103, 113, 123, 133, 143)
	bestIs(t, a, b, 0, 0)
	// By 0 0 one pixel is another, by 20; by 0 -1 four are, by 8 in all.
	a = of(5, 2, 100, 110, 120, 130, 140, 102, 112, 122, 132, 160)
	b = of(5, 2, 100, 110, 120, 130, 160, 102, 112, 122, 132, 160)
	bestIs(t, a, b, 0, -1)
	// In one row: by -1 it is 9 in all, by 0 19, by 1 29; then by 1 it is 1, by 0 9, by -1 19.
	bestIs(t, of(3, 1, 50, 51, 60), of(3, 1, 51, 60, 69), -1, -1)
	bestIs(t, of(3, 1, 50, 60, 60), of(3, 1, 50, 51, 60), 1, -1)
	// A brighter one, and a darker one, do not make up for each other: by whichever move it is 20.
	bestIs(t, of(2, 1, 10, 30), of(2, 1, 20, 20), -1, -1)
}

// TestFirstOfSeveral: of moves that are as near the one of the least Y, then of the least X.
func TestFirstOfSeveral(t *testing.T) {
	everySize(func(wide, high int) {
		flat, err := picture.Flat(wide, high, 7)
		if err != nil {
			t.Fatal(err)
		}
		bestIs(t, flat, flat, -1, -1)
		other, err := picture.Flat(wide, high, 200)
		if err != nil {
			t.Fatal(err)
		}
		bestIs(t, flat, other, -1, -1)
	})
	// In one row Y is all one, in one column X.
	row, column := of(3, 1, 10, 30, 90), of(1, 3, 10, 30, 90)
	bestIs(t, row, row, 0, -1)
	bestIs(t, row, of(3, 1, 10, 10, 30), 1, -1)
	bestIs(t, row, of(3, 1, 30, 90, 90), -1, -1)
	bestIs(t, column, column, -1, 0)
	bestIs(t, column, of(1, 3, 10, 10, 30), -1, 1)
	bestIs(t, column, of(1, 3, 30, 90, 90), -1, -1)
	// By 1 -1 and by -1 1 it is the same: Y is asked ahead of X.
	bestIs(t, of(2, 2, 0, 9, 9, 0), of(2, 2, 9, 9, 9, 9), 1, -1)
	// By 1 0 it is too.
	bestIs(t, of(2, 2, 9, 9, 9, 0), of(2, 2, 9, 9, 9, 9), 1, -1)
	// In two rows, or columns, that are each of one number, the other way is all one.
	bestIs(t, of(2, 2, 9, 9, 0, 0), of(2, 2, 9, 9, 9, 9), -1, 1)
	bestIs(t, of(2, 2, 9, 0, 9, 0), of(2, 2, 9, 9, 9, 9), 1, -1)
}

// TestEncode: each pixel by the one that came to its place.
func TestEncode(t *testing.T) {
	a := of(3, 2, 10, 20, 40, 70, 110, 160)
	encodeIs(t, a, a, 1, by(0, 0, 0, 0, 0, 0, 0, 0))
	encodeIs(t, a, of(3, 2, 10, 10, 20, 70, 70, 110), 1, by(1, 0, 0, 0, 0, 0, 0, 0))
	encodeIs(t, a, of(3, 2, 11, 10, 18, 73, 70, 110), 1, by(1, 0, 1, 0, -2, 3, 0, 0))
	encodeIs(t, a, of(3, 2, 11, 10, 18, 73, 70, 110), 2, by(1, 0, 1, 0, -1, 2, 0, 0))
	encodeIs(t, a, of(3, 2, 11, 10, 18, 73, 70, 110), 3, by(1, 0, 0, 0, -1, 1, 0, 0))
	encodeIs(t, a, of(3, 2, 11, 10, 18, 73, 70, 110), 64, by(1, 0, 0, 0, 0, 0, 0, 0))
	encodeIs(t, of(1, 1, 0), of(1, 1, 255), 1, by(-1, -1, 255))
	encodeIs(t, of(1, 1, 255), of(1, 1, 0), 1, by(-1, -1, -255))
	encodeIs(t, of(1, 1, 0), of(1, 1, 255), 64, by(-1, -1, 4))
	// Not by what is told beside it: each of them is 4 more, which is no step of 10.
	encodeIs(t, of(4, 1, 0, 50, 90, 220), of(4, 1, 4, 54, 94, 224), 10, by(0, -1, 0, 0, 0, 0))
	encodeIs(t, of(4, 1, 0, 50, 90, 220), of(4, 1, 5, 45, 94, 205), 10, by(0, -1, 1, -1, 0, -2))
}

// TestDecode: rests are added, in steps, to what is moved, not below 0, nor above 255.
func TestDecode(t *testing.T) {
	a := of(3, 2, 10, 20, 40, 70, 110, 160)
	decodeIs(t, a, by(0, 0, 0, 0, 0, 0, 0, 0), 1, a)
	decodeIs(t, a, by(0, 0, 1, -1, 2, -2, 3, -3), 5, of(3, 2, 15, 15, 50, 60, 125, 145))
	decodeIs(t, a, by(1, 0, 1, -1, 2, -2, 3, -3), 5, of(3, 2, 15, 5, 30, 60, 85, 95))
	decodeIs(t, a, by(-1, -1, 0, 0, 0, 0, 0, 1), 64, of(3, 2, 110, 160, 160, 110, 160, 224))
	decodeIs(t, a, by(-1, -1, 0, 0, 0, 0, 0, 2), 64, of(3, 2, 110, 160, 160, 110, 160, 255))
	decodeIs(t, a, by(1, 1, 1, 0, 0, 0, 0, -1), 64, of(3, 2, 74, 10, 20, 10, 10, 0))
	for _, m := range moves {
		decodeIs(t, of(1, 1, 100), by(m.X, m.Y, 155), 1, of(1, 1, 255))
		decodeIs(t, of(1, 1, 100), by(m.X, m.Y, 156), 1, of(1, 1, 255))
		decodeIs(t, of(1, 1, 100), by(m.X, m.Y, -100), 1, of(1, 1, 0))
		decodeIs(t, of(1, 1, 100), by(m.X, m.Y, -101), 1, of(1, 1, 0))
		decodeIs(t, of(1, 1, 0), by(m.X, m.Y, 255), api.MaxStep, of(1, 1, 255))
		decodeIs(t, of(1, 1, 255), by(m.X, m.Y, -255), api.MaxStep, of(1, 1, 0))
	}
}

// TestOnePixel: every pixel behind every other, by some steps, and every difference by every step.
func TestOnePixel(t *testing.T) {
	for a := range 256 {
		for b := range 256 {
			thereAndBack(t, of(1, 1, a), of(1, 1, b), 1+(a+b)%api.MaxStep)
		}
	}
	for n := range 256 {
		for step := 1; step <= api.MaxStep; step++ {
			thereAndBack(t, of(1, 1, 0), of(1, 1, n), step)
			thereAndBack(t, of(1, 1, 255), of(1, 1, 255-n), step)
		}
	}
}

// TestFourPixels: each picture of four pixels, of three numbers, behind each other.
func TestFourPixels(t *testing.T) {
	all := []api.Picture{}
	for n := range 81 {
		all = append(all, of(2, 2, n%3*2, n/3%3*2, n/9%3*2, n/27*2))
	}
	for i, a := range all {
		for k, b := range all {
			thereAndBack(t, a, b, 1+(i+k)%5)
		}
	}
}

// TestEverySize: pictures of any pixels by every step, and such as are near to one that moved; by step 1 they come back as they were.
func TestEverySize(t *testing.T) {
	var d dice = 5
	everySize(func(wide, high int) {
		for step := 1; step <= api.MaxStep; step++ {
			a, b := d.picture(wide, high, 1+d.below(256)), d.picture(wide, high, 1+d.below(256))
			thereAndBack(t, a, b, step)
			c := shifted(a, moves[d.below(len(moves))])
			for i := range c.Pix {
				c.Pix[i] = min(max(c.Pix[i]+d.below(9)-4, 0), 255)
			}
			thereAndBack(t, a, c, step)
			whole, err := moved.Encode(a, b, 1)
			if err != nil {
				t.Fatal(err)
			}
			decodeIs(t, a, whole, 1, b)
		}
	})
}

// TestEveryRest: moves that are not the best, and rests that no picture has, tell one too, of every size by every step.
func TestEveryRest(t *testing.T) {
	var d dice = 7
	everySize(func(wide, high int) {
		for step := 1; step <= api.MaxStep; step++ {
			a, span := d.picture(wide, high, 256), 1+d.below(255)
			for _, m := range moves {
				c := by(m.X, m.Y)
				for range wide * high {
					c.Rest = append(c.Rest, d.below(2*span+1)-span)
				}
				decodeIs(t, a, c, step, decoded(a, c, step))
			}
		}
	})
}

// TestNothingAddsUp: one behind the other, by what was told ahead, the last is no further off than the first.
func TestNothingAddsUp(t *testing.T) {
	var d dice = 9
	everySize(func(wide, high int) {
		for _, step := range []int{2, 9, 10, 33, api.MaxStep} {
			told := d.picture(wide, high, 256)
			for range 12 {
				next := d.picture(wide, high, 1+d.below(256))
				thereAndBack(t, told, next, step)
				told = decoded(told, coded(told, next, step), step)
			}
		}
	})
}

// TestPictures: what is wrong with a is told, then with b, then that they have not the same sides, all ahead of the step.
func TestPictures(t *testing.T) {
	for _, a := range faulties() {
		for _, good := range []api.Picture{of(1, 1, 0), of(2, 1, 0, 255), of(6, 6, make([]int, 36)...)} {
			bothRefuse(t, a.p, good, a.want)
			bothRefuse(t, good, a.p, a.want)
		}
		for _, b := range faulties() {
			bothRefuse(t, a.p, b.p, a.want)
		}
	}
	everySize(func(wide, high int) {
		everySize(func(other, tall int) {
			if wide != other || high != tall {
				bothRefuse(t, of(wide, high, make([]int, wide*high)...), of(other, tall, make([]int, other*tall)...), api.ErrShape)
			}
		})
	})
}

// TestEncodeStep: a step that is none that may be, with pictures of every size.
func TestEncodeStep(t *testing.T) {
	for _, step := range wrongStep {
		everySize(func(wide, high int) {
			pix := make([]int, wide*high)
			encodeRefuses(t, of(wide, high, pix...), of(wide, high, pix...), step, api.ErrRange)
			encodeRefuses(t, of(wide, high, pix...), of(wide, high, slices.Repeat([]int{255}, wide*high)...), step, api.ErrRange)
		})
	}
}

// TestDecodeOrder: whichever faults there are at once, that is told which the promise names first.
func TestDecodeOrder(t *testing.T) {
	for _, a := range append([]faulty{{of(2, 1, 10, 20), api.OK}}, faulties()...) {
		for _, step := range append([]int{7}, wrongStep...) {
			for _, is := range []bool{false, true} {
				for _, m := range append([]int{0}, wrongMove...) {
					for _, rest := range [][]int{{1, 2}, {1}, {1, 2, 3}, {}, nil, {256}, {1, 2, 256}, {1, -256}, {256, 1}} {
						c := api.Coded{Alone: is, Move: api.Move{X: m, Y: -1}, Rest: rest}
						want := firstFault(a.want, step == 7, c)
						if want == api.OK {
							decodeIs(t, a.p, c, step, decoded(a.p, c, step))
							continue
						}
						decodeRefuses(t, a.p, c, step, want)
						c.Move = api.Move{X: 1, Y: m}
						decodeRefuses(t, a.p, c, step, want)
					}
				}
			}
		}
	}
}

// firstFault of a picture of two pixels and of what is coded, in the order in which the promise names them.
func firstFault(a api.Errno, step bool, c api.Coded) api.Errno {
	switch {
	case a != api.OK:
		return a
	case !step:
		return api.ErrRange
	case c.Alone:
		return api.ErrShape
	case c.Move.X != 0:
		return api.ErrRange
	case len(c.Rest) != 2:
		return api.ErrShape
	case slices.ContainsFunc(c.Rest, func(n int) bool { return n < -255 || n > 255 }):
		return api.ErrRange
	}
	return api.OK
}

// TestDecodeAlone: one that stands alone is none of these, also with a move and rests that may be.
func TestDecodeAlone(t *testing.T) {
	everySize(func(wide, high int) {
		c := by(0, 0, make([]int, wide*high)...)
		c.Alone = true
		decodeRefuses(t, of(wide, high, make([]int, wide*high)...), c, 1, api.ErrShape)
	})
}

// TestDecodeMoves: every move about the bounds, and some far beyond.
func TestDecodeMoves(t *testing.T) {
	p, rest := of(3, 2, 1, 2, 3, 4, 5, 6), make([]int, 6)
	for x := -7; x <= 7; x++ {
		for y := -7; y <= 7; y++ {
			if slices.Contains(moves, api.Move{X: x, Y: y}) {
				decodeIs(t, p, by(x, y, rest...), 1, shifted(p, api.Move{X: x, Y: y}))
			} else {
				decodeRefuses(t, p, by(x, y, rest...), 1, api.ErrRange)
			}
		}
	}
	for _, n := range wrongMove {
		for _, other := range append([]int{-1, 0, 1}, wrongMove...) {
			decodeRefuses(t, p, by(n, other, rest...), 1, api.ErrRange)
			decodeRefuses(t, p, by(other, n, rest...), 1, api.ErrRange)
		}
	}
}

// TestDecodeMany: too few rests, or too many, ahead of one that is none that may be.
func TestDecodeMany(t *testing.T) {
	everySize(func(wide, high int) {
		p, rest := of(wide, high, make([]int, wide*high)...), make([]int, wide*high+1)
		for _, n := range append([]int{0}, wrongRest...) {
			rest[wide*high] = n
			decodeRefuses(t, p, by(0, 0, rest...), 1, api.ErrShape)
			decodeRefuses(t, p, by(0, 0, rest[2:]...), 1, api.ErrShape)
		}
		decodeRefuses(t, p, by(0, 0), 1, api.ErrShape)
	})
	decodeRefuses(t, of(1, 1, 0), by(0, 0, make([]int, 100_000)...), 1, api.ErrShape)
	// What lies behind a list's length is not read.
	decodeRefuses(t, of(2, 1, 0, 0), by(0, 0, make([]int, 1, 2)...), 1, api.ErrShape)
	decodeIs(t, of(2, 1, 3, 5), by(0, 0, []int{1, 2, 300}[:2]...), 1, of(2, 1, 4, 7))
}

// TestDecodeRests: one rest that is none that may be, at each place.
func TestDecodeRests(t *testing.T) {
	for _, n := range wrongRest {
		everySize(func(wide, high int) {
			for place := range wide * high {
				rest := make([]int, wide*high)
				rest[place] = n
				decodeRefuses(t, of(wide, high, make([]int, wide*high)...), by(1, -1, rest...), 1+place, api.ErrRange)
			}
		})
	}
}

// TestNothingIsChanged: no list that is handed in is written into, also behind its length.
func TestNothingIsChanged(t *testing.T) {
	pix, other, rest := []int{1, 20, 3, 40, 77, 78}, []int{1, 1, 3, 9, 77, 78}, []int{0, 255, -1, 2, 77, 78}
	wasPix, wasOther, wasRest := slices.Clone(pix), slices.Clone(other), slices.Clone(rest)
	a, b := of(2, 2, pix[:4]...), of(2, 2, other[:4]...)
	bestIs(t, a, b, 1, 0)
	encodeIs(t, a, b, 2, by(1, 0, 0, 0, 0, 3))
	decodeIs(t, a, by(0, 0, rest[:4]...), 3, of(2, 2, 1, 255, 0, 46))
	if !slices.Equal(pix, wasPix) || !slices.Equal(other, wasOther) || !slices.Equal(rest, wasRest) {
		t.Errorf("what was handed in is %v, %v and %v now", pix, other, rest)
	}
}

// TestAnswersAreFresh: what is done to an answer, or to what was handed in, is seen in no other.
func TestAnswersAreFresh(t *testing.T) {
	a, b := of(2, 2, 1, 20, 3, 40), of(2, 2, 1, 1, 3, 9)
	c, err := moved.Encode(a, b, 1)
	if err != nil {
		t.Fatal(err)
	}
	told, err := moved.Decode(a, c, 1)
	if err != nil {
		t.Fatal(err)
	}
	clear(c.Rest[:cap(c.Rest)])
	if !same(told, b) {
		t.Errorf("what was told is %v now", told)
	}
	clear(told.Pix[:cap(told.Pix)])
	encodeIs(t, a, b, 1, by(1, 0, 0, 0, 0, 6))
	decodeIs(t, a, by(1, 0, 0, 0, 0, 6), 1, b)
	if told, err = moved.Decode(a, by(0, 0, 0, 0, 0, 0), 1); err != nil {
		t.Fatal(err)
	}
	if c, err = moved.Encode(a, b, 1); err != nil {
		t.Fatal(err)
	}
	clear(a.Pix)
	clear(b.Pix)
	if !same(told, of(2, 2, 1, 20, 3, 40)) || !alike(c, by(1, 0, 0, 0, 0, 6)) {
		t.Errorf("what was answered is %v and %v now", told, c)
	}
}
