package film_test

import (
	"math"
	"slices"
	"testing"

	"dropletmill/alone"
	"dropletmill/api"
	"dropletmill/film"
	"dropletmill/moved"
	"dropletmill/picture"
	"dropletmill/plain"
)

// Numbers that are none of their kind.
var (
	wrongSide  = []int{0, -1, -6, api.MaxSide + 1, 1<<32 + 1, 1<<62 + 1, math.MaxInt, math.MinInt}
	wrongStep  = []int{0, -1, -64, api.MaxStep + 1, 1<<32 + 1, math.MaxInt, math.MinInt}
	wrongEvery = []int{0, -1, -6, api.MaxFilm + 1, 1<<32 + 1, math.MaxInt, math.MinInt}
	wrongMove  = []int{-2, 2, -6, 6, 1 << 32, 1<<32 + 1, -1 << 32, math.MaxInt, math.MinInt}
	wrongRest  = []int{-256, 256, 1 << 32, -1 << 32, math.MaxInt, math.MinInt}
)

// faulty picture, and what Check tells of it.
type faulty struct {
	p    api.Picture
	want api.Errno
}

// faulties: pictures with something wrong of each kind, some of them with more than one.
func faulties() []faulty {
	return []faulty{
		{api.Picture{}, api.ErrRange}, {of(0, 1), api.ErrRange}, {of(2, 0), api.ErrRange}, {of(7, 1, 1, 2, 3, 4, 5, 6, 7), api.ErrRange},
		{of(1, 7, 1, 2, 3, 4, 5, 6, 300), api.ErrRange}, {of(-2, -1, 1, 2), api.ErrRange}, {of(math.MaxInt, math.MinInt, 1), api.ErrRange},
		{of(1<<62+1, 4, 1, 2, 3, 4), api.ErrRange},
		{of(2, 1, 1), api.ErrShape}, {of(2, 1, 1, 2, 3), api.ErrShape}, {of(2, 1), api.ErrShape}, {of(1, 1, 256, 0), api.ErrShape},
		{of(2, 1, make([]int, 1, 2)...), api.ErrShape},
		{of(2, 1, 256, 0), api.ErrRange}, {of(2, 1, 0, -1), api.ErrRange}, {of(1, 2, math.MinInt, math.MaxInt), api.ErrRange},
	}
}

// dice: numbers that are always the same.
type dice int

// below n, from 0 on.
func (d *dice) below(n int) int {
	*d = (*d*16_807 + 11) % 2_147_483_647
	return int(*d) / 8 % n
}

// one of some numbers.
func (d *dice) one(of ...int) int { return of[d.below(len(of))] }

// picture of so many pixels, of a span about the middle.
func (d *dice) picture(wide, high, span int) api.Picture {
	p := of(wide, high)
	for range wide * high {
		p.Pix = append(p.Pix, (256-span)/2+d.below(span))
	}
	return p
}

// film of so many pictures: each is the one ahead, moved and made another a little, or has nothing of it.
func (d *dice) film(wide, high, many int) []api.Picture {
	l := []api.Picture{d.picture(wide, high, 1+d.below(256))}
	for len(l) < many {
		p, err := picture.Shift(l[len(l)-1], api.Move{X: d.below(3) - 1, Y: d.below(3) - 1})
		if err != nil {
			panic(err)
		}
		for i := range p.Pix {
			p.Pix[i] = min(max(p.Pix[i]+d.below(9)-4, 0), 255)
		}
		if d.below(4) == 0 {
			p = d.picture(wide, high, 1+d.below(256))
		}
		l = append(l, p)
	}
	return l
}

// shots: so many that are coded, with any moves and rests that may be, also such as no picture has.
func (d *dice) shots(wide, high, many int) []api.Coded {
	l := []api.Coded{}
	for i := range many {
		c := lone()
		if i > 0 && d.below(3) > 0 {
			c = by(d.below(3)-1, d.below(3)-1)
		}
		span := 1 + d.below(255)
		for range wide * high {
			c.Rest = append(c.Rest, d.below(2*span+1)-span)
		}
		l = append(l, c)
	}
	return l
}

// of these sides, and pixels.
func of(wide, high int, pix ...int) api.Picture {
	return api.Picture{Wide: wide, High: high, Pix: pix}
}

// dots: pictures of one pixel each.
func dots(pix ...int) []api.Picture {
	l := []api.Picture{}
	for _, n := range pix {
		l = append(l, of(1, 1, n))
	}
	return l
}

// lone: one that stands alone, with these rests.
func lone(rest ...int) api.Coded { return api.Coded{Alone: true, Rest: rest} }

// by a move, these rests.
func by(x, y int, rest ...int) api.Coded {
	return api.Coded{Move: api.Move{X: x, Y: y}, Rest: rest}
}

// same tells whether two pictures are.
func same(a, b api.Picture) bool {
	return a.Wide == b.Wide && a.High == b.High && slices.Equal(a.Pix, b.Pix)
}

// alike tells whether two that are coded are.
func alike(a, b api.Coded) bool {
	return a.Alone == b.Alone && a.Move == b.Move && slices.Equal(a.Rest, b.Rest)
}

// copied: pictures in memory of their own.
func copied(l []api.Picture) []api.Picture {
	out := slices.Clone(l)
	for i, p := range l {
		out[i].Pix = slices.Clone(p.Pix)
	}
	return out
}

// cloned: what is coded, in memory of its own.
func cloned(l []api.Coded) []api.Coded {
	out := slices.Clone(l)
	for i, c := range l {
		out[i].Rest = slices.Clone(c.Rest)
	}
	return out
}

// everySize that a picture may have.
func everySize(ask func(wide, high int)) {
	for wide := 1; wide <= api.MaxSide; wide++ {
		for high := 1; high <= api.MaxSide; high++ {
			ask(wide, high)
		}
	}
}

// everyLength that a film may have, by every every.
func everyLength(ask func(many, every int)) {
	for many := 1; many <= api.MaxFilm; many++ {
		for every := 1; every <= api.MaxFilm; every++ {
			ask(many, every)
		}
	}
}

// decoded: the pictures that are told, by the words of the promise and what chapters 14 and 15 answer.
func decoded(t *testing.T, wide, high, step int, l []api.Coded) []api.Picture {
	t.Helper()
	told := []api.Picture{}
	for i, c := range l {
		p, err := alone.Decode(wide, high, step, c.Rest)
		if !c.Alone {
			p, err = moved.Decode(told[i-1], c, step)
		}
		if err != nil {
			t.Fatalf("%v of %v cannot be told: %v", c, l, err)
		}
		told = append(told, p)
	}
	return told
}

// coded: what is coded, by the words of the promise and what chapters 14 and 15 answer. All ahead of each is told anew from the first on.
func coded(t *testing.T, l []api.Picture, every, step int) []api.Coded {
	t.Helper()
	out := []api.Coded{}
	for i, p := range l {
		if slices.Contains([]int{0, every, 2 * every, 3 * every, 4 * every, 5 * every}, i) {
			rest, err := alone.Encode(p, step)
			if err != nil {
				t.Fatalf("%v cannot be coded: %v", p, err)
			}
			out = append(out, lone(rest...))
			continue
		}
		c, err := moved.Encode(decoded(t, p.Wide, p.High, step, out)[i-1], p, step)
		if err != nil {
			t.Fatalf("%v cannot be coded: %v", p, err)
		}
		out = append(out, c)
	}
	return out
}

// encodeIs: this is what is coded, without an error.
func encodeIs(t *testing.T, l []api.Picture, every, step int, want ...api.Coded) {
	t.Helper()
	if got, err := film.Encode(l, every, step); !slices.EqualFunc(got, want, alike) || err != nil {
		t.Errorf("Encode(%v, %d, %d): %v, %v; want %v", l, every, step, got, err, want)
	}
}

// encodeRefuses: Encode answers the error, and nothing else.
func encodeRefuses(t *testing.T, l []api.Picture, every, step int, want api.Errno) {
	t.Helper()
	if got, err := film.Encode(l, every, step); len(got) != 0 || plain.Told(err) != want {
		t.Errorf("Encode(%v, %d, %d): %v, %v; want %v", l, every, step, got, err, want)
	}
}

// encodeRefusesAll: Encode answers the error, also with wrong numbers.
func encodeRefusesAll(t *testing.T, l []api.Picture, want api.Errno) {
	t.Helper()
	for _, every := range append([]int{1, 2, api.MaxFilm}, wrongEvery...) {
		encodeRefuses(t, l, every, 1, want)
		encodeRefuses(t, l, every, 0, want)
		encodeRefuses(t, l, every, api.MaxStep+1, want)
	}
}

// decodeIs: these pictures are told, without an error.
func decodeIs(t *testing.T, wide, high, step int, l []api.Coded, want ...api.Picture) {
	t.Helper()
	if got, err := film.Decode(wide, high, step, l); !slices.EqualFunc(got, want, same) || err != nil {
		t.Errorf("Decode(%d, %d, %d, %v): %v, %v; want %v", wide, high, step, l, got, err, want)
	}
}

// decodeRefuses: Decode answers the error, and nothing else.
func decodeRefuses(t *testing.T, wide, high, step int, l []api.Coded, want api.Errno) {
	t.Helper()
	if got, err := film.Decode(wide, high, step, l); len(got) != 0 || plain.Told(err) != want {
		t.Errorf("Decode(%d, %d, %d, %v): %v, %v; want %v", wide, high, step, l, got, err, want)
	}
}

// thereAndBack: a film is coded as the promise says, and each of it is told again never further than half a step from what it was.
func thereAndBack(t *testing.T, l []api.Picture, every, step int) {
	t.Helper()
	c := coded(t, l, every, step)
	encodeIs(t, l, every, step, c...)
	told := decoded(t, l[0].Wide, l[0].High, step, c)
	decodeIs(t, l[0].Wide, l[0].High, step, c, told...)
	for i, p := range l {
		if apart, err := picture.Unlike(p, told[i]); apart > step/2 || err != nil {
			t.Errorf("%v is told as %v by step %d: %d apart, %v", p, told[i], step, apart, err)
		}
	}
}

// TestEncode: those that are alone by what is beside, the others by what was ahead.
func TestEncode(t *testing.T) {
	a, b, c := of(3, 2, 10, 20, 40, 70, 110, 160), of(3, 2, 10, 10, 20, 70, 70, 110), of(3, 2, 10, 10, 20, 70, 70, 113)
	encodeIs(t, []api.Picture{a}, 1, 1, lone(-118, 10, 20, 60, 40, 50))
	encodeIs(t, []api.Picture{a}, 6, 1, lone(-118, 10, 20, 60, 40, 50))
	encodeIs(t, []api.Picture{a, b, c}, 6, 1, lone(-118, 10, 20, 60, 40, 50), by(1, 0, 0, 0, 0, 0, 0, 0), by(0, 0, 0, 0, 0, 0, 0, 3))
	encodeIs(t, []api.Picture{a, b, c}, 3, 1, lone(-118, 10, 20, 60, 40, 50), by(1, 0, 0, 0, 0, 0, 0, 0), by(0, 0, 0, 0, 0, 0, 0, 3))
	encodeIs(t, []api.Picture{a, b, c}, 2, 1, lone(-118, 10, 20, 60, 40, 50), by(1, 0, 0, 0, 0, 0, 0, 0), lone(-118, 0, 10, 60, 0, 43))
	encodeIs(t, []api.Picture{a, b, c}, 1, 1, lone(-118, 10, 20, 60, 40, 50), lone(-118, 0, 10, 60, 0, 40), lone(-118, 0, 10, 60, 0, 43))
	// Not by what the one ahead was, 142, but by what was told for it, 138: 143 is half a step from it.
	encodeIs(t, dots(138, 142, 143, 149), 6, 10, lone(1), by(-1, -1, 0), by(-1, -1, 1), by(-1, -1, 0))
	encodeIs(t, dots(138, 142, 143, 149), 2, 10, lone(1), by(-1, -1, 0), lone(2), by(-1, -1, 0))
	// Also the move is found by what was told: 100 and 104 are both told as 98, so that no way is better than another.
	encodeIs(t, []api.Picture{of(2, 1, 100, 104), of(2, 1, 100, 100)}, 2, 30, lone(-1, 0), by(-1, -1, 0, 0))
	// Not below 0, nor above 255: 258 is told as 255, and from there the next is coded.
	encodeIs(t, dots(255, 242, 255), 3, 26, lone(5), by(-1, -1, -1), by(-1, -1, 1))
	encodeIs(t, dots(255, 243), 3, 26, lone(5), by(-1, -1, 0))
}

// TestDecode: what is alone by its rests, the others by these and what was told ahead.
func TestDecode(t *testing.T) {
	decodeIs(t, 1, 1, 10, []api.Coded{lone(1), by(-1, -1, 0), by(-1, -1, 1), by(1, 1, 0)}, dots(138, 138, 148, 148)...)
	decodeIs(t, 1, 1, 10, []api.Coded{lone(1), by(0, 0, 2), lone(1), by(0, 0, -3)}, dots(138, 158, 138, 108)...)
	decodeIs(t, 1, 1, 64, []api.Coded{lone(255), by(0, 0, -1), by(0, 0, -255), by(0, 0, 1)}, dots(255, 191, 0, 64)...)
	decodeIs(t, 2, 1, 5, []api.Coded{lone(1, 2), by(1, 0, 0, 1), lone(0, 0)}, of(2, 1, 133, 143), of(2, 1, 133, 138), of(2, 1, 128, 128))
	decodeIs(t, 1, 2, 5, []api.Coded{lone(1, 2), by(1, 0, 0, 1), by(0, -1, 0, 0)}, of(1, 2, 133, 143), of(1, 2, 133, 148), of(1, 2, 148, 148))
	decodeIs(t, 2, 1, 5, []api.Coded{lone(1, 2)}, of(2, 1, 133, 143))
}

// TestWhichAreAlone: the first, and each every-th behind it, with Moves that are noughts; no other.
func TestWhichAreAlone(t *testing.T) {
	want := [][]string{
		{}, {"1", "11", "111", "1111", "11111", "111111"}, {"1", "10", "101", "1010", "10101", "101010"},
		{"1", "10", "100", "1001", "10010", "100100"}, {"1", "10", "100", "1000", "10001", "100010"},
		{"1", "10", "100", "1000", "10000", "100001"}, {"1", "10", "100", "1000", "10000", "100000"},
	}
	var d dice = 3
	everyLength(func(many, every int) {
		l := d.film(4, 3, many)
		got, err := film.Encode(l, every, 5)
		if err != nil || len(got) != many {
			t.Fatalf("Encode(%v, %d, 5): %v, %v", l, every, got, err)
		}
		marks := ""
		for i, c := range got {
			mark := "0"
			if c.Alone {
				mark = "1"
				if rest, err := alone.Encode(l[i], 5); c.Move != (api.Move{}) || !slices.Equal(c.Rest, rest) || err != nil {
					t.Errorf("%v of %v is alone: %v; want %v, %v", c, got, c.Rest, rest, err)
				}
			}
			marks += mark
		}
		if marks != want[every][many-1] {
			t.Errorf("of %d by every %d these are alone: %s; want %s", many, every, marks, want[every][many-1])
		}
	})
}

// TestEverySize: films of every size by every step, with every length and every; by step 1 they come back as they were.
func TestEverySize(t *testing.T) {
	var d dice = 5
	everySize(func(wide, high int) {
		for step := 1; step <= api.MaxStep; step++ {
			l := d.film(wide, high, 1+d.below(api.MaxFilm))
			thereAndBack(t, l, 1+d.below(api.MaxFilm), step)
		}
		everyLength(func(many, every int) {
			l := d.film(wide, high, many)
			thereAndBack(t, l, every, 1+d.below(api.MaxStep))
			whole, err := film.Encode(l, every, 1)
			if err != nil {
				t.Fatal(err)
			}
			decodeIs(t, wide, high, 1, whole, l...)
		})
	})
}

// TestOnePixel: any two pixels, one behind the other and back, by some steps.
func TestOnePixel(t *testing.T) {
	for a := range 256 {
		for b := range 256 {
			thereAndBack(t, dots(a, b, a), 3-(a+b)%2, 1+(a*5+b)%api.MaxStep)
		}
	}
}

// TestNothingAddsUp: what grows by less than half a step a picture comes through, and what is far off comes back.
func TestNothingAddsUp(t *testing.T) {
	for step := 1; step <= api.MaxStep; step++ {
		for from := range 256 {
			for _, more := range []int{-step / 2, -step / 3, -1, 1, step / 3, step / 2} {
				l := []api.Picture{}
				for i := range api.MaxFilm {
					l = append(l, of(1, 1, min(max(from+i*more, 0), 255)))
				}
				c, err := film.Encode(l, api.MaxFilm, step)
				if err != nil {
					t.Fatal(err)
				}
				told, err := film.Decode(1, 1, step, c)
				if err != nil {
					t.Fatal(err)
				}
				for i, p := range l {
					if apart, err := picture.Unlike(p, told[i]); apart > step/2 || err != nil {
						t.Fatalf("%v is told as %v by step %d: %d apart, %v", l, told, step, apart, err)
					}
				}
			}
		}
	}
}

// TestDecodeAny: moves that are not the best, rests that no picture has, and whichever are alone, of every size by every step.
func TestDecodeAny(t *testing.T) {
	var d dice = 7
	everySize(func(wide, high int) {
		for step := 1; step <= api.MaxStep; step++ {
			l := d.shots(wide, high, 1+step%api.MaxFilm)
			decodeIs(t, wide, high, step, l, decoded(t, wide, high, step, l)...)
		}
	})
}

// TestHowMany: none, as many as may be, and more, ahead of whatever else is wrong.
func TestHowMany(t *testing.T) {
	for _, l := range [][]api.Picture{nil, {}, dots(1, 2)[:0]} {
		encodeRefusesAll(t, l, api.ErrNone)
	}
	thereAndBack(t, dots(9, 8, 7, 6, 5, 4), 6, 3)
	encodeRefusesAll(t, dots(9, 8, 7, 6, 5, 4, 3), api.ErrFull)
	encodeRefusesAll(t, dots(9, 8, 7, 6, 5, 4, 300), api.ErrFull)
	encodeRefusesAll(t, make([]api.Picture, api.MaxFilm+1), api.ErrFull)
	encodeRefusesAll(t, make([]api.Picture, 100_000)[:7], api.ErrFull)
	encodeRefuses(t, make([]api.Picture, 100_000), 0, 0, api.ErrFull)
	full := slices.Repeat([]api.Coded{lone(1)}, api.MaxFilm+1)
	decodeIs(t, 1, 1, 1, full[:api.MaxFilm], dots(129, 129, 129, 129, 129, 129)...)
	for _, n := range append([]int{1}, wrongSide...) {
		for _, step := range append([]int{1}, wrongStep...) {
			for _, l := range [][]api.Coded{nil, {}, full[:0]} {
				decodeRefuses(t, n, 1, step, l, api.ErrNone)
				decodeRefuses(t, 1, n, step, l, api.ErrNone)
			}
			for _, l := range [][]api.Coded{full, make([]api.Coded, api.MaxFilm+1), make([]api.Coded, 10_000)} {
				decodeRefuses(t, n, 1, step, l[:7], api.ErrFull)
				decodeRefuses(t, 1, n, step, l[:7], api.ErrFull)
			}
		}
	}
	decodeRefuses(t, 0, 0, 0, make([]api.Coded, 100_000), api.ErrFull)
}

// TestPictures: what is wrong with one of them, at each place; of several the first that has a fault.
func TestPictures(t *testing.T) {
	for _, f := range faulties() {
		for many := 1; many <= api.MaxFilm; many++ {
			for place := range many {
				l := slices.Repeat([]api.Picture{of(2, 1, 0, 255)}, many)
				l[place] = f.p
				encodeRefusesAll(t, l, f.want)
				if place+1 == many {
					continue
				}
				for _, other := range faulties() {
					l[many-1] = other.p
					encodeRefuses(t, l, 1, 1, f.want)
				}
			}
		}
	}
}

// TestSides: one that has not the sides of the first, at each place, ahead of wrong numbers.
func TestSides(t *testing.T) {
	everySize(func(wide, high int) {
		everySize(func(other, tall int) {
			if wide == other && high == tall {
				return
			}
			l := []api.Picture{of(wide, high, make([]int, wide*high)...), of(other, tall, make([]int, other*tall)...)}
			encodeRefuses(t, l, 1, 1, api.ErrShape)
			encodeRefuses(t, l, 0, 65, api.ErrShape)
		})
	})
	for place := 1; place < api.MaxFilm; place++ {
		for _, p := range []api.Picture{of(3, 2, 1, 2, 3, 4, 5, 6), of(2, 2, 1, 2, 3, 4), of(3, 3, make([]int, 9)...), of(6, 1, 1, 2, 3, 4, 5, 6)} {
			l := slices.Repeat([]api.Picture{of(2, 3, 1, 2, 3, 4, 5, 6)}, api.MaxFilm)
			l[place] = p
			encodeRefusesAll(t, l, api.ErrShape)
			encodeRefusesAll(t, l[:place+1], api.ErrShape)
		}
	}
}

// TestPicturesAheadOfSides: one that is no picture is told ahead of sides, also where it comes behind one that has others.
func TestPicturesAheadOfSides(t *testing.T) {
	for _, f := range faulties() {
		encodeRefusesAll(t, []api.Picture{of(2, 1, 0, 255), of(1, 2, 0, 255), f.p}, f.want)
		encodeRefusesAll(t, []api.Picture{of(2, 1, 0, 255), of(1, 1, 0), of(2, 1, 7, 8), f.p}, f.want)
	}
}

// TestEncodeNumbers: every, or step, that is none that may be, also in a film of one.
func TestEncodeNumbers(t *testing.T) {
	for many := 1; many <= api.MaxFilm; many++ {
		l := slices.Repeat([]api.Picture{of(2, 1, 0, 255)}, many)
		for _, every := range wrongEvery {
			for _, step := range append([]int{1, api.MaxStep}, wrongStep...) {
				encodeRefuses(t, l, every, step, api.ErrRange)
			}
		}
		for _, step := range wrongStep {
			for every := 1; every <= api.MaxFilm; every++ {
				encodeRefuses(t, l, every, step, api.ErrRange)
			}
		}
	}
}

// TestDecodeNumbers: a side, or the step, that is none that may be, ahead of what is wrong with what was coded.
func TestDecodeNumbers(t *testing.T) {
	for _, c := range []api.Coded{lone(1), lone(), by(0, 0, 1), by(2, 0), {Alone: true, Move: api.Move{X: 1}, Rest: []int{1}}} {
		for _, l := range [][]api.Coded{{c}, {lone(1), c}, {c, lone(1), c}} {
			for _, n := range wrongSide {
				for _, step := range append([]int{1, api.MaxStep}, wrongStep...) {
					decodeRefuses(t, n, 1, step, l, api.ErrRange)
					decodeRefuses(t, 1, n, step, l, api.ErrRange)
					decodeRefuses(t, n, n, step, l, api.ErrRange)
				}
			}
			for _, step := range wrongStep {
				decodeRefuses(t, 1, 1, step, l, api.ErrRange)
			}
		}
	}
	// Sides of which the area, kept in 64 bits, would be 4.
	decodeRefuses(t, 1<<62+1, 4, 1, []api.Coded{lone(1, 2, 3, 4)}, api.ErrRange)
	decodeRefuses(t, -1, -1, 1, []api.Coded{lone(1)}, api.ErrRange)
}

// TestFirstNotAlone: ahead of whatever else is wrong with what was coded.
func TestFirstNotAlone(t *testing.T) {
	for _, first := range []api.Coded{{}, by(0, 0, 1), by(1, -1, 1), by(2, 0, 1), by(0, -2, 300), by(0, 0, 256), by(0, 0, 1, 2)} {
		decodeRefuses(t, 1, 1, 1, []api.Coded{first}, api.ErrShape)
		for _, next := range []api.Coded{lone(1), lone(256), by(0, 0, 256), by(2, 0, 1)} {
			decodeRefuses(t, 1, 1, 1, []api.Coded{first, next}, api.ErrShape)
		}
	}
}

// TestAloneMoved: one that is alone, with a Move that is not noughts, also such as others may have, at each place.
func TestAloneMoved(t *testing.T) {
	for _, m := range append([]int{-1, 1}, wrongMove...) {
		for _, to := range []api.Move{{X: m}, {Y: m}, {X: m, Y: m}, {X: m, Y: -1}, {X: 1, Y: m}} {
			for place := range api.MaxFilm {
				l := slices.Repeat([]api.Coded{lone(1)}, api.MaxFilm)
				l[place].Move = to
				decodeRefuses(t, 1, 1, 1, l, api.ErrShape)
				// Ahead of a rest that is none that may be.
				l[place].Rest = []int{256}
				decodeRefuses(t, 1, 1, 1, l, api.ErrShape)
			}
		}
	}
}

// TestDecodeRests: too few, too many, or one that is none that may be, at each place, alone or not.
func TestDecodeRests(t *testing.T) {
	for place := range api.MaxFilm {
		for _, is := range []bool{false, true} {
			if place == 0 && !is {
				continue
			}
			with := func(rest []int, want api.Errno) {
				l := slices.Repeat([]api.Coded{lone(1, 2), by(1, 0, 3, -4)}, api.MaxFilm/2)
				l[place] = api.Coded{Alone: is, Rest: rest}
				decodeRefuses(t, 2, 1, 7, l, want)
				decodeRefuses(t, 1, 2, 7, l, want)
			}
			for _, n := range wrongRest {
				with([]int{n, 0}, api.ErrRange)
				with([]int{0, n}, api.ErrRange)
				with([]int{n}, api.ErrShape)
				with([]int{0, 0, n}, api.ErrShape)
			}
			with(nil, api.ErrShape)
			with([]int{0}, api.ErrShape)
			with(make([]int, 1, 2), api.ErrShape)
			with(make([]int, 100_000), api.ErrShape)
		}
	}
}

// TestDecodeMoves: of one that is not alone every move about the bounds, and some far beyond.
func TestDecodeMoves(t *testing.T) {
	near := []int{-1, 0, 1}
	for _, x := range append(near, wrongMove...) {
		for _, y := range append(near, wrongMove...) {
			l := []api.Coded{lone(1, 2, 3, 4), by(0, 0, 1, 1, 1, 1), by(x, y, 5, 6, 7, 8)}
			if slices.Contains(near, x) && slices.Contains(near, y) {
				decodeIs(t, 2, 2, 3, l, decoded(t, 2, 2, 3, l)...)
			} else {
				decodeRefuses(t, 2, 2, 3, l, api.ErrRange)
				// Ahead of how many rests there are.
				l[2].Rest = nil
				decodeRefuses(t, 2, 2, 3, l, api.ErrRange)
			}
		}
	}
}

// fault of one that was coded, of so many pixels, in the order in which the promise, and chapters 14 and 15, name them.
func fault(c api.Coded, many int) api.Errno {
	far := func(n int) bool { return n < -1 || n > 1 }
	switch {
	case c.Alone && (c.Move.X != 0 || c.Move.Y != 0):
		return api.ErrShape
	case far(c.Move.X) || far(c.Move.Y):
		return api.ErrRange
	case len(c.Rest) != many:
		return api.ErrShape
	case slices.ContainsFunc(c.Rest, func(n int) bool { return n < -255 || n > 255 }):
		return api.ErrRange
	}
	return api.OK
}

// firstFault of what was coded, one by one.
func firstFault(l []api.Coded, many int) api.Errno {
	if !l[0].Alone {
		return api.ErrShape
	}
	for _, c := range l {
		if is := fault(c, many); is != api.OK {
			return is
		}
	}
	return api.OK
}

// TestDecodeOneByOne: whichever faults there are at once, the first of the first one that has one is told.
func TestDecodeOneByOne(t *testing.T) {
	var d dice = 11
	told := map[api.Errno]int{}
	for range 20_000 {
		wide, high, many := 1+d.below(3), 1+d.below(3), 1+d.below(api.MaxFilm)
		l := d.shots(wide, high, many)
		for range d.below(4) {
			c := &l[d.below(many)]
			switch d.below(5) {
			case 0:
				c.Alone = !c.Alone
			case 1:
				c.Move.X = d.one(-1, 0, 1, 2, -2)
			case 2:
				c.Move.Y = d.one(-1, 0, 1, 2, -2)
			case 3:
				c.Rest = d.shots(d.one(wide, 1), d.one(high, 3), 1)[0].Rest
			case 4:
				c.Rest[d.below(len(c.Rest))] = d.one(255, 256, -255, -256)
			}
		}
		want := firstFault(l, wide*high)
		told[want]++
		if want == api.OK {
			decodeIs(t, wide, high, 1+many, l, decoded(t, wide, high, 1+many, l)...)
		} else {
			decodeRefuses(t, wide, high, 1+many, l, want)
		}
	}
	for _, want := range []api.Errno{api.OK, api.ErrRange, api.ErrShape} {
		if told[want] < 1_000 {
			t.Errorf("%v was told only %d times", want, told[want])
		}
	}
}

// TestNothingIsChanged: no list that is handed in is written into, nor what stands behind it, also behind its length.
func TestNothingIsChanged(t *testing.T) {
	var d dice = 13
	l := d.film(3, 2, api.MaxFilm)
	for i := range l {
		l[i].Pix = append(l[i].Pix, 300, -1)[:6]
	}
	was := copied(l)
	want := coded(t, was[:4], 3, 5)
	encodeIs(t, l[:4], 3, 5, want...)
	c := coded(t, was, 4, 5)
	for i := range c {
		c[i].Rest = append(c[i].Rest, 300, -1)[:6]
	}
	wasCoded := cloned(c)
	decodeIs(t, 3, 2, 5, c[:3], decoded(t, 3, 2, 5, wasCoded[:3])...)
	if !slices.EqualFunc(l, was, same) || !slices.EqualFunc(c, wasCoded, alike) {
		t.Errorf("what was handed in is %v and %v now", l, c)
	}
	for i := range l {
		if behind := [][]int{l[i].Pix[6:8], c[i].Rest[6:8]}; !slices.EqualFunc(behind, [][]int{{300, -1}, {300, -1}}, slices.Equal) {
			t.Errorf("behind what was handed in there is %v now", behind)
		}
	}
}

// TestAnswersAreFresh: what is done to an answer, to a list of it, or to what was handed in, is seen in no other.
func TestAnswersAreFresh(t *testing.T) {
	var d dice = 17
	l := d.film(3, 3, api.MaxFilm)
	was, want := copied(l), coded(t, l, 4, 9)
	told := decoded(t, 3, 3, 9, want)
	got, err := film.Encode(l, 4, 9)
	if err != nil {
		t.Fatal(err)
	}
	for i := range l {
		clear(l[i].Pix)
	}
	pictures, err := film.Decode(3, 3, 9, got)
	if err != nil {
		t.Fatal(err)
	}
	for i := range got {
		if !alike(got[i], want[i]) {
			t.Errorf("%d is coded as %v now; want %v", i, got[i], want[i])
		}
		clear(got[i].Rest[:cap(got[i].Rest)])
	}
	for i := range pictures {
		if !same(pictures[i], told[i]) {
			t.Errorf("%d is told as %v now; want %v", i, pictures[i], told[i])
		}
		clear(pictures[i].Pix[:cap(pictures[i].Pix)])
	}
	clear(got[:cap(got)])
	clear(pictures[:cap(pictures)])
	encodeIs(t, was, 4, 9, want...)
	decodeIs(t, 3, 3, 9, want, told...)
	// By noughts alone a picture is told as the one ahead, but in memory of its own.
	still := []api.Coded{lone(1, 2), by(0, 0, 0, 0), by(0, 0, 0, 0)}
	if pictures, err = film.Decode(2, 1, 5, still); err != nil {
		t.Fatal(err)
	}
	clear(pictures[0].Pix)
	clear(pictures[2].Pix)
	if !same(pictures[1], of(2, 1, 133, 143)) {
		t.Errorf("what was told is %v now", pictures[1])
	}
}

// TestSameAgain: an answer hangs on its arguments alone, whatever was asked, or went wrong, ahead.
func TestSameAgain(t *testing.T) {
	for range 3 {
		thereAndBack(t, dots(138, 142, 143, 149), 3, 10)
		encodeRefuses(t, dots(138, 256), 3, 10, api.ErrRange)
		encodeRefuses(t, nil, 3, 10, api.ErrNone)
		decodeRefuses(t, 1, 1, 10, []api.Coded{by(0, 0, 1)}, api.ErrShape)
		decodeRefuses(t, 1, 1, 10, []api.Coded{lone(7), by(0, 0, 256)}, api.ErrRange)
		decodeIs(t, 1, 1, 10, []api.Coded{lone(0), by(0, 0, 1)}, dots(128, 138)...)
	}
}
