package alone_test

import (
	"math"
	"slices"
	"testing"

	"dropletmill/alone"
	"dropletmill/api"
	"dropletmill/picture"
	"dropletmill/plain"
)

// Numbers that are none of their kind.
var (
	wrongSide  = []int{0, -1, -6, api.MaxSide + 1, 1<<32 + 1, 1<<62 + 1, math.MaxInt, math.MinInt}
	wrongStep  = []int{0, -1, -64, api.MaxStep + 1, 1<<32 + 1, math.MaxInt, math.MinInt}
	wrongPixel = []int{-1, 256, 1<<32 + 1, math.MaxInt, math.MinInt}
	wrongRest  = []int{-256, 256, 1 << 32, -1 << 32, math.MaxInt, math.MinInt}
)

// dice: numbers that are always the same.
type dice int

// below n, from 0 on.
func (d *dice) below(n int) int {
	*d = (*d*16_807 + 11) % 2_147_483_647
	return int(*d) / 8 % n
}

// of these sides, and pixels.
func of(wide, high int, pix ...int) api.Picture {
	return api.Picture{Wide: wide, High: high, Pix: pix}
}

// same tells whether two pictures are.
func same(a, b api.Picture) bool {
	return a.Wide == b.Wide && a.High == b.High && slices.Equal(a.Pix, b.Pix)
}

// blank tells whether it is what stands beside an error.
func blank(p api.Picture) bool { return same(p, api.Picture{}) }

// everySize that a picture may have.
func everySize(ask func(wide, high int)) {
	for wide := 1; wide <= api.MaxSide; wide++ {
		for high := 1; high <= api.MaxSide; high++ {
			ask(wide, high)
		}
	}
}

// nearest number of steps, by trying them one by one from 0 on: of two that are as near the one further from 0.
func nearest(n, step int) int {
	toward := 1
	if n < 0 {
		toward = -1
	}
	n *= toward
	many := 0
	for 2*(n-many*step) >= step {
		many++
	}
	return many * toward
}

// reckoned: what is told of a picture's places, row by row, as rest says for each of what is guessed.
func reckoned(wide, high, step int, rest func(place, guess int) int) api.Picture {
	rows := make([][]int, high)
	for y := range rows {
		rows[y] = make([]int, wide)
		for x := range wide {
			guess := 128
			if x > 0 {
				guess = rows[y][x-1]
			} else if y > 0 {
				guess = rows[y-1][0]
			}
			n := guess + step*rest(y*wide+x, guess)
			if n < 0 {
				n = 0
			}
			if n > 255 {
				n = 255
			}
			rows[y][x] = n
		}
	}
	return of(wide, high, slices.Concat(rows...)...)
}

// coded: the rests of a picture, and what is told by them, by the promise's words.
func coded(p api.Picture, step int) (rest []int, told api.Picture) {
	told = reckoned(p.Wide, p.High, step, func(place, guess int) int {
		many := nearest(p.Pix[place]-guess, step)
		rest = append(rest, many)
		return many
	})
	return rest, told
}

// decoded: the picture that rests tell, by the promise's words.
func decoded(wide, high, step int, rest []int) api.Picture {
	return reckoned(wide, high, step, func(place, _ int) int { return rest[place] })
}

// roundIs: so many steps are nearest, without an error.
func roundIs(t *testing.T, n, step, want int) {
	t.Helper()
	if got, err := alone.Round(n, step); got != want || err != nil {
		t.Errorf("Round(%d, %d): %d, %v; want %d", n, step, got, err, want)
	}
}

// roundRefuses: Round answers that a number is none that may be, and nothing else.
func roundRefuses(t *testing.T, n, step int) {
	t.Helper()
	if got, err := alone.Round(n, step); got != 0 || plain.Told(err) != api.ErrRange {
		t.Errorf("Round(%d, %d): %d, %v; want ErrRange", n, step, got, err)
	}
}

// encodeIs: the rests of a picture are these, without an error.
func encodeIs(t *testing.T, p api.Picture, step int, want ...int) {
	t.Helper()
	if got, err := alone.Encode(p, step); !slices.Equal(got, want) || err != nil {
		t.Errorf("Encode(%v, %d): %v, %v; want %v", p, step, got, err, want)
	}
}

// encodeRefuses: Encode answers the error, and nothing else.
func encodeRefuses(t *testing.T, p api.Picture, step int, want api.Errno) {
	t.Helper()
	if got, err := alone.Encode(p, step); len(got) != 0 || plain.Told(err) != want {
		t.Errorf("Encode(%v, %d): %v, %v; want %v", p, step, got, err, want)
	}
}

// decodeIs: this picture is told by the rests, without an error.
func decodeIs(t *testing.T, step int, rest []int, want api.Picture) {
	t.Helper()
	if got, err := alone.Decode(want.Wide, want.High, step, rest); !same(got, want) || err != nil {
		t.Errorf("Decode(%d, %d, %d, %v): %v, %v; want %v", want.Wide, want.High, step, rest, got, err, want)
	}
}

// decodeRefuses: Decode answers the error, and nothing else.
func decodeRefuses(t *testing.T, wide, high, step int, rest []int, want api.Errno) {
	t.Helper()
	if got, err := alone.Decode(wide, high, step, rest); !blank(got) || plain.Told(err) != want {
		t.Errorf("Decode(%d, %d, %d, %v): %v, %v; want %v", wide, high, step, rest, got, err, want)
	}
}

// thereAndBack: a picture is coded as the promise says, and told again never further than half a step from what it was.
func thereAndBack(t *testing.T, p api.Picture, step int) {
	t.Helper()
	rest, told := coded(p, step)
	encodeIs(t, p, step, rest...)
	decodeIs(t, step, rest, told)
	if apart, err := picture.Unlike(p, told); apart > step/2 || err != nil {
		t.Errorf("%v is told as %v by step %d: %d apart, %v", p, told, step, apart, err)
	}
	// What was told once is coded as it was, so that nothing adds up.
	encodeIs(t, told, step, rest...)
}

// TestRound: numbers about halves of a step, either way.
func TestRound(t *testing.T) {
	for _, c := range [][3]int{
		{0, 1, 0}, {7, 1, 7}, {-7, 1, -7}, {255, 1, 255}, {-255, 1, -255},
		{1, 2, 1}, {-1, 2, -1}, {2, 2, 1}, {3, 2, 2}, {-3, 2, -2}, {255, 2, 128}, {-255, 2, -128},
		{1, 3, 0}, {-1, 3, 0}, {2, 3, 1}, {-2, 3, -1}, {4, 3, 1}, {5, 3, 2},
		{4, 10, 0}, {5, 10, 1}, {14, 10, 1}, {15, 10, 2}, {-4, 10, 0}, {-5, 10, -1}, {-14, 10, -1}, {-15, 10, -2},
		{31, 64, 0}, {32, 64, 1}, {95, 64, 1}, {96, 64, 2}, {255, 64, 4}, {-31, 64, 0}, {-32, 64, -1}, {-255, 64, -4},
	} {
		roundIs(t, c[0], c[1], c[2])
	}
}

// TestRoundAll: every number by every step.
func TestRoundAll(t *testing.T) {
	for n := -255; n <= 255; n++ {
		for step := 1; step <= api.MaxStep; step++ {
			roundIs(t, n, step, nearest(n, step))
		}
	}
}

// TestRoundErrors: a number, or a step, that is none that may be, or both.
func TestRoundErrors(t *testing.T) {
	for _, n := range wrongRest {
		for step := 1; step <= api.MaxStep; step++ {
			roundRefuses(t, n, step)
		}
		for _, step := range wrongStep {
			roundRefuses(t, n, step)
		}
	}
	for _, step := range wrongStep {
		for n := -255; n <= 255; n++ {
			roundRefuses(t, n, step)
		}
	}
}

// TestEncode: each by the one to the left, the first of a row by the one above, the very first by 128.
func TestEncode(t *testing.T) {
	encodeIs(t, of(1, 1, 128), 1, 0)
	encodeIs(t, of(1, 1, 0), 1, -128)
	encodeIs(t, of(1, 1, 255), 1, 127)
	encodeIs(t, of(3, 2, 130, 131, 133, 120, 121, 119), 1, 2, 1, 2, -10, 1, -2)
	encodeIs(t, of(1, 3, 130, 120, 121), 1, 2, -10, 1)
	encodeIs(t, of(4, 1, 130, 120, 0, 255), 1, 2, -10, -120, 255)
	encodeIs(t, of(1, 2, 255, 0), 1, 127, -255)
	// Not by what the one beside was, 142, but by what was told for it, 138: 143 is half a step from it.
	encodeIs(t, of(3, 1, 138, 142, 143), 10, 1, 0, 1)
	// Not below 0, nor above 255: -22 is told as 0, and 258 as 255, and from there the next is guessed.
	encodeIs(t, of(3, 1, 0, 24, 3), 50, -3, 0, 0)
	encodeIs(t, of(2, 1, 0, 26), 50, -3, 1)
	encodeIs(t, of(2, 1, 255, 229), 26, 5, -1)
	encodeIs(t, of(2, 1, 255, 242), 26, 5, -1)
	encodeIs(t, of(2, 1, 255, 243), 26, 5, 0)
}

// TestDecode: rests tell pixels by those that were told, not below 0, nor above 255.
func TestDecode(t *testing.T) {
	decodeIs(t, 1, []int{0}, of(1, 1, 128))
	decodeIs(t, 1, []int{-128}, of(1, 1, 0))
	decodeIs(t, 1, []int{-129}, of(1, 1, 0))
	decodeIs(t, 1, []int{127}, of(1, 1, 255))
	decodeIs(t, 1, []int{128}, of(1, 1, 255))
	decodeIs(t, 64, []int{255}, of(1, 1, 255))
	decodeIs(t, 64, []int{-255}, of(1, 1, 0))
	decodeIs(t, 1, []int{2, 1, 2, -10, 1, -2}, of(3, 2, 130, 131, 133, 120, 121, 119))
	decodeIs(t, 10, []int{1, 0, 1}, of(3, 1, 138, 138, 148))
	decodeIs(t, 10, []int{1, 0, 1}, of(1, 3, 138, 138, 148))
	decodeIs(t, 50, []int{-3, 1, 9, -1}, of(4, 1, 0, 50, 255, 205))
	decodeIs(t, 50, []int{-3, 1, 9, -1}, of(2, 2, 0, 50, 255, 205))
	decodeIs(t, 50, []int{9, -1, -1, 0}, of(2, 2, 255, 205, 205, 205))
	decodeIs(t, 50, []int{9, 0, -1, 0, -1, 0}, of(2, 3, 255, 255, 205, 205, 155, 155))
}

// TestOnePixel: every pixel alone by every step, and behind one that is dark, or bright.
func TestOnePixel(t *testing.T) {
	for n := range 256 {
		for step := 1; step <= api.MaxStep; step++ {
			thereAndBack(t, of(1, 1, n), step)
			thereAndBack(t, of(2, 1, 0, n), step)
			thereAndBack(t, of(1, 2, 255, n), step)
		}
	}
}

// TestEverySize: pictures of any pixels by every step; by step 1 they come back as they were.
func TestEverySize(t *testing.T) {
	var d dice = 5
	everySize(func(wide, high int) {
		for step := 1; step <= api.MaxStep; step++ {
			p := of(wide, high)
			span := 1 + d.below(256)
			for range wide * high {
				p.Pix = append(p.Pix, (256-span)/2+d.below(span))
			}
			thereAndBack(t, p, step)
			rest, err := alone.Encode(p, 1)
			if err != nil {
				t.Fatal(err)
			}
			decodeIs(t, 1, rest, p)
		}
	})
}

// TestEveryRest: rests that no picture has tell one too, of every size by every step.
func TestEveryRest(t *testing.T) {
	var d dice = 7
	everySize(func(wide, high int) {
		for step := 1; step <= api.MaxStep; step++ {
			rest := []int{}
			span := 1 + d.below(255)
			for range wide * high {
				rest = append(rest, d.below(2*span+1)-span)
			}
			decodeIs(t, step, rest, decoded(wide, high, step, rest))
		}
	})
	for n := -255; n <= 255; n++ {
		for step := 1; step <= api.MaxStep; step++ {
			rest := []int{n, -n, n, n, -n, -n}
			decodeIs(t, step, rest, decoded(3, 2, step, rest))
		}
	}
}

// TestEncodeErrors: what is wrong with the picture, then with the step.
func TestEncodeErrors(t *testing.T) {
	for _, step := range append([]int{1, api.MaxStep}, wrongStep...) {
		for _, n := range wrongSide {
			encodeRefuses(t, of(n, 1, 1), step, api.ErrRange)
			encodeRefuses(t, of(1, n, 1), step, api.ErrRange)
			encodeRefuses(t, of(n, n), step, api.ErrRange)
		}
		everySize(func(wide, high int) {
			pix := make([]int, wide*high+1)
			encodeRefuses(t, of(wide, high, pix...), step, api.ErrShape)
			encodeRefuses(t, of(wide, high, pix[2:]...), step, api.ErrShape)
		})
		for _, n := range wrongPixel {
			encodeRefuses(t, of(2, 1, n, 0), step, api.ErrRange)
			encodeRefuses(t, of(1, 2, 0, n), step, api.ErrRange)
			encodeRefuses(t, of(1, 1, n, 0), step, api.ErrShape)
		}
		encodeRefuses(t, api.Picture{}, step, api.ErrRange)
	}
	for _, step := range wrongStep {
		everySize(func(wide, high int) {
			encodeRefuses(t, of(wide, high, make([]int, wide*high)...), step, api.ErrRange)
		})
	}
}

// TestDecodeNumbers: a side, or the step, that is none that may be, ahead of how many rests there are, and of each.
func TestDecodeNumbers(t *testing.T) {
	for _, rest := range [][]int{nil, {}, {0}, {256}, {0, 0}, make([]int, 36), make([]int, 49)} {
		for _, n := range wrongSide {
			for _, step := range append([]int{1, api.MaxStep}, wrongStep...) {
				decodeRefuses(t, n, 1, step, rest, api.ErrRange)
				decodeRefuses(t, 1, n, step, rest, api.ErrRange)
				decodeRefuses(t, n, n, step, rest, api.ErrRange)
			}
		}
		for _, step := range wrongStep {
			everySize(func(wide, high int) { decodeRefuses(t, wide, high, step, rest, api.ErrRange) })
		}
	}
	// Sides of which the area, kept in 64 bits, would be 4.
	decodeRefuses(t, 1<<62+1, 4, 1, make([]int, 4), api.ErrRange)
	decodeRefuses(t, -2, -3, 1, make([]int, 6), api.ErrRange)
}

// TestDecodeMany: too few rests, or too many, ahead of one that is none that may be.
func TestDecodeMany(t *testing.T) {
	everySize(func(wide, high int) {
		rest := make([]int, wide*high+1)
		for _, step := range []int{1, 7, api.MaxStep} {
			for _, n := range append([]int{0}, wrongRest...) {
				rest[wide*high] = n
				decodeRefuses(t, wide, high, step, rest, api.ErrShape)
				decodeRefuses(t, wide, high, step, rest[2:], api.ErrShape)
			}
			decodeRefuses(t, wide, high, step, nil, api.ErrShape)
		}
	})
	decodeRefuses(t, 6, 6, 1, make([]int, 100_000), api.ErrShape)
	// What lies behind a list's length is not read.
	decodeRefuses(t, 2, 1, 1, make([]int, 1, 2), api.ErrShape)
	decodeIs(t, 1, []int{1, 2, 300}[:2], of(2, 1, 129, 131))
}

// TestDecodeRests: one rest that is none that may be, at each place.
func TestDecodeRests(t *testing.T) {
	for _, n := range wrongRest {
		everySize(func(wide, high int) {
			for place := range wide * high {
				rest := make([]int, wide*high)
				rest[place] = n
				decodeRefuses(t, wide, high, 1+place, rest, api.ErrRange)
			}
		})
	}
}

// TestNothingIsChanged: no list that is handed in is written into, also behind its length.
func TestNothingIsChanged(t *testing.T) {
	pix, rest := []int{1, 2, 3, 4, 5, 6, 77, 78}, []int{0, 1, -1, 2, 0, 255, 77, 78}
	wasPix, wasRest := slices.Clone(pix), slices.Clone(rest)
	encodeIs(t, of(3, 2, pix[:6]...), 2, -64, 1, 1, 2, 1, 0)
	decodeIs(t, 3, rest[:6], of(3, 2, 128, 131, 128, 134, 134, 255))
	if !slices.Equal(pix, wasPix) || !slices.Equal(rest, wasRest) {
		t.Errorf("what was handed in is %v and %v now", pix, rest)
	}
}

// TestAnswersAreFresh: what is done to an answer, or to what was handed in, is seen in no other.
func TestAnswersAreFresh(t *testing.T) {
	p := of(2, 2, 129, 131, 130, 130)
	rest, err := alone.Encode(p, 1)
	if err != nil {
		t.Fatal(err)
	}
	told, err := alone.Decode(2, 2, 1, rest)
	if err != nil {
		t.Fatal(err)
	}
	clear(rest[:cap(rest)])
	if !same(told, p) {
		t.Errorf("what was told is %v now", told)
	}
	clear(told.Pix[:cap(told.Pix)])
	encodeIs(t, p, 1, 1, 2, 1, 0)
	decodeIs(t, 1, []int{1, 2, 1, 0}, p)
	if rest, err = alone.Encode(p, 1); err != nil {
		t.Fatal(err)
	}
	clear(p.Pix)
	if !slices.Equal(rest, []int{1, 2, 1, 0}) {
		t.Errorf("the rests are %v now", rest)
	}
}
