package bytes_test

import (
	"math"
	"slices"
	"strconv"
	"strings"
	"testing"

	"dropletmill/api"
	"dropletmill/bytes"
	"dropletmill/film"
	"dropletmill/plain"
)

// Numbers that are none of their kind, also such as are one in their lowest byte.
var (
	wrongSide = []int{0, -1, -6, api.MaxSide + 1, 257, 1<<32 + 1, 1<<62 + 1, math.MaxInt, math.MinInt}
	wrongStep = []int{0, -1, -64, api.MaxStep + 1, 255, 257, 1<<32 + 1, math.MaxInt, math.MinInt}
	wrongMove = []int{-2, 2, 3, -4, 1 << 32, 1<<32 + 1, -1 << 32, math.MaxInt, math.MinInt}
	wrongRest = []int{-256, 256, 1 << 32, -1 << 32, math.MaxInt, math.MinInt}
)

// dice: numbers that are always the same.
type dice int

// below n, from 0 on.
func (d *dice) below(n int) int {
	*d = (*d*16_807 + 11) % 2_147_483_647
	return int(*d) / 8 % n
}

// one of some numbers.
func (d *dice) one(of ...int) int { return of[d.below(len(of))] }

// film of so many that are coded, with rests no further than span from 0.
func (d *dice) film(wide, high, many, span int) []api.Coded {
	l := []api.Coded{}
	for i := range many {
		c := lone()
		if i > 0 && d.below(3) > 0 {
			c = by(d.below(3)-1, d.below(3)-1)
		}
		for range wide * high {
			c.Rest = append(c.Rest, d.below(2*span+1)-span)
		}
		l = append(l, c)
	}
	return l
}

// text of so many bytes, any of them.
func (d *dice) text(many int) string {
	b := []byte{}
	for range many {
		b = append(b, byte(d.below(256)))
	}
	return string(b)
}

// lone: one that stands alone, with these rests.
func lone(rest ...int) api.Coded { return api.Coded{Alone: true, Rest: rest} }

// by a move, these rests.
func by(x, y int, rest ...int) api.Coded {
	return api.Coded{Move: api.Move{X: x, Y: y}, Rest: rest}
}

// shots: that are coded.
func shots(l ...api.Coded) []api.Coded { return l }

// alike tells whether two that are coded are.
func alike(a, b api.Coded) bool {
	return a.Alone == b.Alone && a.Move == b.Move && slices.Equal(a.Rest, b.Rest)
}

// cloned: what is coded, in memory of its own.
func cloned(l []api.Coded) []api.Coded {
	out := slices.Clone(l)
	for i, c := range l {
		out[i].Rest = slices.Clone(c.Rest)
	}
	return out
}

// everySize that a picture may have.
func everySize(ask func(wide, high int)) {
	for wide := 1; wide <= api.MaxSide; wide++ {
		for high := 1; high <= api.MaxSide; high++ {
			ask(wide, high)
		}
	}
}

// inBits: what is coded, as digits 0 and 1, by the words of the promise.
func inBits(l []api.Coded) string {
	two := []string{"00", "01", "10", "11"}
	s := ""
	for _, c := range l {
		if c.Alone {
			s += "1"
		} else {
			s += "0" + two[c.Move.X+1] + two[c.Move.Y+1]
		}
		for _, n := range c.Rest {
			as := 2 * n
			if n < 0 {
				as = -2*n - 1
			}
			s += strings.Repeat("1", as/4) + "0" + two[as%4]
		}
	}
	return s
}

// asBytes: these bytes, and behind them so many whole ones of digits 0 and 1, and noughts.
func asBytes(wide, high, step, many int, bits string) string {
	b := []byte{byte(wide), byte(high), byte(step), byte(many)}
	for len(bits)%8 != 0 {
		bits += "0"
	}
	for i := 0; i < len(bits); i += 8 {
		n, err := strconv.ParseUint(bits[i:i+8], 2, 8)
		if err != nil {
			panic(err)
		}
		b = append(b, byte(n))
	}
	return string(b)
}

// packed: the bytes of a film, by the words of the promise; there may be too many.
func packed(wide, high, step int, l []api.Coded) string {
	return asBytes(wide, high, step, len(l), inBits(l))
}

// packIs: these are the bytes, without an error.
func packIs(t *testing.T, wide, high, step int, l []api.Coded, want string) {
	t.Helper()
	if got, err := bytes.Pack(wide, high, step, l); got != want || err != nil {
		t.Errorf("Pack(%d, %d, %d, %v): %q, %v; want %q", wide, high, step, l, got, err, want)
	}
}

// packRefuses: Pack answers the error, and nothing else.
func packRefuses(t *testing.T, wide, high, step int, l []api.Coded, want api.Errno) {
	t.Helper()
	if got, err := bytes.Pack(wide, high, step, l); got != "" || plain.Told(err) != want {
		t.Errorf("Pack(%d, %d, %d, %v): %q, %v; want %v", wide, high, step, l, got, err, want)
	}
}

// unpackIs: this is the film, without an error.
func unpackIs(t *testing.T, b string, wide, high, step int, want []api.Coded) {
	t.Helper()
	if w, h, s, l, err := bytes.Unpack(b); w != wide || h != high || s != step || !slices.EqualFunc(l, want, alike) || err != nil {
		t.Errorf("Unpack(%q): %d, %d, %d, %v, %v; want %d, %d, %d, %v", b, w, h, s, l, err, wide, high, step, want)
	}
}

// unpackRefuses: Unpack answers the error, and nothing else.
func unpackRefuses(t *testing.T, b string, want api.Errno) {
	t.Helper()
	if w, h, s, l, err := bytes.Unpack(b); w != 0 || h != 0 || s != 0 || len(l) != 0 || plain.Told(err) != want {
		t.Errorf("Unpack(%q): %d, %d, %d, %v, %v; want %v", b, w, h, s, l, err, want)
	}
}

// thereAndBack: a film is packed as the promise says, and unpacked it is itself; or it is too long for both.
func thereAndBack(t *testing.T, wide, high, step int, l []api.Coded) {
	t.Helper()
	b := packed(wide, high, step, l)
	if len(b) > api.MaxData {
		packRefuses(t, wide, high, step, l, api.ErrFull)
		unpackRefuses(t, b, api.ErrFull)
		return
	}
	packIs(t, wide, high, step, l, b)
	unpackIs(t, b, wide, high, step, l)
}

// isFilmOrNone: bytes are refused, or what they are is packed as just these.
func isFilmOrNone(t *testing.T, b string) bool {
	t.Helper()
	wide, high, step, l, err := bytes.Unpack(b)
	if err != nil {
		unpackRefuses(t, b, api.ErrSyntax)
		return false
	}
	if again := packed(wide, high, step, l); again != b {
		t.Errorf("Unpack(%q): %d, %d, %d, %v; but this is packed as %q", b, wide, high, step, l, again)
	}
	if _, err := film.Decode(wide, high, step, l); err != nil {
		t.Errorf("Unpack(%q): %d, %d, %d, %v; but this is no film: %v", b, wide, high, step, l, err)
	}
	return true
}

// TestPack: four bytes, and behind them what is coded, bit by bit.
func TestPack(t *testing.T) {
	packIs(t, 1, 1, 1, shots(lone(0)), "\x01\x01\x01\x01\x80")                            // 1 000
	packIs(t, 3, 2, 64, shots(lone(0, -1, 1, -2, 2, -3)), "\x03\x02\x40\x01\x82\x9c\x48") // 1 000 001 010 011 1000 1001
	packIs(t, 1, 1, 7, shots(lone(4), lone(-4)), "\x01\x01\x07\x02\xe3\x60")              // 1 11000 1 1011
	packIs(t, 1, 2, 9, shots(lone(0, 0), by(-1, 1, 1, 0)), "\x01\x02\x09\x02\x80\x24\x00")
	packIs(t, 1, 1, 2, shots(lone(0), by(-1, -1, 0)), "\x01\x01\x02\x02\x80\x00")     // 1 000 0 00 00 000
	packIs(t, 1, 1, 2, shots(lone(0), by(1, 0, -1)), "\x01\x01\x02\x02\x84\x90")      // 1 000 0 10 01 001
	packIs(t, 1, 1, 2, shots(lone(0), by(0, 1, -1)), "\x01\x01\x02\x02\x83\x10")      // 1 000 0 01 10 001
	packIs(t, 1, 1, 2, shots(lone(0), lone(-1), lone(0)), "\x01\x01\x02\x03\x89\x80") // 1 000 1 001 1 000
	packIs(t, 1, 1, 1, shots(lone(255)), "\x01\x01\x01\x01"+strings.Repeat("\xff", 16)+"\x40")
	packIs(t, 1, 1, 1, shots(lone(-255)), "\x01\x01\x01\x01"+strings.Repeat("\xff", 16)+"\x20")
}

// TestUnpack: what just such bytes are.
func TestUnpack(t *testing.T) {
	unpackIs(t, "\x01\x01\x01\x01\x80", 1, 1, 1, shots(lone(0)))
	unpackIs(t, "\x03\x02\x40\x01\x82\x9c\x48", 3, 2, 64, shots(lone(0, -1, 1, -2, 2, -3)))
	unpackIs(t, "\x01\x01\x07\x02\xe3\x60", 1, 1, 7, shots(lone(4), lone(-4)))
	unpackIs(t, "\x01\x02\x09\x02\x80\x24\x00", 1, 2, 9, shots(lone(0, 0), by(-1, 1, 1, 0)))
	unpackIs(t, "\x01\x01\x02\x02\x84\x90", 1, 1, 2, shots(lone(0), by(1, 0, -1)))
	unpackIs(t, "\x01\x01\x02\x02\x83\x10", 1, 1, 2, shots(lone(0), by(0, 1, -1)))
	unpackIs(t, "\x01\x01\x01\x01"+strings.Repeat("\xff", 16)+"\x40", 1, 1, 1, shots(lone(255)))
}

// TestEverySize: films of every size and length, by every step, with small rests and great ones.
func TestEverySize(t *testing.T) {
	var d dice = 3
	everySize(func(wide, high int) {
		for many := 1; many <= api.MaxFilm; many++ {
			for step := 1; step <= api.MaxStep; step++ {
				thereAndBack(t, wide, high, step, d.film(wide, high, many, d.one(0, 1, 3, 20, 255)))
			}
		}
	})
}

// TestEveryRest: each that may be, alone and moved, with every move.
func TestEveryRest(t *testing.T) {
	for n := -255; n <= 255; n++ {
		thereAndBack(t, 1, 1, 1, shots(lone(n)))
		thereAndBack(t, 1, 1, 1, shots(lone(n), lone(-n), lone(n)))
		for x := -1; x <= 1; x++ {
			for y := -1; y <= 1; y++ {
				thereAndBack(t, 1, 2, 1, shots(lone(0, n), by(x, y, n, 1), by(y, x, -1, 2)))
			}
		}
	}
}

// TestCodedFilms: pictures that are coded, packed, unpacked and decoded are told as without bytes.
func TestCodedFilms(t *testing.T) {
	var d dice = 5
	for range 300 {
		wide, high := 1+d.below(4), 1+d.below(4)
		l := []api.Picture{}
		for range 1 + d.below(api.MaxFilm) {
			p := api.Picture{Wide: wide, High: high}
			for range wide * high {
				p.Pix = append(p.Pix, 100+d.below(60))
			}
			l = append(l, p)
		}
		c, err := film.Encode(l, 1+d.below(api.MaxFilm), 32)
		if err != nil {
			t.Fatal(err)
		}
		thereAndBack(t, wide, high, 32, c)
	}
}

// long: a film of these sides and so many bits, if there is one by rests from 0 on.
func long(wide, high, many, bits int) ([]api.Coded, bool) {
	l := shots(lone(make([]int, wide*high)...))
	for range many - 1 {
		l = append(l, by(0, 0, make([]int, wide*high)...))
	}
	more := bits - len(inBits(l))
	for i := range l {
		for k := range l[i].Rest {
			// Each 2 more bring one bit more.
			now := max(0, min(more, 127))
			l[i].Rest[k], more = 2*now, more-now
		}
	}
	return l, more == 0
}

// TestMaxData: so many bytes may be, with the four ahead; not a bit more.
func TestMaxData(t *testing.T) {
	most := 8 * (api.MaxData - 4)
	asked := 0
	everySize(func(wide, high int) {
		for many := 1; many <= api.MaxFilm; many++ {
			for bits := most - 20; bits <= most+20; bits++ {
				l, ok := long(wide, high, many, bits)
				if !ok {
					continue
				}
				asked++
				b := packed(wide, high, 1, l)
				if bits <= most {
					packIs(t, wide, high, 1, l, b)
					unpackIs(t, b, wide, high, 1, l)
				} else {
					packRefuses(t, wide, high, 1, l, api.ErrFull)
					unpackRefuses(t, b, api.ErrFull)
				}
			}
		}
	})
	if asked < 5_000 {
		t.Errorf("only %d films were so long", asked)
	}
	// Also beyond what chapter 16 puts at once.
	for many := 1; many <= api.MaxFilm; many++ {
		packRefuses(t, 6, 6, 1, slices.Repeat(shots(lone(slices.Repeat([]int{255}, 36)...)), many), api.ErrFull)
	}
	for bits := 1_990; bits <= 2_010; bits++ {
		l, ok := long(6, 6, 1, bits)
		if !ok {
			t.Fatalf("no film of %d bits", bits)
		}
		packRefuses(t, 6, 6, 1, l, api.ErrFull)
	}
}

// TestUnpackFull: more than MaxData bytes, whatever they are; as many, or fewer, are of their form or not.
func TestUnpackFull(t *testing.T) {
	var d dice = 7
	for _, many := range []int{api.MaxData + 1, api.MaxData + 2, 2 * api.MaxData, 1 << 20} {
		for _, b := range []string{"\x00", "\xff", "\x01", "\x80"} {
			unpackRefuses(t, strings.Repeat(b, many), api.ErrFull)
		}
		unpackRefuses(t, d.text(many), api.ErrFull)
		unpackRefuses(t, "\x01\x01\x01\x01\x80"+strings.Repeat("\x00", many-5), api.ErrFull)
	}
	for many := range api.MaxData + 1 {
		for _, b := range []string{"\x00", "\xff", "\x80"} {
			unpackRefuses(t, strings.Repeat(b, many), api.ErrSyntax)
		}
		if many > 5 {
			unpackRefuses(t, "\x01\x01\x01\x01\x80"+strings.Repeat("\x00", many-5), api.ErrSyntax)
		}
	}
}

// films of one pixel, by this step, that begin so and have so many bits more, at most: what they are packed as, by the words of the promise.
func films(step, more int, start []api.Coded, all map[string]bool) {
	if len(start) > 0 {
		all[packed(1, 1, step, start)] = true
	}
	if len(start) == api.MaxFilm {
		return
	}
	for n := 0; len(inBits(shots(lone(n)))) <= more; n++ {
		for _, rest := range []int{n, -n, -n - 1} {
			next := shots(lone(rest))
			for place := range 9 {
				if len(start) > 0 {
					next = append(next, by(place%3-1, place/3-1, rest))
				}
			}
			for _, c := range next {
				if bits := len(inBits(shots(c))); bits <= more {
					films(step, more-bits, append(start, c), all)
				}
			}
		}
	}
}

// TestAllBytes: of all up to two bytes behind the four just those that a film is packed as are one.
func TestAllBytes(t *testing.T) {
	all, found := map[string]bool{}, 0
	films(9, 16, nil, all)
	ask := func(b string) {
		ok := isFilmOrNone(t, b)
		if ok != all[b] {
			t.Errorf("Unpack(%q): %v; want %v", b, ok, all[b])
		}
		if ok {
			found++
		}
	}
	for many := range 8 {
		start := string([]byte{1, 1, 9, byte(many)})
		ask(start)
		for i := range 256 {
			ask(start + string([]byte{byte(i)}))
			for j := range 256 {
				ask(start + string([]byte{byte(i), byte(j)}))
			}
		}
	}
	if found != len(all) || found < 100 {
		t.Errorf("%d are films; want %d", found, len(all))
	}
}

// TestNoFirst: too few bytes for what stands ahead of all, or none at all.
func TestNoFirst(t *testing.T) {
	for _, b := range []string{"", "\x01", "\x01\x01", "\x01\x01\x01", "\x01\x01\x01\x01", "\x01\x01\x01\x00", "\x01\x01\x01\x00\x80", "\x00\x01\x01\x01\x80", "\x01\x00\x01\x01\x80"} {
		unpackRefuses(t, b, api.ErrSyntax)
	}
}

// TestFourBytes: each number of each of them, with what is packed behind the others.
func TestFourBytes(t *testing.T) {
	bits := inBits(shots(lone(0), lone(0), lone(0)))
	for n := range 256 {
		b := asBytes(1, 1, n, 3, bits)
		if n >= 1 && n <= api.MaxStep {
			unpackIs(t, b, 1, 1, n, shots(lone(0), lone(0), lone(0)))
		} else {
			unpackRefuses(t, b, api.ErrSyntax)
		}
		if n != 3 {
			unpackRefuses(t, asBytes(1, 1, 1, n, bits), api.ErrSyntax)
		}
		// A film of so many, or so wide, or high, pictures: too many bits are none either.
		for _, l := range [][]api.Coded{slices.Repeat(shots(lone(0)), n), slices.Repeat(shots(lone(0), by(0, 0, 1)), n/2)} {
			if len(l) == n && n > api.MaxFilm && len(packed(1, 1, 1, l)) <= api.MaxData {
				unpackRefuses(t, packed(1, 1, 1, l), api.ErrSyntax)
			}
		}
		l := shots(lone(make([]int, n)...))
		if n >= 1 && n <= api.MaxSide {
			unpackIs(t, packed(n, 1, 1, l), n, 1, 1, l)
			unpackIs(t, packed(1, n, 1, l), 1, n, 1, l)
		} else {
			unpackRefuses(t, packed(n, 1, 1, l), api.ErrSyntax)
			unpackRefuses(t, packed(1, n, 1, l), api.ErrSyntax)
		}
	}
}

// TestCut: a film's bytes, less some, with some more, or with a bit behind all, are none.
func TestCut(t *testing.T) {
	var d dice = 11
	for range 500 {
		wide, high, many := 1+d.below(3), 1+d.below(3), 1+d.below(3)
		l := d.film(wide, high, many, d.one(1, 4, 30))
		b := packed(wide, high, 5, l)
		if len(b) >= api.MaxData {
			continue
		}
		for end := range len(b) {
			unpackRefuses(t, b[:end], api.ErrSyntax)
		}
		unpackRefuses(t, b+"\x00", api.ErrSyntax)
		unpackRefuses(t, b+"\x80", api.ErrSyntax)
		bits := inBits(l)
		for i := range (8 - len(bits)%8) % 8 {
			unpackRefuses(t, asBytes(wide, high, 5, many, bits+strings.Repeat("0", i)+"1"), api.ErrSyntax)
		}
	}
}

// TestNoFilm: bits that could be read, but are of no film.
func TestNoFilm(t *testing.T) {
	// The first is not Alone.
	unpackRefuses(t, packed(1, 1, 1, shots(by(0, 0, 1))), api.ErrSyntax)
	unpackRefuses(t, packed(1, 1, 1, shots(by(-1, -1, 0), lone(1))), api.ErrSyntax)
	// Two bits that no side of a move is.
	for _, move := range []string{"1100", "0011", "1111", "1101", "1011", "0111", "1110"} {
		unpackRefuses(t, asBytes(1, 1, 1, 2, "1000"+"0"+move+"000"), api.ErrSyntax)
		unpackRefuses(t, asBytes(1, 1, 1, 3, "1000"+"00101000"+"0"+move+"000"), api.ErrSyntax)
	}
	// A rest beyond -255 to 255.
	unpackIs(t, asBytes(1, 1, 1, 1, "1"+strings.Repeat("1", 127)+"010"), 1, 1, 1, shots(lone(255)))
	unpackRefuses(t, asBytes(1, 1, 1, 1, "1"+strings.Repeat("1", 127)+"011"), api.ErrSyntax)
	for many := 128; many < 900; many++ {
		unpackRefuses(t, asBytes(1, 1, 1, 1, "1"+strings.Repeat("1", many)+"000"), api.ErrSyntax)
	}
	// Ones without an end.
	for many := range api.MaxData - 3 {
		unpackRefuses(t, asBytes(1, 1, 1, 1, strings.Repeat("1", 8*many)), api.ErrSyntax)
	}
}

// TestAnyBytes: with any bits of a film turned, or any bytes: refused, or packed as just these.
func TestAnyBytes(t *testing.T) {
	var d dice = 13
	found := 0
	for range 20_000 {
		wide, high, many := 1+d.below(3), 1+d.below(3), 1+d.below(4)
		b := []byte(packed(wide, high, 1+d.below(64), d.film(wide, high, many, d.one(1, 4, 9))))
		for range 1 + d.below(3) {
			if i := d.below(len(b)); i >= 4 || d.below(4) == 0 {
				b[i] ^= 1 << d.below(8)
			}
		}
		if len(b) <= api.MaxData && isFilmOrNone(t, string(b)) {
			found++
		}
		isFilmOrNone(t, d.text(d.below(api.MaxData+1)))
		isFilmOrNone(t, string([]byte{1, 1, 1, byte(1 + d.below(3))})+d.text(1+d.below(4)))
	}
	if found < 1_000 {
		t.Errorf("only %d were films", found)
	}
}

// TestDecodeErrors: what chapter 17's Decode says of it, whatever else is wrong, also where there would be too many bytes.
func TestDecodeErrors(t *testing.T) {
	var d dice = 17
	told := map[api.Errno]int{}
	for range 20_000 {
		wide, high, step := d.one(1, 2, 3, 6), d.one(1, 2, 3, 6), 1+d.below(64)
		l, toldWide, toldHigh := d.film(wide, high, 1+d.below(api.MaxFilm), d.one(1, 9, 255)), wide, high
		for range d.below(3) {
			c := &l[d.below(len(l))]
			switch d.below(8) {
			case 0:
				c.Alone = !c.Alone
			case 1:
				c.Move.X = d.one(append(wrongMove, -1, 0, 1)...)
			case 2:
				c.Move.Y = d.one(append(wrongMove, -1, 0, 1)...)
			case 3:
				c.Rest = d.film(d.one(wide, 1), d.one(high, 3), 1, 5)[0].Rest
			case 4:
				c.Rest[d.below(len(c.Rest))] = d.one(append(wrongRest, -255, 255)...)
			case 5:
				toldWide = d.one(append(wrongSide, wide)...)
			case 6:
				toldHigh = d.one(append(wrongSide, high)...)
			case 7:
				step = d.one(append(wrongStep, step)...)
			}
		}
		_, err := film.Decode(toldWide, toldHigh, step, l)
		want := plain.Told(err)
		told[want]++
		if want == api.OK {
			thereAndBack(t, toldWide, toldHigh, step, l)
		} else {
			packRefuses(t, toldWide, toldHigh, step, l, want)
		}
	}
	for _, want := range []api.Errno{api.OK, api.ErrRange, api.ErrShape} {
		if told[want] < 1_000 {
			t.Errorf("%v was told only %d times", want, told[want])
		}
	}
}

// TestNoneAndTooMany: no film, or one of more than MaxFilm, ahead of wrong numbers.
func TestNoneAndTooMany(t *testing.T) {
	full := slices.Repeat(shots(lone(1)), api.MaxFilm+1)
	thereAndBack(t, 1, 1, 1, full[:api.MaxFilm])
	for _, n := range append([]int{1}, wrongSide...) {
		for _, step := range append([]int{1}, wrongStep...) {
			for _, l := range [][]api.Coded{nil, {}, full[:0]} {
				packRefuses(t, n, 1, step, l, api.ErrNone)
				packRefuses(t, 1, n, step, l, api.ErrNone)
			}
			packRefuses(t, n, 1, step, full, api.ErrFull)
			packRefuses(t, 1, n, step, full, api.ErrFull)
		}
	}
	for _, many := range []int{256, 257, 262, 100_000} {
		packRefuses(t, 1, 1, 1, slices.Repeat(shots(lone(1)), many), api.ErrFull)
	}
}

// TestWrongNumbers: a side, or the step, that is none that may be, ahead of what is wrong with what was coded, or too long.
func TestWrongNumbers(t *testing.T) {
	for _, l := range [][]api.Coded{{lone(1)}, {lone()}, {by(0, 0, 1)}, {lone(1), by(2, 0)}, {lone(slices.Repeat([]int{255}, 36)...)}} {
		for _, n := range wrongSide {
			packRefuses(t, n, 1, 1, l, api.ErrRange)
			packRefuses(t, 1, n, 1, l, api.ErrRange)
			packRefuses(t, n, n, 0, l, api.ErrRange)
		}
		for _, step := range wrongStep {
			packRefuses(t, 1, 1, step, l, api.ErrRange)
			packRefuses(t, 6, 6, step, l, api.ErrRange)
		}
	}
}

// TestFaultsAheadOfFull: what is wrong with the last one of too long a film is told.
func TestFaultsAheadOfFull(t *testing.T) {
	great := lone(slices.Repeat([]int{255}, 36)...)
	for many := 1; many < api.MaxFilm; many++ {
		l := slices.Repeat(shots(great), many)
		packRefuses(t, 6, 6, 1, l, api.ErrFull)
		for _, n := range wrongRest {
			packRefuses(t, 6, 6, 1, append(l, lone(append(make([]int, 35), n)...)), api.ErrRange)
		}
		for _, m := range wrongMove {
			packRefuses(t, 6, 6, 1, append(l, by(m, 0, great.Rest...)), api.ErrRange)
			packRefuses(t, 6, 6, 1, append(l, by(0, m, great.Rest...)), api.ErrRange)
			packRefuses(t, 6, 6, 1, append(l, api.Coded{Alone: true, Move: api.Move{X: m}, Rest: great.Rest}), api.ErrShape)
		}
		packRefuses(t, 6, 6, 1, append(l, lone(great.Rest[1:]...)), api.ErrShape)
		packRefuses(t, 6, 6, 1, append(l, by(0, 0)), api.ErrShape)
		packRefuses(t, 6, 6, 1, append(shots(by(0, 0, great.Rest...)), l...), api.ErrShape)
	}
}

// TestNothingIsChanged: no list that is handed in is written into, nor what stands behind it, also behind its length.
func TestNothingIsChanged(t *testing.T) {
	var d dice = 19
	l := d.film(3, 2, api.MaxFilm, 4)
	for i := range l {
		l[i].Rest = append(l[i].Rest, 300, -1)[:6]
	}
	was := cloned(l)
	packIs(t, 3, 2, 5, l[:4], packed(3, 2, 5, was[:4]))
	packRefuses(t, 3, 3, 5, l[:4], api.ErrShape)
	if !slices.EqualFunc(l, was, alike) {
		t.Errorf("what was handed in is %v now", l)
	}
	for i := range l {
		if behind := l[i].Rest[6:8]; !slices.Equal(behind, []int{300, -1}) {
			t.Errorf("behind what was handed in there is %v now", behind)
		}
	}
}

// TestAnswersAreFresh: what is done to an answer, to a list of it, or to what was handed in, is seen in no other.
func TestAnswersAreFresh(t *testing.T) {
	var d dice = 23
	l := d.film(3, 2, api.MaxFilm, 4)
	was, want := cloned(l), packed(3, 2, 5, l)
	b, err := bytes.Pack(3, 2, 5, l)
	if err != nil {
		t.Fatal(err)
	}
	for i := range l {
		clear(l[i].Rest)
	}
	if b != want {
		t.Errorf("what was packed is %q now; want %q", b, want)
	}
	_, _, _, got, err := bytes.Unpack(b)
	if err != nil {
		t.Fatal(err)
	}
	for i := range got {
		if !alike(got[i], was[i]) {
			t.Errorf("%d is %v now; want %v", i, got[i], was[i])
		}
		clear(got[i].Rest[:cap(got[i].Rest)])
	}
	clear(got[:cap(got)])
	unpackIs(t, b, 3, 2, 5, was)
	packIs(t, 3, 2, 5, was, want)
}

// TestSameAgain: an answer hangs on its arguments alone, whatever was asked, or went wrong, ahead.
func TestSameAgain(t *testing.T) {
	for range 3 {
		thereAndBack(t, 2, 1, 5, shots(lone(1, 2), by(1, 0, -3, 4)))
		packRefuses(t, 2, 1, 5, shots(lone(1, 256)), api.ErrRange)
		packRefuses(t, 2, 1, 5, nil, api.ErrNone)
		packRefuses(t, 6, 6, 5, shots(lone(slices.Repeat([]int{99}, 36)...)), api.ErrFull)
		unpackRefuses(t, "\x01\x01\x01\x01\x81", api.ErrSyntax)
		unpackRefuses(t, strings.Repeat("\x01", 121), api.ErrFull)
		unpackIs(t, "\x01\x01\x01\x01\x80", 1, 1, 1, shots(lone(0)))
	}
}
