package mix_test

import (
	"math"
	"slices"
	"strings"
	"testing"
	"unsafe"

	"dropletmill/api"
	"dropletmill/mix"
	"dropletmill/plain"
)

// text of n bytes, that hangs on a number.
func text(n, kind int) string {
	b := make([]byte, n)
	for i := range b {
		b[i] = byte(i*37 + kind*101 + 1)
	}
	return string(b)
}

// equal: so many different blocks of so many bytes.
func equal(many, size int) []string {
	l := make([]string, many)
	for i := range l {
		l[i] = text(size, i)
	}
	return l
}

// places 0 to n-1.
func places(n int) []int {
	l := make([]int, n)
	for i := range l {
		l[i] = i
	}
	return l
}

func TestXor(t *testing.T) {
	for _, c := range []struct{ a, b, want string }{
		{"", "", ""},
		{"a", "a", "\x00"},
		{"a", "\x00", "a"},
		{"\x00", "a", "a"},
		{"\x0f\xf0\xff", "\xff\xff\xff", "\xf0\x0f\x00"},
		{"ab", "ba", "\x03\x03"},
		{"\xc3\xa9", "\x80\x01", "\x43\xa8"},
		{"\x00\x00\x00", "\x00\x00\x00", "\x00\x00\x00"},
	} {
		got, err := mix.Xor(c.a, c.b)
		if got != c.want || err != nil {
			t.Errorf("Xor(%q, %q): %q, %v; want %q", c.a, c.b, got, err, c.want)
		}
	}
}

func TestXorOfEveryByte(t *testing.T) {
	for a := range 256 {
		for b := range 256 {
			got, err := mix.Xor(string([]byte{byte(a)}), string([]byte{byte(b)}))
			if got != string([]byte{byte(a ^ b)}) || err != nil {
				t.Fatalf("Xor of %d and %d: %q, %v", a, b, got, err)
			}
		}
	}
}

func TestXorErrors(t *testing.T) {
	for _, c := range []struct {
		a, b int
		want api.Errno
	}{
		{api.MaxData, api.MaxData, api.OK},
		{0, 0, api.OK},
		{api.MaxData + 1, api.MaxData + 1, api.ErrFull},
		{1 << 20, 1 << 20, api.ErrFull},
		{0, 1, api.ErrShape},
		{1, 0, api.ErrShape},
		{3, 4, api.ErrShape},
		{api.MaxData, api.MaxData - 1, api.ErrShape},
		{api.MaxData - 1, api.MaxData, api.ErrShape},
		// Both apply: too many bytes are told ahead of another length, whichever of the two has them.
		{api.MaxData + 1, api.MaxData, api.ErrFull},
		{api.MaxData, api.MaxData + 1, api.ErrFull},
		{api.MaxData + 1, 0, api.ErrFull},
		{0, api.MaxData + 1, api.ErrFull},
	} {
		got, err := mix.Xor(text(c.a, 1), text(c.b, 2))
		if plain.Told(err) != c.want {
			t.Errorf("Xor of %d and %d bytes: %v; want %v", c.a, c.b, err, c.want)
		}
		if err != nil && got != "" || err == nil && len(got) != c.a {
			t.Errorf("Xor of %d and %d bytes: %d bytes beside %v", c.a, c.b, len(got), err)
		}
	}
}

// TestOverTwice: over twice is not at all, and which one is the first one does not matter.
func TestOverTwice(t *testing.T) {
	for n := range api.MaxData + 1 {
		a, b := text(n, 3), text(n, 8)
		once, err := mix.Xor(a, b)
		if err != nil {
			t.Fatalf("Xor of %d bytes: %v", n, err)
		}
		if twice, _ := mix.Xor(once, b); twice != a {
			t.Errorf("over twice, %d bytes: %q; want %q", n, twice, a)
		}
		if turned, _ := mix.Xor(b, a); turned != once {
			t.Errorf("turned, %d bytes: %q; want %q", n, turned, once)
		}
	}
}

func TestSum(t *testing.T) {
	four := []string{"\x01\x80", "\x02\x40", "\x04\x20", "\x08\x10"}
	for _, c := range []struct {
		of   []int
		want string
	}{
		{[]int{0}, "\x01\x80"},
		{[]int{3}, "\x08\x10"},
		{[]int{0, 1}, "\x03\xc0"},
		{[]int{1, 0}, "\x03\xc0"},
		{[]int{3, 0, 2}, "\x0d\xb0"},
		{[]int{2, 3, 1, 0}, "\x0f\xf0"},
	} {
		got, err := mix.Sum(four, c.of)
		if got != c.want || err != nil {
			t.Errorf("Sum of %v: %q, %v; want %q", c.of, got, err, c.want)
		}
	}
}

// TestSumIsXorOfAll: block behind block, at every size and for every number of blocks.
func TestSumIsXorOfAll(t *testing.T) {
	for many := 1; many <= api.MaxBlocks; many++ {
		for size := 1; size <= api.MaxSize; size++ {
			l := equal(many, size)
			want := strings.Repeat("\x00", size)
			for _, b := range l {
				want, _ = mix.Xor(want, b)
			}
			got, err := mix.Sum(l, places(many))
			if got != want || err != nil {
				t.Errorf("Sum of %d blocks of %d: %q, %v; want %q", many, size, got, err, want)
			}
		}
	}
}

// TestSumOfEqualBlocks: a block may be there twice, though a place may be named but once.
func TestSumOfEqualBlocks(t *testing.T) {
	got, err := mix.Sum([]string{"ab", "ab", "cd"}, []int{0, 1})
	if got != "\x00\x00" || err != nil {
		t.Errorf("Sum of two that are the same: %q, %v", got, err)
	}
}

func TestSumErrors(t *testing.T) {
	three := []string{"abc", "def", "ghi"}
	full := equal(api.MaxBlocks, api.MaxSize)
	for _, c := range []struct {
		list []string
		of   []int
		want api.Errno
	}{
		{three, nil, api.ErrNone},
		{three, []int{}, api.ErrNone},
		{three, []int{0, 1}[:0], api.ErrNone},
		{three, []int{3}, api.ErrRange},
		{three, []int{-1}, api.ErrRange},
		{three, []int{0, 1, 2, 3}, api.ErrRange},
		{three, []int{math.MaxInt}, api.ErrRange},
		{three, []int{math.MinInt}, api.ErrRange},
		{three, []int{1, 1}, api.ErrClash},
		{three, []int{0, 1, 2, 0}, api.ErrClash},
		{three, []int{2, 1, 2}, api.ErrClash},
		{three[:1], []int{1}, api.ErrRange},
		{full, places(api.MaxBlocks + 1), api.ErrRange},
		{full, []int{15, 15}, api.ErrClash},
		{full, slices.Repeat(places(api.MaxBlocks), 1000), api.ErrClash},
		// One by one: what is wrong with the first place that has a fault, and of one place there is no such block ahead of named ahead.
		{three, []int{1, 1, 3}, api.ErrClash},
		{three, []int{1, 3, 1}, api.ErrRange},
		{three, []int{3, 3}, api.ErrRange},
		{three, []int{-1, 0, 0}, api.ErrRange},
	} {
		got, err := mix.Sum(c.list, c.of)
		if plain.Told(err) != c.want || got != "" {
			t.Errorf("Sum(%q, %v): %q, %v; want %v", c.list, c.of, got, err, c.want)
		}
	}
}

// TestSumTellsCheckFirst: whatever the places are, a fault of the blocks is told ahead of theirs.
func TestSumTellsCheckFirst(t *testing.T) {
	for _, c := range []struct {
		name string
		list []string
		want api.Errno
	}{
		{"nil", nil, api.ErrNone},
		{"empty", []string{}, api.ErrNone},
		{"empty with memory behind", equal(3, 2)[:0], api.ErrNone},
		{"one beyond MaxBlocks", equal(api.MaxBlocks+1, 1), api.ErrFull},
		{"first of no bytes", []string{"", ""}, api.ErrRange},
		{"one beyond MaxSize", equal(2, api.MaxSize+1), api.ErrRange},
		{"last shorter", []string{"abc", "def", "gh"}, api.ErrShape},
		{"last longer", []string{"abc", "def", "ghij"}, api.ErrShape},
	} {
		for _, of := range [][]int{nil, {0}, {0, 1}, {-1}, {99}, {0, 0}} {
			got, err := mix.Sum(c.list, of)
			if plain.Told(err) != c.want || got != "" {
				t.Errorf("Sum, %s, of %v: %q, %v; want %v", c.name, of, got, err, c.want)
			}
		}
	}
}

func TestZero(t *testing.T) {
	for size := 1; size <= api.MaxSize; size++ {
		got, err := mix.Zero(size)
		if got != strings.Repeat("\x00", size) || err != nil {
			t.Errorf("Zero(%d): %q, %v", size, got, err)
		}
	}
	for _, size := range []int{0, -1, api.MaxSize + 1, math.MaxInt, math.MinInt} {
		got, err := mix.Zero(size)
		if got != "" || plain.Told(err) != api.ErrRange {
			t.Errorf("Zero(%d): %q, %v; want ErrRange", size, got, err)
		}
	}
}

// TestListsStayAsTheyWere: nothing that is handed in is written into, and what lies behind a list is not read.
func TestListsStayAsTheyWere(t *testing.T) {
	l, of := []string{"ab", "cd", "behind", ""}, []int{1, 0, 0, 99}
	keptList, keptOf := slices.Clone(l), slices.Clone(of)
	got, err := mix.Sum(l[:2], of[:2])
	if got != "\x02\x06" || err != nil {
		t.Errorf("Sum reads behind a list: %q, %v", got, err)
	}
	if !slices.Equal(l, keptList) || !slices.Equal(of, keptOf) {
		t.Errorf("a list that was handed in was written into: %q, %v", l, of)
	}
}

// TestTextsAreFresh: an answer shares no memory with an argument, nor with another answer.
func TestTextsAreFresh(t *testing.T) {
	a, zeros := text(8, 1), strings.Repeat("\x00", 8)
	over, _ := mix.Xor(a, zeros)
	under, _ := mix.Xor(zeros, a)
	lone, _ := mix.Sum([]string{a}, []int{0})
	if over != a || under != a || lone != a {
		t.Fatalf("%q, %q and %q are to be %q", over, under, lone, a)
	}
	for _, s := range []string{over, under, lone} {
		if unsafe.StringData(s) == unsafe.StringData(a) {
			t.Error("an answer lies in an argument")
		}
	}
	first, _ := mix.Zero(8)
	second, _ := mix.Zero(8)
	if unsafe.StringData(first) == unsafe.StringData(second) {
		t.Error("two answers of Zero lie in one memory")
	}
}

// TestSameAgain: an answer hangs on its arguments alone, whatever was asked, or went wrong, ahead.
func TestSameAgain(t *testing.T) {
	l := []string{"ab", "cd", "ef"}
	for range 3 {
		if s, err := mix.Sum(l, []int{2, 0}); s != "\x04\x04" || err != nil {
			t.Fatalf("Sum: %q, %v", s, err)
		}
		if s, err := mix.Xor("ab", "cd"); s != "\x02\x06" || err != nil {
			t.Fatalf("Xor: %q, %v", s, err)
		}
		mix.Sum(l, []int{2, 2})
		mix.Xor("a", "bc")
		mix.Zero(-1)
	}
}
