package blocks_test

import (
	"math"
	"slices"
	"strings"
	"testing"
	"unsafe"

	"dropletmill/api"
	"dropletmill/blocks"
	"dropletmill/plain"
)

// text of n bytes, none of which is 0.
func text(n int) string {
	b := make([]byte, n)
	for i := range b {
		b[i] = byte(i%255) + 1
	}
	return string(b)
}

// equal: so many blocks of so many bytes.
func equal(many, size int) []string {
	return slices.Repeat([]string{strings.Repeat("x", size)}, many)
}

func TestSplit(t *testing.T) {
	for _, c := range []struct {
		data string
		size int
		want []string
	}{
		{"abcdef", 3, []string{"abc", "def"}},
		{"abcdefg", 3, []string{"abc", "def", "g\x00\x00"}},
		{"abcdefgh", 3, []string{"abc", "def", "gh\x00"}},
		{"a", 8, []string{"a\x00\x00\x00\x00\x00\x00\x00"}},
		{"abc", 1, []string{"a", "b", "c"}},
		{"\x00\xff\x00", 2, []string{"\x00\xff", "\x00\x00"}},
		{"é", 1, []string{"\xc3", "\xa9"}},
		{"", 1, []string{"\x00"}},
		{"", 8, []string{strings.Repeat("\x00", 8)}},
	} {
		got, err := blocks.Split(c.data, c.size)
		if err != nil || !slices.Equal(got, c.want) {
			t.Errorf("Split(%q, %d): %q, %v; want %q", c.data, c.size, got, err, c.want)
		}
	}
}

func TestSplitErrors(t *testing.T) {
	for _, c := range []struct {
		bytes, size int
		want        api.Errno
	}{
		{api.MaxData, api.MaxSize, api.OK},
		{api.MaxData + 1, api.MaxSize, api.ErrFull},
		{1 << 20, api.MaxSize, api.ErrFull},
		{1, 0, api.ErrRange},
		{1, -1, api.ErrRange},
		{1, api.MaxSize + 1, api.ErrRange},
		{1, math.MaxInt, api.ErrRange},
		{1, math.MinInt, api.ErrRange},
		{0, 0, api.ErrRange},
		{0, api.MaxSize + 1, api.ErrRange},
		{api.MaxBlocks, 1, api.OK},
		{api.MaxBlocks + 1, 1, api.ErrFull},
		{7 * api.MaxBlocks, 7, api.OK},
		{7*api.MaxBlocks + 1, 7, api.ErrFull},
		{api.MaxData, 7, api.ErrFull},
		// Several apply: too many bytes are told ahead of the size, the size ahead of too many blocks.
		{api.MaxData + 1, 0, api.ErrFull},
		{api.MaxData + 1, api.MaxSize + 1, api.ErrFull},
		{api.MaxData + 1, 1, api.ErrFull},
		{api.MaxData, 0, api.ErrRange},
		{api.MaxData, -1, api.ErrRange},
	} {
		got, err := blocks.Split(text(c.bytes), c.size)
		if plain.Told(err) != c.want {
			t.Errorf("Split of %d bytes by %d: %v; want %v", c.bytes, c.size, err, c.want)
		}
		if err != nil && len(got) != 0 {
			t.Errorf("Split of %d bytes by %d: %q beside %v", c.bytes, c.size, got, err)
		}
	}
}

// faults of lists of blocks, with the first error that applies.
var faults = []struct {
	name string
	list []string
	want api.Errno
}{
	{"nil", nil, api.ErrNone},
	{"empty", []string{}, api.ErrNone},
	{"empty with memory behind", equal(3, 2)[:0], api.ErrNone},
	{"one beyond MaxBlocks", equal(api.MaxBlocks+1, 1), api.ErrFull},
	{"far beyond MaxBlocks", equal(1000, 1), api.ErrFull},
	{"first of no bytes", []string{""}, api.ErrRange},
	{"all of no bytes", []string{"", "", ""}, api.ErrRange},
	{"one beyond MaxSize", equal(2, api.MaxSize+1), api.ErrRange},
	{"second shorter", []string{"abc", "de", "fgh"}, api.ErrShape},
	{"last longer", []string{"abc", "def", "ghij"}, api.ErrShape},
	{"last of no bytes", []string{"a", "b", ""}, api.ErrShape},
	{"last beyond MaxSize", []string{"a", strings.Repeat("b", api.MaxSize+1)}, api.ErrShape},
	{"too many, and the first of no bytes", append([]string{""}, equal(api.MaxBlocks, 1)...), api.ErrFull},
	{"too many, and one shorter", append(equal(api.MaxBlocks, 2), "a"), api.ErrFull},
	{"first of no bytes, and one longer", []string{"", "a"}, api.ErrRange},
	{"first beyond MaxSize, and one shorter", []string{strings.Repeat("a", api.MaxSize+1), "b"}, api.ErrRange},
}

func TestCheck(t *testing.T) {
	for _, l := range [][]string{
		{"a"},
		{"\x00\x00", "ab"},
		equal(1, api.MaxSize),
		equal(api.MaxBlocks, 1),
		equal(api.MaxBlocks, api.MaxSize),
		{"é", "ab"},
	} {
		if err := blocks.Check(l); err != nil {
			t.Errorf("Check(%q): %v", l, err)
		}
	}
	for _, c := range faults {
		if err := blocks.Check(c.list); plain.Told(err) != c.want {
			t.Errorf("Check, %s: %v; want %v", c.name, err, c.want)
		}
	}
}

// TestJoinTellsCheckFirst: n of -1 is wrong for every list, and yet the list's fault is told.
func TestJoinTellsCheckFirst(t *testing.T) {
	for _, c := range faults {
		for _, n := range []int{-1, 0, 1, math.MaxInt, math.MinInt} {
			got, err := blocks.Join(c.list, n)
			if plain.Told(err) != c.want || got != "" {
				t.Errorf("Join, %s, %d: %q, %v; want %v", c.name, n, got, err, c.want)
			}
		}
	}
}

func TestJoin(t *testing.T) {
	three := []string{"abc", "def", "ghi"}
	full := equal(api.MaxBlocks, api.MaxSize)
	for _, c := range []struct {
		list []string
		n    int
		text string
		want api.Errno
	}{
		{three, 9, "abcdefghi", api.OK},
		{three, 8, "abcdefgh", api.OK},
		{three, 7, "abcdefg", api.OK},
		{three, 6, "", api.ErrRange},
		{three, 5, "", api.ErrRange},
		{three, 1, "", api.ErrRange},
		{three, 0, "", api.ErrRange},
		{three, -1, "", api.ErrRange},
		{three, 10, "", api.ErrRange},
		{three, math.MaxInt, "", api.ErrRange},
		{three, math.MinInt, "", api.ErrRange},
		{three[:1], 0, "", api.OK},
		{three[:1], 1, "a", api.OK},
		{three[:1], 3, "abc", api.OK},
		{three[:1], 4, "", api.ErrRange},
		{three[:1], -1, "", api.ErrRange},
		{three[:1], math.MaxInt, "", api.ErrRange},
		{three[:1], math.MinInt, "", api.ErrRange},
		{[]string{"a", "b"}, 2, "ab", api.OK},
		{[]string{"a", "b"}, 1, "", api.ErrRange},
		{[]string{"\x00\xff", "\x00\x00"}, 3, "\x00\xff\x00", api.OK},
		{full, 128, strings.Repeat("x", 128), api.OK},
		{full, 121, strings.Repeat("x", 121), api.OK},
		{full, 120, "", api.ErrRange},
		{full, 129, "", api.ErrRange},
	} {
		got, err := blocks.Join(c.list, c.n)
		if got != c.text || plain.Told(err) != c.want {
			t.Errorf("Join(%q, %d): %q, %v; want %q, %v", c.list, c.n, got, err, c.text, c.want)
		}
	}
}

// TestCutAndJoined: a text of any length, by any size, is itself again.
func TestCutAndJoined(t *testing.T) {
	for n := range api.MaxData + 1 {
		for size := 1; size <= api.MaxSize; size++ {
			data := text(n)
			l, err := blocks.Split(data, size)
			if many := max(1, (n+size-1)/size); many > api.MaxBlocks {
				if plain.Told(err) != api.ErrFull {
					t.Errorf("Split of %d bytes by %d: %v", n, size, err)
				}
				continue
			} else if err != nil || len(l) != many {
				t.Errorf("Split of %d bytes by %d: %d blocks, %v; want %d", n, size, len(l), err, many)
				continue
			}
			if err := blocks.Check(l); err != nil {
				t.Errorf("Check of %d bytes by %d: %v", n, size, err)
			}
			if got, err := blocks.Join(l, n); got != data || err != nil {
				t.Errorf("Join of %d bytes by %d: %q, %v", n, size, got, err)
			}
		}
	}
}

// TestListsStayApart: nothing that is handed in is written into or kept, and what comes out is the caller's.
func TestListsStayApart(t *testing.T) {
	first, _ := blocks.Split("abcdef", 2)
	second, _ := blocks.Split("abcdef", 2)
	first[0] = "zz"
	_ = append(first[:1], "yy")
	if !slices.Equal(second, []string{"ab", "cd", "ef"}) {
		t.Errorf("a second Split was changed by the first one's caller: %q", second)
	}
	memory := []string{"ab", "cd", "behind", ""}
	kept := slices.Clone(memory)
	if err := blocks.Check(memory[:2]); err != nil {
		t.Errorf("Check reads behind the list: %v", err)
	}
	if got, err := blocks.Join(memory[:2], 4); got != "abcd" || err != nil {
		t.Errorf("Join reads behind the list: %q, %v", got, err)
	}
	if !slices.Equal(memory, kept) {
		t.Errorf("a list that was handed in was written into: %q", memory)
	}
}

// TestTextsAreFresh: an answer shares no memory with an argument.
func TestTextsAreFresh(t *testing.T) {
	data := text(8)
	l, _ := blocks.Split(data, 8)
	if unsafe.StringData(l[0]) == unsafe.StringData(data) {
		t.Error("a block of Split lies in its text")
	}
	joined, _ := blocks.Join(l, 8)
	if unsafe.StringData(joined) == unsafe.StringData(l[0]) {
		t.Error("the text of Join lies in its block")
	}
}

// TestSameAgain: an answer hangs on its arguments alone, whatever was asked, or went wrong, ahead.
func TestSameAgain(t *testing.T) {
	for range 3 {
		l, err := blocks.Split("abc", 2)
		if !slices.Equal(l, []string{"ab", "c\x00"}) || err != nil {
			t.Fatalf("Split: %q, %v", l, err)
		}
		if s, err := blocks.Join(l, 3); s != "abc" || err != nil {
			t.Fatalf("Join: %q, %v", s, err)
		}
		blocks.Split(text(500), -3)
		blocks.Join([]string{"a", ""}, 7)
	}
}
