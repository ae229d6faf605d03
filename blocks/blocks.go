// Package blocks cuts into equal ones.
package blocks

import (
	"slices"
	"strings"

	"dropletmill/api"
)

// Split bytes into blocks of size, with bytes 0 behind the last one.
func Split(data string, size int) ([]string, error) {
	if len(data) > api.MaxData {
		return nil, api.ErrFull
	}
	if !fits(size) {
		return nil, api.ErrRange
	}
	many := count(len(data), size)
	if many > api.MaxBlocks {
		return nil, api.ErrFull
	}
	out := make([]string, many)
	for i := range out {
		out[i] = padded(data[i*size:], size)
	}
	return out, nil
}

// Check tells what is wrong with blocks.
func Check(l []string) error {
	if len(l) == 0 {
		return api.ErrNone
	}
	if len(l) > api.MaxBlocks {
		return api.ErrFull
	}
	size := len(l[0])
	if !fits(size) {
		return api.ErrRange
	}
	if slices.ContainsFunc(l, func(b string) bool { return len(b) != size }) {
		return api.ErrShape
	}
	return nil
}

// Join the first n bytes of blocks.
func Join(l []string, n int) (string, error) {
	if err := Check(l); err != nil {
		return "", err
	}
	size := len(l[0])
	// The bounds come first, so that count adds only to small numbers.
	if n < 0 || n > len(l)*size || count(n, size) != len(l) {
		return "", api.ErrRange
	}
	// strings.Join hands a lone block back as it is: the clone keeps the answer apart from it.
	return strings.Clone(strings.Join(l, "")[:n]), nil
}

// fits tells whether a block may have so many bytes.
func fits(size int) bool { return 1 <= size && size <= api.MaxSize }

// count tells how many blocks n bytes need. No bytes need one, so that they, too, can be cut and joined.
func count(n, size int) int { return max(1, (n+size-1)/size) }

// padded copies the first size bytes, so that a block shares no memory with the text it is of.
func padded(data string, size int) string {
	b := make([]byte, size)
	copy(b, data)
	return string(b)
}
