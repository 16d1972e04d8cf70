// Package wire encodes lists of strings, each string behind its length: see ../shared/doc/01-wire.md.
package wire

import "tallyroll/api"

const (
	lengthSize = 2
	numSize    = 8
)

// Put returns the concatenation of the encodings of the strings in l.
func Put(l []string) (string, api.Errno) {
	if len(l) > api.MaxParts || !fits(l) {
		return "", api.ErrLarge
	}
	var out []byte
	for _, s := range l {
		out = append(out, byte(len(s)>>8), byte(len(s)))
		out = append(out, s...)
	}
	return string(out), api.OK
}

// fits reports whether the encodings of l have at most MaxText bytes together.
func fits(l []string) bool {
	left := api.MaxText
	for _, s := range l {
		// Subtracting what is left, instead of adding up, cannot overflow.
		if len(s) > left-lengthSize {
			return false
		}
		left -= lengthSize + len(s)
	}
	return true
}

// Get returns the list for which Put returns s.
func Get(s string) ([]string, api.Errno) {
	if len(s) > api.MaxText {
		return nil, api.ErrLarge
	}
	var out []string
	for s != "" {
		part, rest, err := First(s)
		// Put never returns more than MaxParts parts, even if their bytes would fit.
		if err != api.OK || len(out) == api.MaxParts {
			return nil, api.ErrForm
		}
		out = append(out, part)
		s = rest
	}
	return out, api.OK
}

// First returns the first encoded string of s, and what follows it.
func First(s string) (string, string, api.Errno) {
	if len(s) > api.MaxText {
		return "", "", api.ErrLarge
	}
	if len(s) < lengthSize {
		return "", "", api.ErrForm
	}
	n := int(s[0])<<8 | int(s[1])
	rest := s[lengthSize:]
	if n > len(rest) {
		return "", "", api.ErrForm
	}
	return rest[:n], rest[n:], api.OK
}

// Num returns n in eight bytes, most significant first.
func Num(n uint64) string {
	var b [numSize]byte
	for i := numSize - 1; i >= 0; i-- {
		b[i] = byte(n)
		n >>= 8
	}
	return string(b[:])
}

// ReadNum returns the number for which Num returns s.
func ReadNum(s string) (uint64, api.Errno) {
	if len(s) != numSize {
		return 0, api.ErrForm
	}
	var b [numSize]byte
	copy(b[:], s)
	var n uint64
	for _, c := range b {
		n = n<<8 | uint64(c)
	}
	return n, api.OK
}
