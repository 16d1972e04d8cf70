package wire_test

import (
	"math"
	"slices"
	"strings"
	"testing"

	"tallyroll/api"
	"tallyroll/wire"
)

func text(n int) string { return strings.Repeat("x", n) }

// pairs are lists and their encodings.
func pairs() map[string][]string {
	return map[string][]string{
		"":                                     nil,
		"\x00\x00":                             {""},
		"\x00\x02ab":                           {"ab"},
		"\x00\x02ab\x00\x00\x00\x01c":          {"ab", "", "c"},
		"\x00\x02\x00\x01":                     {"\x00\x01"},
		"\x00\x03\xff\x80\x00":                 {"\xff\x80\x00"},
		"\x00\xff" + text(255):                 {text(255)},
		"\x01\x00" + text(256):                 {text(256)},
		"\x01\x02" + text(258):                 {text(258)},
		"\x02\x56" + text(598):                 {text(598)},
		"\x02\x54" + text(596) + "\x00\x00":    {text(596), ""},
		strings.Repeat("\x00\x00", 60):         make([]string, 60),
		strings.Repeat("\x00\x08"+text(8), 60): slices.Repeat([]string{text(8)}, 60),
	}
}

// P10: Put concatenates the encodings.
func TestPut(t *testing.T) {
	for want, l := range pairs() {
		if s, err := wire.Put(l); s != want || err != api.OK {
			t.Errorf("Put(%q) = %q, %d", l, s, err)
		}
	}
}

// P10: Put counts the strings, and the bytes with their lengths.
func TestPutLarge(t *testing.T) {
	for i, l := range [][]string{
		make([]string, 61),
		make([]string, 1000),
		{text(599)},
		{text(600)},
		{text(601)},
		{text(65535)},
		{text(65536)},
		{text(65537)},
		{text(598), ""},
		{text(597), ""},
		{"", text(597)},
		{text(300), text(297)},
		append(slices.Repeat([]string{text(8)}, 59), text(9)),
		slices.Repeat([]string{text(8)}, 61),
	} {
		if s, err := wire.Put(l); s != "" || err != api.ErrLarge {
			t.Error(i, len(s), err)
		}
	}
}

// P10: Get is the inverse of Put.
func TestGet(t *testing.T) {
	for s, want := range pairs() {
		if l, err := wire.Get(s); !slices.Equal(l, want) || err != api.OK {
			t.Errorf("Get(%q) = %q, %d", s, l, err)
		}
	}
}

// P10: Get refuses what Put does not return.
func TestGetErrors(t *testing.T) {
	for i, c := range []struct {
		s    string
		want api.Errno
	}{
		{"\x00", api.ErrForm},
		{"a", api.ErrForm},
		{"\x00\x01", api.ErrForm},
		{"\x00\x02a", api.ErrForm},
		{"\x01\x00", api.ErrForm},
		{"\x01\x00a", api.ErrForm},
		{"\xff\xff", api.ErrForm},
		{"\x00\x00\x00", api.ErrForm},
		{"\x00\x01ab", api.ErrForm},
		{"\x00\x01a\x00\x02b", api.ErrForm},
		{"\x02\x57" + text(598), api.ErrForm},
		{strings.Repeat("\x00\x00", 61), api.ErrForm},
		{strings.Repeat("\x00\x00", 60) + "\x00", api.ErrForm},
		{strings.Repeat("\x00", 599), api.ErrForm},
		{strings.Repeat("\x00", 600), api.ErrForm},
		{strings.Repeat("\x00", 601), api.ErrLarge},
		{"\x02\x57" + text(599), api.ErrLarge},
		{text(601), api.ErrLarge},
	} {
		if l, err := wire.Get(c.s); len(l) != 0 || err != c.want {
			t.Error(i, l, err)
		}
	}
}

// P10: what Get accepts is what Put returns, and nothing else is.
func TestGetExactly(t *testing.T) {
	for _, s := range short(5) {
		l, err := wire.Get(s)
		if err != api.OK {
			if len(l) != 0 || err != api.ErrForm {
				t.Fatalf("Get(%q) = %q, %d", s, l, err)
			}
			continue
		}
		if back, err := wire.Put(l); back != s || err != api.OK {
			t.Fatalf("Put(Get(%q)) = %q, %d", s, back, err)
		}
	}
	for _, a := range short(2) {
		for _, b := range short(2) {
			l := []string{a, b}
			s, err := wire.Put(l)
			back, err2 := wire.Get(s)
			if !slices.Equal(back, l) || err != api.OK || err2 != api.OK {
				t.Fatalf("Get(Put(%q)) = %q, %d, %d", l, back, err, err2)
			}
		}
	}
}

// short returns all strings of at most n bytes of a small alphabet.
func short(n int) []string {
	all := []string{""}
	last := all
	for range n {
		var next []string
		for _, s := range last {
			for _, c := range []byte{0, 1, 2, 3, 255} {
				next = append(next, s+string([]byte{c}))
			}
		}
		all = append(all, next...)
		last = next
	}
	return all
}

// P11: First returns the first string and the rest, whatever the rest is.
func TestFirst(t *testing.T) {
	for i, c := range []struct{ s, first, rest string }{
		{"\x00\x00", "", ""},
		{"\x00\x00\x00", "", "\x00"},
		{"\x00\x01a", "a", ""},
		{"\x00\x01ab", "a", "b"},
		{"\x00\x01a\x00\x05b", "a", "\x00\x05b"},
		{"\x01\x02" + text(258) + "y", text(258), "y"},
		{"\x02\x56" + text(598), text(598), ""},
		{strings.Repeat("\x00", 600), "", strings.Repeat("\x00", 598)},
	} {
		first, rest, err := wire.First(c.s)
		if first != c.first || rest != c.rest || err != api.OK {
			t.Errorf("%d: %q %q %d", i, first, rest, err)
		}
	}
}

// P11: First refuses what is too long, and what has no first string.
func TestFirstErrors(t *testing.T) {
	for i, c := range []struct {
		s    string
		want api.Errno
	}{
		{"", api.ErrForm},
		{"\x00", api.ErrForm},
		{"\x00\x01", api.ErrForm},
		{"\x00\x02a", api.ErrForm},
		{"\x01\x00a", api.ErrForm},
		{"\xff\xff" + text(598), api.ErrForm},
		{"\x02\x57" + text(598), api.ErrForm},
		{"\x00\x01" + text(599), api.ErrLarge},
		{"\x02\x57" + text(599), api.ErrLarge},
		{text(601), api.ErrLarge},
	} {
		first, rest, err := wire.First(c.s)
		if first != "" || rest != "" || err != c.want {
			t.Error(i, first, rest, err)
		}
	}
}

// numbers are numbers and their eight bytes.
func numbers() map[uint64]string {
	return map[uint64]string{
		0:                  "\x00\x00\x00\x00\x00\x00\x00\x00",
		1:                  "\x00\x00\x00\x00\x00\x00\x00\x01",
		255:                "\x00\x00\x00\x00\x00\x00\x00\xff",
		258:                "\x00\x00\x00\x00\x00\x00\x01\x02",
		1 << 32:            "\x00\x00\x00\x01\x00\x00\x00\x00",
		0x0102030405060708: "\x01\x02\x03\x04\x05\x06\x07\x08",
		1 << 63:            "\x80\x00\x00\x00\x00\x00\x00\x00",
		255<<56 | 1:        "\xff\x00\x00\x00\x00\x00\x00\x01",
		math.MaxUint64:     "\xff\xff\xff\xff\xff\xff\xff\xff",
	}
}

// P11: Num has the most significant byte first, and ReadNum is its inverse.
func TestNum(t *testing.T) {
	for n, s := range numbers() {
		if got := wire.Num(n); got != s {
			t.Errorf("Num(%d) = %q", n, got)
		}
		if got, err := wire.ReadNum(s); got != n || err != api.OK {
			t.Errorf("ReadNum(%q) = %d, %d", s, got, err)
		}
	}
	for i := range 64 {
		n := uint64(1)<<i | uint64(i)
		if got, err := wire.ReadNum(wire.Num(n)); got != n || err != api.OK {
			t.Errorf("ReadNum(Num(%d)) = %d, %d", n, got, err)
		}
	}
}

// P11: ReadNum reads eight bytes only.
func TestReadNumErrors(t *testing.T) {
	for n := range 1000 {
		if n == 8 {
			continue
		}
		if got, err := wire.ReadNum(text(n)); got != 0 || err != api.ErrForm {
			t.Error(n, got, err)
		}
	}
}
