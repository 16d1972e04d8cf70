package mark_test

import (
	"math"
	"math/big"
	"strings"
	"testing"

	"tallyroll/api"
	"tallyroll/mark"
)

const (
	base = 1099511628211
	m    = 1<<61 - 1
)

// slow computes the hash of s with numbers of any size, as the chapter describes it.
func slow(s string) uint64 {
	h := big.NewInt(1)
	for i := range len(s) {
		h.Mul(h, big.NewInt(base))
		h.Add(h, big.NewInt(int64(s[i])+1))
		h.Mod(h, big.NewInt(m))
	}
	return h.Uint64()
}

// slowJoin computes a * P + b - P with numbers of any size.
func slowJoin(a, b uint64, n int) uint64 {
	p := new(big.Int).Exp(big.NewInt(base), big.NewInt(int64(n)), big.NewInt(m))
	x := new(big.Int).SetUint64(a)
	x.Mul(x, p)
	x.Add(x, new(big.Int).SetUint64(b))
	x.Sub(x, p)
	return x.Mod(x, big.NewInt(m)).Uint64()
}

// texts returns strings of many lengths with all kinds of bytes.
func texts() []string {
	l := []string{"", "a", "ab", "ba", "\x00", "\x00\x00", "\xff", "é", "\xc3", "a directory of names"}
	for _, n := range []int{3, 8, 16, 17, 61, 64, 255, 256, 599, 600, 601, 5000} {
		for _, c := range []string{"\x00", "x", "\xff", "\x80"} {
			l = append(l, strings.Repeat(c, n))
		}
	}
	return l
}

// P20: the numbers that can be worked out by hand.
func TestOfShort(t *testing.T) {
	if n := mark.Of(""); n != 1 {
		t.Error("empty", n)
	}
	for c := range 256 {
		s := string([]byte{byte(c)})
		if n := mark.Of(s); n != base+uint64(c)+1 {
			t.Errorf("Of(%q) = %d", s, n)
		}
	}
}

// P20: the hash of any string, less than M.
func TestOf(t *testing.T) {
	for _, s := range texts() {
		if n := mark.Of(s); n != slow(s) || n >= m {
			t.Errorf("Of(%.20q, %d bytes) = %d, not %d", s, len(s), n, slow(s))
		}
	}
}

// P20: M is not kept as a hash; a string whose sum reaches M has the hash 0.
func TestOfZero(t *testing.T) {
	if mark.M != m {
		t.Error(mark.M)
	}
	const zero = "GeHncqXWcWZ"
	if slow(zero) != 0 || mark.Of(zero) != 0 {
		t.Error(slow(zero), mark.Of(zero))
	}
}

// P20: the hash of a concatenation.
func TestJoin(t *testing.T) {
	for _, s := range texts() {
		for _, u := range texts() {
			if len(u) > api.MaxText {
				continue
			}
			if n, err := mark.Join(mark.Of(s), mark.Of(u), len(u)); n != slow(s+u) || err != api.OK {
				t.Errorf("Join(%.20q, %.20q) = %d, %d", s, u, n, err)
			}
		}
	}
}

// P20: Join is defined for all numbers less than M, also such as are no hash of n bytes.
func TestJoinNumbers(t *testing.T) {
	numbers := []uint64{0, 1, 2, base - 1, base, base + 1, 1 << 32, 1 << 60, m - base, m - 2, m - 1}
	for _, a := range numbers {
		for _, b := range numbers {
			for _, n := range []int{0, 1, 2, 7, 599, 600} {
				if got, err := mark.Join(a, b, n); got != slowJoin(a, b, n) || got >= m || err != api.OK {
					t.Errorf("Join(%d, %d, %d) = %d, %d, not %d", a, b, n, got, err, slowJoin(a, b, n))
				}
			}
		}
	}
}

// P20: what is out of range.
func TestJoinRange(t *testing.T) {
	for _, c := range []struct {
		a, b uint64
		n    int
	}{
		{m, 1, 0}, {m + 1, 1, 0}, {math.MaxUint64, 1, 0},
		{1, m, 0}, {1, m + 1, 0}, {1, math.MaxUint64, 0},
		{1, 1, -1}, {1, 1, 601}, {1, 1, math.MaxInt}, {1, 1, math.MinInt},
		{m, m, -1},
	} {
		if n, err := mark.Join(c.a, c.b, c.n); n != 0 || err != api.ErrRange {
			t.Errorf("Join(%d, %d, %d) = %d, %d", c.a, c.b, c.n, n, err)
		}
	}
}

// P21: the kind is one byte, and the numbers are eight each, most significant first.
func TestSaid(t *testing.T) {
	for _, c := range []struct {
		kind byte
		a, b uint64
		want string
	}{
		{0, 0, 0, strings.Repeat("\x00", 17)},
		{5, 1, 256, "\x05\x00\x00\x00\x00\x00\x00\x00\x01\x00\x00\x00\x00\x00\x00\x01\x00"},
		{2, 0x0102030405060708, 0x1112131415161718, "\x02\x01\x02\x03\x04\x05\x06\x07\x08\x11\x12\x13\x14\x15\x16\x17\x18"},
		{0x80, 0, 1, "\x80\x00\x00\x00\x00\x00\x00\x00\x00\x00\x00\x00\x00\x00\x00\x00\x01"},
		// Numbers that are no hashes are allowed.
		{0xff, math.MaxUint64, math.MaxUint64, strings.Repeat("\xff", 17)},
		{1, m, m + 1, "\x01\x1f\xff\xff\xff\xff\xff\xff\xff\x20\x00\x00\x00\x00\x00\x00\x00"},
	} {
		if s := mark.Said(c.kind, c.a, c.b); s != c.want {
			t.Errorf("Said(%d, %d, %d) = %q", c.kind, c.a, c.b, s)
		}
		if n := mark.Two(c.kind, c.a, c.b); n != slow(c.want) {
			t.Errorf("Two(%d, %d, %d) = %d", c.kind, c.a, c.b, n)
		}
	}
}

// P21: every kind makes 17 bytes.
func TestSaidKinds(t *testing.T) {
	for c := range 256 {
		s := mark.Said(byte(c), 1, 2)
		if len(s) != 17 || s[0] != byte(c) {
			t.Errorf("%d %q", c, s)
		}
	}
}

// P21: strings that do not collide.
func TestNotAlike(t *testing.T) {
	for i, s := range texts() {
		for j, u := range texts() {
			if mark.Alike(s, u) {
				t.Error(i, j)
			}
		}
	}
}

// P21: strings that do, of one length and of two.
func TestAlike(t *testing.T) {
	for i, c := range [][2]string{
		{"\x00\x01\x15\x00\x00\x44\x12\x16\x0e\x07", "\x11\x00\x00\x0f\x05\x00\x00\x00\x00\x00"},
		{"\x14\x00\x2d\x1f\x14\x21\x00\x05\x0e\x0f", "\x00\x1a\x00\x00\x00\x00\x08\x00\x00\x00"},
		{"\x00\x00\x00\x00\x00\x00\x01\x14\x05\x02\x0c\x12", "\x0c\x07\x0b\x0b\x16\x00\x00\x00\x00\x00\x00"},
	} {
		if slow(c[0]) != slow(c[1]) || !mark.Alike(c[0], c[1]) || !mark.Alike(c[1], c[0]) {
			t.Error(i, mark.Of(c[0]), mark.Of(c[1]))
		}
		if mark.Alike(c[0], c[0]) || mark.Alike(c[1], c[1]) {
			t.Error(i, "a string and itself")
		}
		// What follows a collision keeps it, and what differs after it ends it.
		if !mark.Alike(c[0]+"more", c[1]+"more") || mark.Alike(c[0]+"more", c[1]+"most") {
			t.Error(i, "continued")
		}
	}
}
