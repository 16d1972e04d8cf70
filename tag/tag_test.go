package tag_test

import (
	"math"
	"math/big"
	"strings"
	"testing"

	"tallyroll/api"
	"tallyroll/tag"
)

const m = 1<<61 - 1

// Pairs of numbers whose eight bytes collide.
var alike = [][2]uint64{
	{0x0007530000000000, 0x1c00000f402d2275},
	{0x40002d0000000000, 0x004600737e020511},
	{0x211f3d4000008400, 0x000000000b5d0059},
}

// slow computes the hash of s with numbers of any size, as chapter 2 describes it.
func slow(s string) uint64 {
	h := big.NewInt(1)
	for i := range len(s) {
		h.Mul(h, big.NewInt(1099511628211))
		h.Add(h, big.NewInt(int64(s[i])+1))
		h.Mod(h, big.NewInt(m))
	}
	return h.Uint64()
}

// eight writes n in eight bytes, most significant first.
func eight(n uint64) string {
	var b []byte
	for i := 56; i >= 0; i -= 8 {
		b = append(b, byte(n>>i))
	}
	return string(b)
}

// size writes the length of a string in two bytes, most significant first.
func size(s string) string {
	return string([]byte{byte(len(s) >> 8), byte(len(s))})
}

// tagged writes out what the tag of a request is for, also of one that is not valid.
func tagged(name, value string, n uint64) string {
	return eight(n) + size(name) + name + size(value) + value
}

// signed returns a request with the right tag, also one that is not valid.
func signed(key uint64, name, value string, n uint64) api.Ask {
	return api.Ask{Name: name, Value: value, N: n, Tag: slow(eight(key) + tagged(name, value, n) + eight(key))}
}

func numbers() []uint64 {
	return []uint64{0, 1, 7, 255, 256, 0x0102030405060708, 1 << 32, m - 1, m, m + 1, 1 << 63, math.MaxUint64}
}

func texts() []string {
	l := []string{"", "a", "text", "\x00", "\xff", "\xc3\xa9", eight(7), eight(7) + eight(7)}
	for _, n := range []int{8, 584, 585, 600, 601, 5000} {
		l = append(l, strings.Repeat("\x00", n), strings.Repeat("x", n))
	}
	return l
}

func goodNames() []string {
	return []string{"a", "z", "0", "9", "zoe", "k9", "zzzzzzzzzzzz", "000000000000"}
}

func badNames() []string {
	return []string{"", "A", "a ", " a", "zoE", "a-b", "a\x00", "\x00", "\xe9", "\u00e9", "`", "{", "/", ":", "aaaaaaaaaaaaa", strings.Repeat("a", 700)}
}

func goodValues() []string {
	return []string{"", "red", "\x00", "\xff\xfe", "Any byte at all: \u00e9!", strings.Repeat("v", 19), strings.Repeat("v", 20), strings.Repeat("\xff", 20)}
}

func badValues() []string {
	return []string{strings.Repeat("v", 21), strings.Repeat("\x00", 21), strings.Repeat("\u00e9", 11), strings.Repeat("v", 700), strings.Repeat("v", 70000)}
}

// P80: numbers that were worked out apart from the program.
func TestOfKnown(t *testing.T) {
	for i, c := range []struct {
		key  uint64
		s    string
		want uint64
	}{
		{0, "", 2159166124783525529},
		{7, "text", 679691264075380727},
		{7, "\x00\x00\x00\x00\x00\x00\x00\x02\x00\x03zoe\x00\x03red", 2215457702422688903},
	} {
		if x := tag.Of(c.key, c.s); x != c.want {
			t.Error(i, x)
		}
	}
}

// P80: the key is before the string and after it, and a string can be longer than MaxText.
func TestOf(t *testing.T) {
	for _, key := range numbers() {
		for _, s := range texts() {
			want := slow(eight(key) + s + eight(key))
			if x := tag.Of(key, s); x != want || x >= m {
				t.Errorf("Of(%d, %.20q, %d bytes) = %d, not %d", key, s, len(s), x, want)
			}
		}
	}
}

// P80: the tag of a string with a key is right, and that of another string or key is not.
func TestRight(t *testing.T) {
	for i, key := range numbers() {
		for j, s := range texts() {
			x := slow(eight(key) + s + eight(key))
			if !tag.Right(key, s, x) {
				t.Errorf("%d, %d: the right tag", i, j)
			}
			// A tag is a number, and not only its remainder.
			for _, wrong := range []uint64{x + 1, x - 1, x + m, x + 1<<63, ^x} {
				if tag.Right(key, s, wrong) {
					t.Errorf("%d, %d: %d for %d", i, j, wrong, x)
				}
			}
			if tag.Right(key, s+"s", x) || tag.Right(key, "s"+s, x) || tag.Right(key+1, s, x) || tag.Right(key^1<<63, s, x) {
				t.Errorf("%d, %d: the tag of something else", i, j)
			}
		}
	}
}

// P80: a tag is no more than a hash, so that it is right for whatever collides, be it strings or keys.
func TestRightCollision(t *testing.T) {
	for i, c := range alike {
		for _, s := range texts() {
			if !tag.Right(7, eight(c[1])+s, tag.Of(7, eight(c[0])+s)) || !tag.Right(c[1], s, tag.Of(c[0], s)) {
				t.Errorf("%d: %.20q", i, s)
			}
		}
	}
}

// P81: every field of a request, with the tag of its number, name and value.
func TestAsk(t *testing.T) {
	for _, key := range numbers() {
		for _, n := range numbers() {
			for _, name := range goodNames() {
				for _, value := range goodValues() {
					want := signed(key, name, value, n)
					if a, err := tag.Ask(key, name, value, n); a != want || err != api.OK {
						t.Errorf("Ask(%d, %q, %q, %d) = %v, %d", key, name, value, n, a, err)
					}
					if !tag.Holds(key, want) {
						t.Errorf("Holds(%d, %v)", key, want)
					}
				}
			}
		}
	}
}

// P81: numbers that were worked out apart from the program.
func TestAskKnown(t *testing.T) {
	if a, err := tag.Ask(7, "zoe", "red", 2); a != (api.Ask{Name: "zoe", Value: "red", N: 2, Tag: 2215457702422688903}) || err != api.OK {
		t.Error(a, err)
	}
	if a, err := tag.Ask(0, "a", "", 0); a != (api.Ask{Name: "a", Tag: 2231664793176489517}) || err != api.OK {
		t.Error(a, err)
	}
}

// P81: the error of the name comes before that of the value.
func TestAskErrors(t *testing.T) {
	check := func(name, value string, want api.Errno) {
		t.Helper()
		for _, key := range numbers() {
			if a, err := tag.Ask(key, name, value, key); a != (api.Ask{}) || err != want {
				t.Errorf("Ask(%d, %.20q, %.20q) = %v, %d", key, name, value, a, err)
			}
		}
	}
	for _, name := range badNames() {
		for _, value := range append(goodValues(), badValues()...) {
			check(name, value, api.ErrForm)
		}
	}
	for _, name := range goodNames() {
		for _, value := range badValues() {
			check(name, value, api.ErrLarge)
		}
	}
}

// P81: a request that was changed after it was made, or has another key, does not hold.
func TestHoldsChanged(t *testing.T) {
	a, _ := tag.Ask(7, "zoe", "red", 2)
	for i, spoil := range []func(a *api.Ask){
		func(a *api.Ask) { a.Tag++ },
		func(a *api.Ask) { a.Tag-- },
		func(a *api.Ask) { a.Tag = 0 },
		func(a *api.Ask) { a.Tag += m },
		func(a *api.Ask) { a.N++ },
		func(a *api.Ask) { a.N-- },
		func(a *api.Ask) { a.N = 0 },
		func(a *api.Ask) { a.N ^= 1 << 63 },
		func(a *api.Ask) { a.Value = "" },
		func(a *api.Ask) { a.Value = "rec" },
		func(a *api.Ask) { a.Value = "red\x00" },
		func(a *api.Ask) { a.Name = "zod" },
		func(a *api.Ask) { a.Name = "zo" },
		func(a *api.Ask) { a.Name, a.Value = a.Value, a.Name },
		// The end of the name as the beginning of the value, and the other way round.
		func(a *api.Ask) { a.Name, a.Value = "zo", "ered" },
		func(a *api.Ask) { a.Name, a.Value = "zoer", "ed" },
	} {
		b := a
		if spoil(&b); tag.Holds(7, b) {
			t.Error(i, b)
		}
	}
	for _, key := range []uint64{0, 6, 8, 7 << 8, 7 | 1<<63, math.MaxUint64} {
		if tag.Holds(key, a) {
			t.Error(key)
		}
	}
}

// P81: a request that is not valid does not hold, even if its tag is right for what it says.
func TestHoldsInvalid(t *testing.T) {
	for _, key := range []uint64{0, 7, math.MaxUint64} {
		for _, name := range badNames() {
			for _, value := range append(goodValues(), badValues()...) {
				if tag.Holds(key, signed(key, name, value, 2)) {
					t.Errorf("%.20q, %.20q", name, value)
				}
			}
		}
		for _, name := range goodNames() {
			for _, value := range badValues() {
				if tag.Holds(key, signed(key, name, value, 2)) {
					t.Errorf("%.20q, %.20q", name, value)
				}
			}
		}
		// Nor does the tag of the empty string make up for what cannot be tagged.
		empty := tag.Of(key, "")
		if tag.Holds(key, api.Ask{}) || tag.Holds(key, api.Ask{Tag: empty}) || tag.Holds(key, api.Ask{Name: "a", Value: badValues()[0], Tag: empty}) {
			t.Error(key)
		}
	}
}

// P81: a changed request holds if the tagged strings collide, in the number or in the value.
func TestHoldsCollision(t *testing.T) {
	for i, c := range alike {
		a, err := tag.Ask(7, "zoe", "red", c[0])
		b := a
		b.N = c[1]
		if !tag.Holds(7, a) || !tag.Holds(7, b) || !tag.Holds(c[1], signed(c[0], "zoe", "red", 2)) || err != api.OK {
			t.Error(i, a, b, err)
		}
		if b.N++; tag.Holds(7, b) {
			t.Error(i, b)
		}
	}
	a, err := tag.Ask(7, "zoe", "abcdefghijklmnopqrst", 2)
	a.Value = "cfdfodilddpokdmpqrss"
	if !tag.Holds(7, a) || err != api.OK {
		t.Error(a, err)
	}
}
