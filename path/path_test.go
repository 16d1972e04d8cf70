package path_test

import (
	"math"
	"slices"
	"strings"
	"testing"

	"tallyroll/api"
	"tallyroll/mark"
	"tallyroll/path"
)

const sample = "0101001100001111"

// names returns every name of one or two bytes, some longer ones, and some that have equal paths.
func names() []string {
	const permitted = "abcdefghijklmnopqrstuvwxyz0123456789"
	l := []string{"l0h", "pt8", "xem", "yva", "alice", "bob", "carol07", "0000", strings.Repeat("z", 12), strings.Repeat("0", 12)}
	for i := range len(permitted) {
		l = append(l, permitted[i:i+1])
		for j := range len(permitted) {
			l = append(l, permitted[i:i+1]+permitted[j:j+1])
		}
	}
	return l
}

// notNames returns strings that are no names.
func notNames() []string {
	l := []string{"", strings.Repeat("a", 13), strings.Repeat("a", 1000), "aB", "a b", "a\x00", "\x00a", "é", "a-b", "a_b", "a.b", "\xff", "a\n"}
	for c := range 256 {
		if c < '0' || '9' < c && c < 'a' || c > 'z' {
			l = append(l, string([]byte{byte(c)}), string([]byte{'a', byte(c), 'a'}), "abcdefghijk"+string([]byte{byte(c)}))
		}
	}
	return l
}

// notPaths returns strings that are no paths.
func notPaths() []string {
	l := []string{"", "0", sample[:15], sample + "0", sample + sample, strings.Repeat("x", 16)}
	for c := range 256 {
		if c != '0' && c != '1' {
			one := string([]byte{byte(c)})
			l = append(l, one+sample[1:], sample[:8]+one+sample[9:], sample[:15]+one)
		}
	}
	return l
}

// P30: what is a name.
func TestName(t *testing.T) {
	for _, s := range names() {
		if !path.Name(s) {
			t.Errorf("%q is a name", s)
		}
	}
	for n := 1; n <= 12; n++ {
		if !path.Name(strings.Repeat("q", n)) {
			t.Errorf("%d bytes are a name", n)
		}
	}
}

// P30: what is none, and has no path.
func TestNotName(t *testing.T) {
	for _, s := range notNames() {
		if path.Name(s) {
			t.Errorf("%q is no name", s)
		}
		if p, err := path.Of(s); p != "" || err != api.ErrForm {
			t.Errorf("Of(%q) = %q, %d", s, p, err)
		}
	}
}

// P30: paths that can be worked out by hand: the base of the hash is 2^40 + 435, and a single byte adds itself and 1.
func TestOfByHand(t *testing.T) {
	for name, want := range map[string]string{
		"a": "0000001000010101",
		"b": "0000001000010110",
		"z": "0000001000101110",
		"0": "0000000111100100",
		"9": "0000000111101101",
	} {
		if p, err := path.Of(name); p != want || err != api.OK {
			t.Errorf("Of(%q) = %q, %d", name, p, err)
		}
	}
}

// P30: every byte of a path is the bit of the hash.
func TestOf(t *testing.T) {
	for _, name := range names() {
		p, err := path.Of(name)
		if len(p) != 16 || err != api.OK {
			t.Fatalf("Of(%q) = %q, %d", name, p, err)
		}
		n := mark.Of(name)
		for k := range 16 {
			want := byte('0')
			if n&(1<<(15-k)) != 0 {
				want = '1'
			}
			if p[k] != want {
				t.Errorf("Of(%q) = %q, byte %d", name, p, k)
			}
		}
	}
}

// P30: names can share a path.
func TestOfShared(t *testing.T) {
	for _, name := range []string{"l0h", "pt8", "xem", "yva"} {
		if p, err := path.Of(name); p != "0000101011001100" || err != api.OK {
			t.Errorf("Of(%q) = %q, %d", name, p, err)
		}
	}
}

// P30: the bits of a path.
func TestBit(t *testing.T) {
	for _, p := range []string{sample, strings.Repeat("0", 16), strings.Repeat("1", 16)} {
		for k := range 16 {
			want := 0
			if p[k] == '1' {
				want = 1
			}
			if b, err := path.Bit(p, k); b != want || err != api.OK {
				t.Errorf("Bit(%q, %d) = %d, %d", p, k, b, err)
			}
		}
	}
}

// P30: what is no path comes before what is out of range.
func TestBitErrors(t *testing.T) {
	for _, p := range notPaths() {
		for _, k := range []int{0, 7, 15, -1, 16, math.MinInt, math.MaxInt} {
			if b, err := path.Bit(p, k); b != 0 || err != api.ErrForm {
				t.Errorf("Bit(%q, %d) = %d, %d", p, k, b, err)
			}
		}
	}
	for _, k := range []int{-1, 16, 17, math.MinInt, math.MaxInt} {
		if b, err := path.Bit(strings.Repeat("1", 16), k); b != 0 || err != api.ErrRange {
			t.Errorf("Bit(.., %d) = %d, %d", k, b, err)
		}
	}
}

// P30: common prefixes of paths and of other strings.
func TestCommon(t *testing.T) {
	for _, c := range []struct {
		p, q string
		want int
	}{
		{"0101", "0111", 2},
		{"", "", 0},
		{"", sample, 0},
		{sample, sample, 16},
		{sample, sample[:9], 9},
		{"1", "0", 0},
		{"00", "10", 0},
		// After a difference, bytes that agree again do not count.
		{"0100", "0000", 1},
		{"name", "names", 4},
		{"\xff\x00\xfe", "\xff\x00\xff", 2},
		{"\xc3\xa9", "\xc3\xa8", 1},
	} {
		if n := path.Common(c.p, c.q); n != c.want {
			t.Errorf("Common(%q, %q) = %d", c.p, c.q, n)
		}
		if n := path.Common(c.q, c.p); n != c.want {
			t.Errorf("Common(%q, %q) = %d", c.q, c.p, n)
		}
	}
	for k := range 16 {
		other := []byte(sample)
		other[k] ^= 1
		if n := path.Common(sample, string(other)); n != k {
			t.Errorf("Common(%q, %q) = %d", sample, other, n)
		}
	}
}

// less orders names as the chapter describes it.
func less(a, b string) bool {
	p, q := mark.Of(a)&0xffff, mark.Of(b)&0xffff
	return p < q || p == q && a < b
}

// P31: the order is that of the paths, not that of the names.
func TestSort(t *testing.T) {
	for i, c := range []struct{ l, want []string }{
		{nil, nil},
		{[]string{}, nil},
		{[]string{"a"}, []string{"a"}},
		{[]string{"a", "a", "a"}, []string{"a"}},
		// The hash of a digit is less than that of a letter.
		{[]string{"b", "0", "a", "9", "z"}, []string{"0", "9", "a", "b", "z"}},
		{[]string{"k9", "a", "zoe"}, []string{"a", "k9", "zoe"}},
		// Names with equal paths, in the order of their bytes, and before and after others.
		{[]string{"yva", "xem", "l0h", "pt8"}, []string{"l0h", "pt8", "xem", "yva"}},
		{[]string{"zoe", "yva", "a", "l0h", "zoe", "yva"}, []string{"a", "l0h", "yva", "zoe"}},
		{[]string{"pt8", "xen", "pt9", "xem"}, []string{"pt8", "xem", "pt9", "xen"}},
	} {
		if got, err := path.Sort(c.l); !slices.Equal(got, c.want) || err != api.OK {
			t.Errorf("%d: %q, %d", i, got, err)
		}
	}
}

// P31: a long list, in any order and with repetitions.
func TestSortMany(t *testing.T) {
	want := names()
	slices.SortFunc(want, func(a, b string) int {
		if less(a, b) {
			return -1
		}
		return 1
	})
	l := append(names(), names()...)
	for i := range l {
		j := i * 7919 % len(l)
		l[i], l[j] = l[j], l[i]
	}
	got, err := path.Sort(l)
	if !slices.Equal(got, want) || err != api.OK {
		t.Errorf("%d names, %d", len(got), err)
	}
	again, err := path.Sort(got)
	if !slices.Equal(again, want) || err != api.OK {
		t.Errorf("again: %d names, %d", len(again), err)
	}
}

// P31: an element that is no name, in any place.
func TestSortErrors(t *testing.T) {
	for _, s := range notNames() {
		for i, l := range [][]string{{s}, {s, "a"}, {"a", s}, {"b", s, "a"}, {s, s}} {
			if got, err := path.Sort(l); len(got) != 0 || err != api.ErrForm {
				t.Errorf("%d: %q: %q, %d", i, s, got, err)
			}
		}
	}
}
