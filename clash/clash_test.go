package clash_test

import (
	"slices"
	"strings"
	"testing"

	"tallyroll/api"
	"tallyroll/clash"
	"tallyroll/mark"
	"tallyroll/proof"
	"tallyroll/tree"
)

const (
	none = 1099511628212
	// Strings of one length with the same hash, and so also values of one name with the same hash of their leaf.
	like      = "abcdefghijklmnopqrst"
	alsoAlike = "cfdfodilddpokdmpqrss"
	third     = "dgbaghijjiehmgpqrrru"
	// Two more with the same hash, which is another one.
	other     = "mmmmmmmmmmmmmmmmmmmm"
	alsoOther = "oqnowkoqhgrpkckmmmml"
	// The leaf of the name a with this value has the hash of the empty preimage.
	likeNone = "pkklollonmojohgjnmok"
	// Sides with the same hash of their preimage, whatever they are combined with.
	side      = 0x0000006b00008036
	alsoASide = 0x01364300e90f0000
)

// P60: the last pair of different strings, if it has the same hash.
func TestTexts(t *testing.T) {
	for i, c := range []struct {
		a, b []string
		s, u string
	}{
		{[]string{like}, []string{alsoAlike}, like, alsoAlike},
		{[]string{alsoAlike}, []string{like}, alsoAlike, like},
		{[]string{like}, []string{third}, like, third},
		{[]string{like, "x"}, []string{alsoAlike, "x"}, like, alsoAlike},
		{[]string{"x", like}, []string{"x", alsoAlike}, like, alsoAlike},
		{[]string{"x", like}, []string{"y", alsoAlike}, like, alsoAlike},
		{[]string{"x", like, "x", "x"}, []string{"y", third, "x", "x"}, like, third},
		// Of several collisions the last one.
		{[]string{like, other}, []string{alsoAlike, alsoOther}, other, alsoOther},
		{[]string{other, like}, []string{alsoOther, alsoAlike}, like, alsoAlike},
		{[]string{like, other, "x"}, []string{alsoAlike, alsoOther, "x"}, other, alsoOther},
		{[]string{like, "", like}, []string{third, "", alsoAlike}, like, alsoAlike},
		// Strings at different indices are not compared.
		{[]string{like, other, "x"}, []string{other, alsoOther, "x"}, other, alsoOther},
		{[]string{other, like, ""}, []string{like, third, ""}, like, third},
		{[]string{"\x00\x01\x15\x00\x00\x44\x12\x16\x0e\x07"}, []string{"\x11\x00\x00\x0f\x05\x00\x00\x00\x00\x00"},
			"\x00\x01\x15\x00\x00\x44\x12\x16\x0e\x07", "\x11\x00\x00\x0f\x05\x00\x00\x00\x00\x00"},
		// Strings of different lengths can collide too.
		{[]string{"\x00"}, []string{"\x01\x00\x01a\x00\x14" + likeNone}, "\x00", "\x01\x00\x01a\x00\x14" + likeNone},
	} {
		s, u, err := clash.Texts(c.a, c.b)
		if s != c.s || u != c.u || err != api.OK {
			t.Errorf("%d: %q, %q, %d", i, s, u, err)
		}
		if !mark.Alike(s, u) {
			t.Errorf("%d: no collision", i)
		}
		if v, w, err := clash.Texts(c.b, c.a); v != c.u || w != c.s || err != api.OK {
			t.Errorf("%d: %q, %q, %d", i, v, w, err)
		}
	}
}

// P60: the number of strings and their length have no limit.
func TestTextsLong(t *testing.T) {
	long := strings.Repeat("x", 100*api.MaxText)
	a := slices.Repeat([]string{long}, 200)
	for _, at := range []int{0, 1, 100, 198, 199} {
		b := slices.Clone(a)
		c := slices.Clone(a)
		b[at], c[at] = like+long, alsoAlike+long
		if s, u, err := clash.Texts(b, c); s != like+long || u != alsoAlike+long || err != api.OK {
			t.Errorf("%d: %d", at, err)
		}
	}
}

// P60: the errors, in their order.
func TestTextsErrors(t *testing.T) {
	for i, c := range []struct {
		a, b []string
		want api.Errno
	}{
		{nil, nil, api.ErrForm},
		{[]string{}, nil, api.ErrForm},
		{[]string{"a"}, nil, api.ErrForm},
		{[]string{""}, nil, api.ErrForm},
		{[]string{"a", "a"}, []string{"a"}, api.ErrForm},
		{[]string{"b", "a"}, []string{"a"}, api.ErrForm},
		// Different lengths come before different hashes and before a collision.
		{[]string{"a", "b"}, []string{"a"}, api.ErrForm},
		{[]string{like, "x"}, []string{alsoAlike}, api.ErrForm},
		{[]string{"x", like}, []string{alsoAlike}, api.ErrForm},
		{[]string{like, "x"}, []string{alsoAlike, "x", "x"}, api.ErrForm},

		{[]string{"a"}, []string{"b"}, api.ErrMark},
		{[]string{""}, []string{"\x00"}, api.ErrMark},
		{[]string{"x", "a"}, []string{"x", "b"}, api.ErrMark},
		{[]string{like}, []string{other}, api.ErrMark},
		// Only the last strings must have the same hash, and they come before a collision.
		{[]string{like, "a"}, []string{alsoAlike, "b"}, api.ErrMark},
		{[]string{"a", "b"}, []string{"c", "d"}, api.ErrMark},

		{[]string{"a"}, []string{"a"}, api.ErrNone},
		{[]string{""}, []string{""}, api.ErrNone},
		{[]string{"a", "b"}, []string{"a", "b"}, api.ErrNone},
		{[]string{like, other, like}, []string{like, other, like}, api.ErrNone},
		// The last pair that differs decides, also if there is a collision before it.
		{[]string{"a", "x"}, []string{"b", "x"}, api.ErrNone},
		{[]string{like, "a", "x"}, []string{alsoAlike, "b", "x"}, api.ErrNone},
		{[]string{like, "a", "x", "x"}, []string{alsoAlike, "", "x", "x"}, api.ErrNone},
		{[]string{like, like, "x"}, []string{alsoAlike, other, "x"}, api.ErrNone},
		{[]string{like, alsoAlike, "x"}, []string{alsoAlike, other, "x"}, api.ErrNone},
		// A permutation has no pair at one index.
		{[]string{like, other, "x"}, []string{other, like, "x"}, api.ErrNone},
	} {
		if s, u, err := clash.Texts(c.a, c.b); s != "" || u != "" || err != c.want {
			t.Errorf("%d: %q, %q, %d", i, s, u, err)
		}
		if s, u, err := clash.Texts(c.b, c.a); s != "" || u != "" || err != c.want {
			t.Errorf("%d, swapped: %q, %q, %d", i, s, u, err)
		}
	}
}

// made returns the proof for name in a book that maps each name of the list to the value that follows it.
func made(t *testing.T, name string, l ...string) api.Proof {
	t.Helper()
	var book []api.Entry
	for i := 0; i < len(l); i += 2 {
		next, err := tree.Set(book, l[i], l[i+1])
		if err != api.OK {
			t.Fatal(l[i], err)
		}
		book = next
	}
	p, err := proof.Make(book, name)
	if err != api.OK {
		t.Fatal(name, err)
	}
	return p
}

// with returns p with the side n at the index k.
func with(p api.Proof, k int, n uint64) api.Proof {
	out := api.Proof{Name: p.Name, Entries: slices.Clone(p.Entries), Sides: slices.Clone(p.Sides)}
	out.Sides[k] = n
	return out
}

// expect requires that the proofs p and q, of one root, yield the preimages at the index at as a collision.
func expect(t *testing.T, p, q api.Proof, at int) {
	t.Helper()
	m, e := proof.Root(p)
	n, f := proof.Root(q)
	if m != n || e != api.OK || f != api.OK {
		t.Fatal("roots", m, n, e, f)
	}
	a, _ := proof.Said(p)
	b, _ := proof.Said(q)
	if !mark.Alike(a[at], b[at]) || !slices.Equal(a[at+1:], b[at+1:]) {
		t.Fatalf("no collision at %d: %q, %q", at, a, b)
	}
	if s, u, err := clash.Proofs(p, q); s != a[at] || u != b[at] || err != api.OK {
		t.Errorf("%q, %q, %d", s, u, err)
	}
	if s, u, err := clash.Proofs(q, p); s != b[at] || u != a[at] || err != api.OK {
		t.Errorf("%q, %q, %d", s, u, err)
	}
}

// P61: proofs with the same root and different values for a name.
func TestProofsValues(t *testing.T) {
	p := made(t, "a", "a", like, "b", "1", "zoe", "2")
	q := made(t, "a", "a", alsoAlike, "b", "1", "zoe", "2")
	expect(t, p, q, 0)
	expect(t, q, made(t, "a", "a", third, "b", "1", "zoe", "2"), 0)
	s, u, err := clash.Proofs(p, q)
	if s != "\x01\x00\x01a\x00\x14"+like || u != "\x01\x00\x01a\x00\x14"+alsoAlike || err != api.OK {
		t.Errorf("%q, %q, %d", s, u, err)
	}
	// Another name of the path has another value.
	expect(t, made(t, "pt8", "l0h", like, "pt8", "1", "zoe", "2"), made(t, "pt8", "l0h", third, "pt8", "1", "zoe", "2"), 0)
	expect(t, made(t, "pt8", "l0h", like), made(t, "pt8", "l0h", alsoAlike), 0)
}

// P61: a name that is there by one proof and not there by the other.
func TestProofsAbsent(t *testing.T) {
	for _, l := range [][]string{nil, {"zoe", "1"}, {"b", "1", "k9", "2"}} {
		p := made(t, "a", l...)
		q := made(t, "a", append([]string{"a", likeNone}, l...)...)
		expect(t, p, q, 0)
	}
}

// P61: with different sides the collision is above the leaves, on either side of the path, up to the root.
func TestProofsSides(t *testing.T) {
	for _, name := range []string{"a", "zoe", "k9"} {
		for _, l := range [][]string{nil, {name, "1"}, {name, "1", "b", "2"}} {
			for k := range api.Deep {
				p := made(t, name, l...)
				expect(t, with(p, k, side), with(p, k, alsoASide), k+1)
			}
		}
	}
}

// P61: of several collisions the last one, and preimages below it need not have the same hash.
func TestProofsLast(t *testing.T) {
	p := made(t, "a", "a", like, "zoe", "2")
	q := made(t, "a", "a", alsoAlike, "zoe", "2")
	for k := range api.Deep {
		expect(t, with(p, k, side), with(q, k, alsoASide), k+1)
		for j := range k {
			expect(t, with(with(p, j, side), k, alsoASide), with(with(q, j, alsoASide), k, side), k+1)
		}
	}
	absent, one, two := made(t, "a"), made(t, "a", "a", "1"), made(t, "a", "a", "2")
	for _, c := range []struct {
		p, q api.Proof
		k    int
		m, n uint64
	}{
		{one, two, 3, 0x0098000022b6ffe3, 0x1f004ea500000000},
		{one, two, 4, 0x00b600009dbe81f6, 0x1200c3cc00000000},
		{one, two, 15, 0x00000000f4780012, 0x1566db9700001b00},
		{absent, one, 0, 0x005b0000f1006df0, 0x0a00d7ec007f0000},
		{absent, one, 8, 0x00000000ca45a97b, 0x0f12cfe900000000},
		{absent, one, 15, 0x0000000093f300e1, 0x1c4f987a00008900},
	} {
		expect(t, with(c.p, c.k, c.m), with(c.q, c.k, c.n), c.k+1)
	}
}

// P61: proofs that say the same yield no collision.
func TestProofsEqual(t *testing.T) {
	for _, p := range []api.Proof{
		made(t, "a"),
		made(t, "a", "a", "1"),
		made(t, "a", "a", likeNone),
		made(t, "b", "a", "1", "b", "2", "zoe", "3"),
		with(made(t, "a", "a", "1"), 5, side),
		{Name: "a", Sides: make([]uint64, api.Deep)},
	} {
		for _, q := range []api.Proof{p, with(p, 0, p.Sides[0])} {
			if s, u, err := clash.Proofs(p, q); s != "" || u != "" || err != api.ErrNone {
				t.Errorf("%q, %q, %d", s, u, err)
			}
		}
	}
}

// P61: the errors, in their order.
func TestProofsErrors(t *testing.T) {
	long := strings.Repeat("v", api.MaxValue+1)
	p := made(t, "a", "a", "1", "zoe", "2")
	form := api.Proof{Name: "a", Entries: p.Entries, Sides: p.Sides[1:]}
	noName := api.Proof{Name: "A", Entries: p.Entries, Sides: p.Sides}
	large := api.Proof{Name: "a", Entries: []api.Entry{{Name: "a", Value: long}}, Sides: p.Sides}
	largeZoe := api.Proof{Name: "zoe", Entries: []api.Entry{{Name: "zoe", Value: long}}, Sides: p.Sides}
	zoe := made(t, "zoe", "a", "1", "zoe", "2")
	for i, c := range []struct {
		p, q api.Proof
		want api.Errno
	}{
		{api.Proof{}, api.Proof{}, api.ErrForm},
		{form, p, api.ErrForm},
		{p, form, api.ErrForm},
		{noName, noName, api.ErrForm},
		{large, p, api.ErrLarge},
		{p, large, api.ErrLarge},
		{with(p, 9, mark.M), p, api.ErrForm},
		{p, with(p, 9, mark.M), api.ErrForm},
		// The error of the first one is the one returned.
		{large, form, api.ErrLarge},
		{form, large, api.ErrForm},
		{large, noName, api.ErrLarge},
		{noName, large, api.ErrForm},
		// The proofs come before their names.
		{p, largeZoe, api.ErrLarge},
		{largeZoe, p, api.ErrLarge},
		{large, zoe, api.ErrLarge},

		{p, zoe, api.ErrForm},
		{zoe, p, api.ErrForm},
		// Names of one path are different names, also if their proofs say the same or hold a collision.
		{made(t, "l0h"), made(t, "pt8"), api.ErrForm},
		{made(t, "l0h", "l0h", "1"), made(t, "pt8", "l0h", "1"), api.ErrForm},
		{made(t, "pt8", "l0h", like), made(t, "xem", "l0h", alsoAlike), api.ErrForm},
		// Names come before the hashes.
		{made(t, "l0h", "l0h", "1"), made(t, "pt8", "l0h", "2"), api.ErrForm},

		{p, made(t, "a", "a", "2", "zoe", "2"), api.ErrMark},
		{p, made(t, "a"), api.ErrMark},
		{p, with(p, 9, none+1), api.ErrMark},
		// A collision below different roots is of no use.
		{with(made(t, "a", "a", like), 15, 1), with(made(t, "a", "a", alsoAlike), 15, 2), api.ErrMark},

		{p, p, api.ErrNone},
	} {
		if s, u, err := clash.Proofs(c.p, c.q); s != "" || u != "" || err != c.want {
			t.Errorf("%d: %q, %q, %d", i, s, u, err)
		}
	}
}
