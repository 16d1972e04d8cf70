// Package rules tests what holds everywhere: the promises P1 to P5.
package rules

import (
	"fmt"
	"math"
	"slices"
	"strings"
	"testing"

	"tallyroll/api"
	"tallyroll/chain"
	"tallyroll/change"
	"tallyroll/clash"
	"tallyroll/clerk"
	"tallyroll/head"
	"tallyroll/mark"
	"tallyroll/path"
	"tallyroll/proof"
	"tallyroll/queue"
	"tallyroll/roll"
	"tallyroll/serve"
	"tallyroll/tag"
	"tallyroll/tree"
	"tallyroll/wire"
)

// odd returns strings that no function should stumble over.
func odd() []string {
	l := []string{"", "\x00", "\xff", "\xff\xff", "\x00\x00", "\x80\x00a", "\xc3\x28", "é", "\x02\x58", "\x02\x59"}
	for _, n := range []int{7, 8, 9, 255, 256, 599, 600, 601, 65535, 65536, 1 << 20} {
		for _, c := range []string{"\x00", "\x01", "\x7f", "\xff"} {
			l = append(l, strings.Repeat(c, n))
		}
	}
	return l
}

// P1: no panic; P3: with an error, all else is zero.
func TestWireTakesAnything(t *testing.T) {
	for _, s := range odd() {
		if l, err := wire.Get(s); err != api.OK && len(l) != 0 {
			t.Errorf("Get(%.20q): %d with a result", s, err)
		}
		if a, b, err := wire.First(s); err != api.OK && (a != "" || b != "") {
			t.Errorf("First(%.20q): %d with a result", s, err)
		}
		if n, err := wire.ReadNum(s); err != api.OK && n != 0 {
			t.Errorf("ReadNum(%.20q): %d with a result", s, err)
		}
		for _, n := range []int{0, 1, 2, 59, 60, 61, 70000} {
			if out, err := wire.Put(slices.Repeat([]string{s}, n)); err != api.OK && out != "" {
				t.Errorf("Put(%.20q, %d times): %d with a result", s, n, err)
			}
		}
	}
}

// P2: arguments stay as they are, also beyond their length.
func TestWireKeepsArguments(t *testing.T) {
	for _, n := range []int{0, 1, 3} {
		all := []string{"a", "b", "c", "d", "e"}
		before := slices.Clone(all)
		if _, err := wire.Put(all[:n]); err != api.OK || !slices.Equal(all, before) {
			t.Error(n, all, err)
		}
	}
	l := []string{"a", "b"}
	s, _ := wire.Put(l)
	l[0] = "x"
	if s != "\x00\x01a\x00\x01b" {
		t.Errorf("%q", s)
	}
}

// P2: results are new memory, and no call leaves a trace in another.
func TestWireResultsAreNew(t *testing.T) {
	const s = "\x00\x01a\x00\x01b"
	first, _ := wire.Get(s)
	first[0] = "x"
	first = append(first[:1], "y", "z")
	second, err := wire.Get(s)
	if !slices.Equal(second, []string{"a", "b"}) || err != api.OK {
		t.Error(first, second, err)
	}
	if _, err := wire.Get("\x00"); err != api.ErrForm {
		t.Error(err)
	}
	third, err := wire.Get(s)
	if !slices.Equal(third, second) || err != api.OK {
		t.Error(third, err)
	}
}

// P3: of several errors, the one that is listed first.
func TestWireErrorOrder(t *testing.T) {
	s := strings.Repeat("\xff", api.MaxText+1)
	if _, err := wire.Get(s); err != api.ErrLarge {
		t.Error(err)
	}
	if _, _, err := wire.First(s); err != api.ErrLarge {
		t.Error(err)
	}
}

// P3: a nil slice and an empty one are the same.
func TestWireNilIsEmpty(t *testing.T) {
	a, e := wire.Put(nil)
	b, f := wire.Put([]string{})
	if a != "" || b != "" || e != api.OK || f != api.OK {
		t.Error(a, b, e, f)
	}
	if l, err := wire.Get(""); len(l) != 0 || err != api.OK {
		t.Error(l, err)
	}
}

// P4: strings are bytes, not runes.
func TestWireBytes(t *testing.T) {
	for c := range 256 {
		one := string([]byte{byte(c)})
		s, err := wire.Put([]string{one})
		if s != "\x00\x01"+one || err != api.OK {
			t.Errorf("Put(%q) = %q, %d", one, s, err)
		}
		if l, err := wire.Get(s); !slices.Equal(l, []string{one}) || err != api.OK {
			t.Errorf("Get(%q) = %q, %d", s, l, err)
		}
	}
	if s, err := wire.Put([]string{"é"}); s != "\x00\x02\xc3\xa9" || err != api.OK {
		t.Errorf("%q %d", s, err)
	}
}

// P1: no panic; P3: with an error, the hash is zero.
func TestMarkTakesAnything(t *testing.T) {
	numbers := []uint64{0, 1, mark.M - 1, mark.M, mark.M + 1, 1 << 63, math.MaxUint64}
	for _, a := range numbers {
		for _, b := range numbers {
			for _, n := range []int{math.MinInt, -1, 0, api.MaxText, api.MaxText + 1, math.MaxInt} {
				if got, err := mark.Join(a, b, n); err != api.OK && got != 0 {
					t.Errorf("Join(%d, %d, %d): %d with a result", a, b, n, err)
				}
			}
			for _, kind := range []byte{0, 0x7f, 0x80, 0xff} {
				if s := mark.Said(kind, a, b); mark.Two(kind, a, b) != mark.Of(s) {
					t.Errorf("Two(%d, %d, %d)", kind, a, b)
				}
			}
		}
	}
	for _, s := range odd() {
		if mark.Of(s) >= mark.M || mark.Alike(s, s) {
			t.Errorf("%.20q", s)
		}
	}
}

// P2: no call leaves a trace in another.
func TestMarkKeepsNoState(t *testing.T) {
	first := mark.Of("a")
	for _, s := range odd() {
		mark.Of(s)
	}
	mark.Join(mark.M, 0, -1)
	if second := mark.Of("a"); second != first {
		t.Error(first, second)
	}
}

// P4: strings are bytes, so that invalid UTF-8 is told apart.
func TestMarkBytes(t *testing.T) {
	if mark.Of("\xff") == mark.Of("\xfe") || mark.Of("\xc3") == mark.Of("\uFFFD") || mark.Alike("\xff", "\uFFFD") {
		t.Error("bytes as runes")
	}
}

// P1: no panic; P3: with an error, all else is zero.
func TestPathTakesAnything(t *testing.T) {
	for _, s := range odd() {
		if p, err := path.Of(s); path.Name(s) || p != "" || err != api.ErrForm {
			t.Errorf("Of(%.20q) = %q, %d", s, p, err)
		}
		for _, k := range []int{math.MinInt, -1, 0, api.Deep, math.MaxInt} {
			if b, err := path.Bit(s, k); b != 0 || err != api.ErrForm {
				t.Errorf("Bit(%.20q, %d) = %d, %d", s, k, b, err)
			}
		}
		if l, err := path.Sort([]string{"a", s}); len(l) != 0 || err != api.ErrForm {
			t.Errorf("Sort(%.20q) = %q, %d", s, l, err)
		}
		if n := path.Common(s, s+"0"); n != len(s) {
			t.Errorf("Common(%.20q) = %d", s, n)
		}
	}
}

// P2: arguments stay as they are, also beyond their length.
func TestPathKeepsArguments(t *testing.T) {
	for _, n := range []int{0, 1, 4, 6} {
		all := []string{"zoe", "b", "zoe", "a", "A", "k9"}
		before := slices.Clone(all)
		if _, err := path.Sort(all[:n]); (err == api.OK) != (n < 5) || !slices.Equal(all, before) {
			t.Error(n, all, err)
		}
	}
}

// P2: results are new memory, also if there is nothing to sort.
func TestPathResultsAreNew(t *testing.T) {
	l := []string{"a", "zoe"}
	first, _ := path.Sort(l)
	first[0] = "x"
	second, err := path.Sort(l)
	l[1] = "y"
	if !slices.Equal(second, []string{"a", "zoe"}) || l[0] != "a" || err != api.OK {
		t.Error(l, first, second, err)
	}
	room := []string{"b", "c"}
	if none, err := path.Sort(room[:0]); len(append(none, "x")) != 1 || room[0] != "b" || err != api.OK {
		t.Error(none, room, err)
	}
}

// P3: a nil slice and an empty one are the same.
func TestPathNilIsEmpty(t *testing.T) {
	a, e := path.Sort(nil)
	b, f := path.Sort([]string{})
	if len(a) != 0 || len(b) != 0 || e != api.OK || f != api.OK {
		t.Error(a, b, e, f)
	}
}

// P4: strings are bytes, so that the halves of a rune can be told apart and are no letters.
func TestPathBytes(t *testing.T) {
	if path.Common("\xc3\xa9", "\xc3\xa8") != 1 || path.Common("\xff", "\xfe") != 0 || path.Name("\u00e9") || path.Name("\uff11") {
		t.Error("bytes as runes")
	}
}

// P1: no panic; P3: with an error, all else is zero.
func TestTreeTakesAnything(t *testing.T) {
	books := [][]api.Entry{nil, {{Name: "a", Value: "1"}}, make([]api.Entry, 24), make([]api.Entry, 100000)}
	for _, s := range odd() {
		books = append(books, []api.Entry{{Name: s, Value: s}}, []api.Entry{{Name: "a", Value: s}}, []api.Entry{{Name: "a"}, {Name: s}})
	}
	for i, l := range books {
		for _, s := range odd() {
			if got, err := tree.Set(l, s, s); len(got) != 0 || err == api.OK {
				t.Errorf("%d: Set(%.20q): %d", i, s, err)
			}
			if got, err := tree.Set(l, "b", s); err != api.OK && len(got) != 0 {
				t.Errorf("%d: Set(b, %.20q): %d with a result", i, s, err)
			}
			if v, is, err := tree.Get(l, s); v != "" || is || err == api.OK {
				t.Errorf("%d: Get(%.20q): %q, %t, %d", i, s, v, is, err)
			}
			if got, err := tree.Drop(l, s); len(got) != 0 || err == api.OK {
				t.Errorf("%d: Drop(%.20q): %d", i, s, err)
			}
			if n, err := tree.At(l, s); err != api.OK && n != 0 {
				t.Errorf("%d: At(%.20q): %d with a result", i, s, err)
			}
		}
		err := tree.Check(l)
		if s, e := tree.Leaf(l); e != err || err != api.OK && s != "" {
			t.Errorf("%d: Leaf: %q, %d", i, s, e)
		}
		if n, e := tree.Root(l); e != err || err != api.OK && n != 0 {
			t.Errorf("%d: Root: %d, %d", i, n, e)
		}
	}
}

// P2: arguments stay as they are, also beyond their length.
func TestTreeKeepsArguments(t *testing.T) {
	for n := range 4 {
		all := []api.Entry{{Name: "a", Value: "1"}, {Name: "l0h", Value: "2"}, {Name: "yva", Value: "3"}, {Name: "zoe", Value: "4"}}
		before := slices.Clone(all)
		l := all[:n]
		for _, name := range []string{"0", "a", "b", "l0h", "pt8", "yva", "k9", "zoe", "A"} {
			tree.Set(l, name, "other")
			tree.Get(l, name)
			tree.Drop(l, name)
		}
		tree.Check(l)
		tree.Leaf(l)
		tree.Root(l)
		tree.At(l, "000")
		if !slices.Equal(all, before) {
			t.Error(n, all)
		}
	}
}

// P2: books that are returned are new memory, and no two of them share any.
func TestTreeResultsAreNew(t *testing.T) {
	l := []api.Entry{{Name: "a", Value: "1"}, {Name: "b", Value: "2"}}
	before := slices.Clone(l)
	var books [][]api.Entry
	for range 2 {
		for _, name := range []string{"0", "a", "b", "zoe"} {
			set, _ := tree.Set(l, name, "x")
			drop, _ := tree.Drop(l, name)
			books = append(books, set, drop)
		}
	}
	var copies [][]api.Entry
	for _, b := range books {
		copies = append(copies, slices.Clone(b))
	}
	for i, b := range books {
		whole := b[:cap(b)]
		for k := range whole {
			whole[k] = api.Entry{Name: "changed"}
		}
		if !slices.Equal(l, before) {
			t.Fatal(i, l)
		}
		for j := i + 1; j < len(books); j++ {
			if !slices.Equal(books[j], copies[j]) {
				t.Fatal(i, j, books[j])
			}
		}
	}
	set, _ := tree.Set(l, "a", "1")
	l[1].Value = "changed"
	if !slices.Equal(set, before) {
		t.Error(set)
	}
}

// P3: a nil slice and an empty one are the same.
func TestTreeNilIsEmpty(t *testing.T) {
	for _, l := range [][]api.Entry{nil, {}, make([]api.Entry, 0, 5)} {
		set, err := tree.Set(l, "a", "1")
		if !slices.Equal(set, []api.Entry{{Name: "a", Value: "1"}}) || err != api.OK || tree.Check(l) != api.OK {
			t.Error(set, err)
		}
		if v, is, err := tree.Get(l, "a"); v != "" || is || err != api.OK {
			t.Error(v, is, err)
		}
		if _, err := tree.Drop(l, "a"); err != api.ErrNone {
			t.Error(err)
		}
		s, e := tree.Leaf(l)
		n, f := tree.Root(l)
		if s != "\x00" || n != mark.Of("\x00") || e != api.OK || f != api.OK {
			t.Error(s, n, e, f)
		}
	}
}

// P4: the length of a value is that of its bytes, and values are kept byte by byte.
func TestTreeBytes(t *testing.T) {
	for _, c := range []struct {
		value string
		want  api.Errno
	}{
		{strings.Repeat("\xff", 20), api.OK},
		{strings.Repeat("\u00e9", 10), api.OK},
		{strings.Repeat("\u00e9", 10) + "x", api.ErrLarge},
		{strings.Repeat("\u00e9", 20), api.ErrLarge},
	} {
		l, err := tree.Set(nil, "a", c.value)
		if err != c.want || tree.Check([]api.Entry{{Name: "a", Value: c.value}}) != c.want {
			t.Errorf("%q: %d", c.value, err)
		}
		if v, is, _ := tree.Get(l, "a"); is != (c.want == api.OK) || is && v != c.value {
			t.Errorf("%q: %q", c.value, v)
		}
	}
}

// proofs returns proofs that no function should stumble over, and a good one at the end.
func proofs() []api.Proof {
	sides := slices.Repeat([]uint64{mark.Of("\x00")}, api.Deep)
	l := []api.Proof{
		{},
		{Name: "a"},
		{Name: "a", Sides: make([]uint64, 100000)},
		{Name: "a", Entries: make([]api.Entry, 100000), Sides: sides},
		{Name: "a", Sides: slices.Repeat([]uint64{math.MaxUint64}, api.Deep)},
	}
	for _, s := range odd() {
		l = append(l,
			api.Proof{Name: s, Sides: sides},
			api.Proof{Name: "a", Entries: []api.Entry{{Name: s, Value: s}}, Sides: sides},
			api.Proof{Name: "a", Entries: []api.Entry{{Name: "a", Value: s}}, Sides: sides})
	}
	return append(l, api.Proof{Name: "a", Entries: []api.Entry{{Name: "a", Value: "1"}}, Sides: sides})
}

// P1: no panic; P3: with an error, all else is zero.
func TestProofTakesAnything(t *testing.T) {
	for i, p := range proofs() {
		err := proof.Right(p)
		if s, e := proof.Said(p); e != err || err != api.OK && len(s) != 0 {
			t.Errorf("%d: Said: %q, %d", i, s, e)
		}
		root, e := proof.Root(p)
		if e != err || err != api.OK && root != 0 {
			t.Errorf("%d: Root: %d, %d", i, root, e)
		}
		for _, n := range []uint64{0, root, mark.M, math.MaxUint64} {
			if v, is, err := proof.Tell(n, p); err != api.OK && (v != "" || is) {
				t.Errorf("%d: Tell(%d): %d with a result", i, n, err)
			}
			for _, s := range odd() {
				if h, err := proof.After(n, p, s); err != api.OK && h != 0 {
					t.Errorf("%d: After(%d, %.20q): %d with a result", i, n, s, err)
				}
			}
		}
		for _, s := range odd() {
			if q, err := proof.Make(p.Entries, s); q.Name != "" || len(q.Entries) != 0 || len(q.Sides) != 0 || err == api.OK {
				t.Errorf("%d: Make(%.20q): %d", i, s, err)
			}
		}
	}
}

// P2: arguments stay as they are, also beyond their length.
func TestProofKeepsArguments(t *testing.T) {
	all := []api.Entry{{Name: "l0h", Value: "1"}, {Name: "pt8", Value: "2"}, {Name: "yva", Value: "3"}, {Name: "zoe", Value: "4"}}
	before := slices.Clone(all)
	for n := range 4 {
		for _, name := range []string{"a", "l0h", "pt8", "xem", "yva", "zoe", "A"} {
			p, err := proof.Make(all[:n], name)
			if !slices.Equal(all, before) {
				t.Fatal(n, name, all)
			}
			if err != api.OK {
				continue
			}
			entries := append(slices.Clone(p.Entries), api.Entry{Name: "x"}, api.Entry{Name: "y"})
			sides := append(slices.Clone(p.Sides), 5, 6)
			entriesBefore, sidesBefore := slices.Clone(entries), slices.Clone(sides)
			q := api.Proof{Name: name, Entries: entries[:len(p.Entries)], Sides: sides[:len(p.Sides)]}
			root, _ := proof.Root(q)
			proof.Right(q)
			proof.Said(q)
			proof.Tell(root, q)
			if _, err := proof.After(root, q, "other"); err != api.OK {
				t.Error(n, name, err)
			}
			if !slices.Equal(entries, entriesBefore) || !slices.Equal(sides, sidesBefore) {
				t.Error(n, name, entries, sides)
			}
		}
	}
}

// P2: proofs and preimages are new memory, and no two of them share any.
func TestProofResultsAreNew(t *testing.T) {
	l := []api.Entry{{Name: "l0h", Value: "1"}, {Name: "pt8", Value: "2"}}
	first, _ := proof.Make(l, "l0h")
	second, _ := proof.Make(l, "pt8")
	entries, sides := slices.Clone(second.Entries), slices.Clone(second.Sides)
	whole := first.Entries[:cap(first.Entries)]
	for i := range whole {
		whole[i] = api.Entry{Name: "changed"}
	}
	for i := range first.Sides {
		first.Sides[i] = 7
	}
	if l[0].Name != "l0h" || l[1].Name != "pt8" {
		t.Fatal(l)
	}
	l[0].Value = "changed"
	if !slices.Equal(second.Entries, entries) || !slices.Equal(second.Sides, sides) {
		t.Error(second)
	}
	said, _ := proof.Said(second)
	before := slices.Clone(said)
	again, _ := proof.Said(second)
	again[0] = "changed"
	second.Entries[0].Value = "changed"
	if !slices.Equal(said, before) {
		t.Errorf("%q", said)
	}
}

// P3: a nil slice and an empty one are the same.
func TestProofNilIsEmpty(t *testing.T) {
	sides := make([]uint64, api.Deep)
	a := api.Proof{Name: "a", Sides: sides}
	b := api.Proof{Name: "a", Entries: []api.Entry{}, Sides: sides}
	m, e := proof.Root(a)
	n, f := proof.Root(b)
	if m != n || e != api.OK || f != api.OK {
		t.Error(m, n, e, f)
	}
	x, e := proof.After(m, a, "1")
	y, f := proof.After(m, b, "1")
	if x != y || e != api.OK || f != api.OK {
		t.Error(x, y, e, f)
	}
	for _, none := range [][]uint64{nil, {}} {
		if err := proof.Right(api.Proof{Name: "a", Sides: none}); err != api.ErrForm {
			t.Error(err)
		}
	}
	for _, l := range [][]api.Entry{nil, {}} {
		if p, err := proof.Make(l, "a"); len(p.Entries) != 0 || len(p.Sides) != api.Deep || err != api.OK {
			t.Error(p, err)
		}
	}
}

// P4: values are bytes, in their length and in what is told.
func TestProofBytes(t *testing.T) {
	for _, value := range []string{strings.Repeat("\xff", 20), strings.Repeat("\u00e9", 10), "\x00\xc3"} {
		p, _ := proof.Make([]api.Entry{{Name: "a", Value: value}}, "a")
		root, _ := proof.Root(p)
		if v, is, err := proof.Tell(root, p); v != value || !is || err != api.OK {
			t.Errorf("%q: %q, %t, %d", value, v, is, err)
		}
		if n, err := proof.After(root, p, value); n != root || err != api.OK {
			t.Errorf("%q: %d, %d", value, n, err)
		}
		if _, err := proof.After(root, p, strings.Repeat("\u00e9", 11)); err != api.ErrLarge {
			t.Error(err)
		}
	}
}

// P1: no panic; P3: with an error, all else is zero.
func TestClashTakesAnything(t *testing.T) {
	l := proofs()
	good := l[len(l)-1]
	for i, p := range l {
		for _, q := range []api.Proof{p, good, {}} {
			if s, u, err := clash.Proofs(p, q); s != "" || u != "" || err == api.OK {
				t.Errorf("%d: Proofs: %q, %q, %d", i, s, u, err)
			}
			if s, u, err := clash.Proofs(q, p); s != "" || u != "" || err == api.OK {
				t.Errorf("%d: Proofs: %q, %q, %d", i, s, u, err)
			}
		}
	}
	for _, s := range odd() {
		for _, a := range [][]string{{s}, {s, ""}, {"", s}, odd()[:2]} {
			for _, b := range [][]string{nil, {s}, {s + "x"}, {s + "x", ""}, {"", s + "x"}, {"x", s}} {
				if s, u, err := clash.Texts(a, b); s != "" || u != "" || err == api.OK {
					t.Errorf("Texts(%.40q, %.40q): %q, %q, %d", a, b, s, u, err)
				}
			}
		}
	}
}

// P2: arguments stay as they are, also beyond their length.
func TestClashKeepsArguments(t *testing.T) {
	a := []string{"x", "abcdefghijklmnopqrst", "y", "z"}
	b := []string{"w", "cfdfodilddpokdmpqrss", "y", "v"}
	beforeA, beforeB := slices.Clone(a), slices.Clone(b)
	for n := range 4 {
		clash.Texts(a[:n], b[:n])
		clash.Texts(a[:n], b)
		clash.Texts(a[:n], a[:n])
		if !slices.Equal(a, beforeA) || !slices.Equal(b, beforeB) {
			t.Fatal(n, a, b)
		}
	}
	entries := []api.Entry{{Name: "a", Value: a[1]}, {Name: "a", Value: b[1]}, {Name: "x"}}
	sides := make([]uint64, api.Deep+2)
	before := slices.Clone(entries)
	p := api.Proof{Name: "a", Entries: entries[:1], Sides: sides[:api.Deep]}
	q := api.Proof{Name: "a", Entries: entries[1:2], Sides: sides[:api.Deep]}
	_, _, err := clash.Proofs(p, q)
	if !slices.Equal(entries, before) || !slices.Equal(sides, make([]uint64, api.Deep+2)) || err != api.OK {
		t.Error(entries, sides, err)
	}
}

// P2: no call leaves a trace in another, and none in its results.
func TestClashKeepsNoState(t *testing.T) {
	a := []string{"abcdefghijklmnopqrst"}
	b := []string{"cfdfodilddpokdmpqrss"}
	s, u, _ := clash.Texts(a, b)
	a[0] = "x"
	if _, _, err := clash.Texts(a, b); err != api.ErrMark {
		t.Error(err)
	}
	a[0] = s
	v, w, err := clash.Texts(a, b)
	if s != "abcdefghijklmnopqrst" || u != "cfdfodilddpokdmpqrss" || v != s || w != u || err != api.OK {
		t.Error(s, u, v, w, err)
	}
}

// P3: a nil slice and an empty one are the same.
func TestClashNilIsEmpty(t *testing.T) {
	sides := make([]uint64, api.Deep)
	for _, a := range [][]string{nil, {}} {
		for _, b := range [][]string{nil, {}} {
			if _, _, err := clash.Texts(a, b); err != api.ErrForm {
				t.Error(err)
			}
		}
	}
	p := api.Proof{Name: "a", Sides: sides}
	q := api.Proof{Name: "a", Entries: []api.Entry{}, Sides: sides}
	if s, u, err := clash.Proofs(p, q); s != "" || u != "" || err != api.ErrNone {
		t.Error(s, u, err)
	}
}

// P4: strings are bytes, so that invalid ones are told apart.
func TestClashBytes(t *testing.T) {
	if _, _, err := clash.Texts([]string{"\xff"}, []string{"\xfe"}); err != api.ErrMark {
		t.Error(err)
	}
	if _, _, err := clash.Texts([]string{"\xff", "x"}, []string{"\uFFFD", "x"}); err != api.ErrNone {
		t.Error(err)
	}
	a, b := "\xff\xfeabcdefghijklmnopqrst\xff", "\xff\xfecfdfodilddpokdmpqrss\xff"
	if s, u, err := clash.Texts([]string{"\xff", a}, []string{"\xfe", b}); s != a || u != b || err != api.OK {
		t.Errorf("%q, %q, %d", s, u, err)
	}
}

// P1: no panic; P3: with an error, all else is zero.
func TestChangeTakesAnything(t *testing.T) {
	lists := [][]api.Entry{nil, {{Name: "a", Value: "1"}}, make([]api.Entry, 24), make([]api.Entry, 100000), {{Name: "b"}, {Name: "a"}}}
	for _, s := range odd() {
		lists = append(lists, []api.Entry{{Name: s, Value: s}}, []api.Entry{{Name: "a", Value: s}}, []api.Entry{{Name: "a"}, {Name: s}})
	}
	for i, a := range lists {
		for j, b := range lists {
			l, err := change.Diff(a, b)
			if err != api.OK && len(l) != 0 {
				t.Errorf("%d, %d: Diff: %d with a result", i, j, err)
			}
			if l, n, e := change.Look(a, b); e != err || err != api.OK && (len(l) != 0 || n != 0) {
				t.Errorf("%d, %d: Look: %q, %d, %d", i, j, l, n, e)
			}
			if got, err := change.Apply(a, b); err != api.OK && len(got) != 0 {
				t.Errorf("%d, %d: Apply: %d with a result", i, j, err)
			}
		}
	}
}

// P2: arguments stay as they are, also beyond their length, and also if both are one.
func TestChangeKeepsArguments(t *testing.T) {
	all := []api.Entry{{Name: "a", Value: "1"}, {Name: "l0h", Value: "2"}, {Name: "yva", Value: "3"}, {Name: "zoe", Value: "4"}}
	other := []api.Entry{{Name: "a", Value: "5"}, {Name: "b", Value: "6"}, {Name: "pt8", Value: "7"}, {Name: "yva", Value: "8"}, {Name: "A"}}
	before, otherBefore := slices.Clone(all), slices.Clone(other)
	for n := range len(all) + 1 {
		for m := range len(other) + 1 {
			change.Diff(all[:n], other[:m])
			change.Look(all[:n], other[:m])
			change.Apply(all[:n], other[:m])
			change.Apply(all[:n], all[:min(m, n)])
			if !slices.Equal(all, before) || !slices.Equal(other, otherBefore) {
				t.Fatal(n, m, all, other)
			}
		}
	}
}

// P2: books and names that are returned are new memory, also if nothing changes, and no two of them share any.
func TestChangeResultsAreNew(t *testing.T) {
	l := []api.Entry{{Name: "a", Value: "1"}, {Name: "b", Value: "2"}}
	before := slices.Clone(l)
	for i, c := range [][]api.Entry{nil, {}, {{Name: "a", Value: "1"}}, {{Name: "a", Value: "x"}}, {{Name: "zoe"}}, l} {
		first, _ := change.Apply(l, c)
		second, _ := change.Apply(l, c)
		want := slices.Clone(second)
		whole := first[:cap(first)]
		for k := range whole {
			whole[k] = api.Entry{Name: "changed"}
		}
		if !slices.Equal(l, before) || !slices.Equal(second, want) {
			t.Fatal(i, l, second)
		}
		l[0].Value = "changed"
		if !slices.Equal(second, want) {
			t.Error(i, second)
		}
		l[0].Value = "1"
	}
	diff, _ := change.Diff(nil, l)
	found, _, _ := change.Look(nil, l)
	diff[0], l[0].Name = "x", "y"
	if !slices.Equal(found, []string{"a", "b"}) {
		t.Error(found)
	}
	found[1], l[0].Name = "x", "a"
	if again, err := change.Diff(nil, l); !slices.Equal(again, []string{"a", "b"}) || err != api.OK {
		t.Error(again, err)
	}
}

// P3: a nil slice and an empty one are the same.
func TestChangeNilIsEmpty(t *testing.T) {
	room := []api.Entry{{Name: "a"}, {Name: "b"}}
	for _, a := range [][]api.Entry{nil, {}, room[:0]} {
		for _, b := range [][]api.Entry{nil, {}, room[:0]} {
			if l, err := change.Diff(a, b); len(l) != 0 || err != api.OK {
				t.Error(l, err)
			}
			if l, n, err := change.Look(a, b); len(l) != 0 || n != 1 || err != api.OK {
				t.Error(l, n, err)
			}
			if l, err := change.Apply(a, b); len(append(l, api.Entry{Name: "x"})) != 1 || room[0].Name != "a" || err != api.OK {
				t.Error(l, room, err)
			}
		}
	}
}

// P4: values are bytes, so that invalid ones are told apart, and their length is that of their bytes.
func TestChangeBytes(t *testing.T) {
	for _, c := range [][2]string{{"\xff", "\xfe"}, {"\xff", "\uFFFD"}, {"\xc3\xa9", "e\xcc\x81"}, {"", "\x00"}, {"K", "k"}} {
		a, b := []api.Entry{{Name: "a", Value: c[0]}}, []api.Entry{{Name: "a", Value: c[1]}}
		if l, err := change.Diff(a, b); !slices.Equal(l, []string{"a"}) || err != api.OK {
			t.Errorf("%q: %q, %d", c, l, err)
		}
		if l, n, err := change.Look(a, b); !slices.Equal(l, []string{"a"}) || n != 33 || err != api.OK {
			t.Errorf("%q: %q, %d, %d", c, l, n, err)
		}
		if l, err := change.Apply(a, b); !slices.Equal(l, b) || err != api.OK {
			t.Errorf("%q: %q, %d", c, l, err)
		}
	}
	if _, err := change.Apply(nil, []api.Entry{{Name: "a", Value: strings.Repeat("\u00e9", 11)}}); err != api.ErrLarge {
		t.Error(err)
	}
}

// P1: no panic; P3: with an error, all else is zero.
func TestTagTakesAnything(t *testing.T) {
	for _, key := range []uint64{0, 1, mark.M, math.MaxUint64} {
		for _, s := range odd() {
			x := tag.Of(key, s)
			if x >= mark.M || !tag.Right(key, s, x) || tag.Right(key, s, math.MaxUint64) {
				t.Errorf("Of(%d, %.20q) = %d", key, s, x)
			}
			if a, err := tag.Ask(key, s, s, key); a != (api.Ask{}) || err != api.ErrForm {
				t.Errorf("Ask(%d, %.20q): %v, %d", key, s, a, err)
			}
			a, err := tag.Ask(key, "a", s, key)
			if (err == api.OK) != (len(s) <= 20) || err != api.OK && a != (api.Ask{}) || tag.Holds(key, a) != (err == api.OK) {
				t.Errorf("Ask(%d, a, %.20q): %v, %d", key, s, a, err)
			}
			if tag.Holds(key, api.Ask{Name: s, Value: s, N: key, Tag: x}) || tag.Holds(key, api.Ask{Name: "a", Value: s, Tag: key}) {
				t.Errorf("Holds(%d, %.20q)", key, s)
			}
		}
	}
}

// P2: no call leaves a trace in another: a request is not remembered, nor the key of the last one.
func TestTagKeepsNoState(t *testing.T) {
	first, _ := tag.Ask(7, "zoe", "red", 2)
	x := tag.Of(7, "text")
	for _, key := range []uint64{0, 8, 7} {
		tag.Ask(key, "zoe", "blue", 3)
		tag.Ask(key, "A", "", 0)
		tag.Holds(key, first)
		tag.Of(key, "other")
		if again, err := tag.Ask(7, "zoe", "red", 2); again != first || err != api.OK || tag.Of(7, "text") != x {
			t.Error(key, again, err)
		}
		// The same request holds every time.
		if !tag.Holds(7, first) || !tag.Holds(7, first) {
			t.Error(key, first)
		}
	}
}

// P3: of several errors, the one that is listed first.
func TestTagErrorOrder(t *testing.T) {
	if _, err := tag.Ask(7, "A", strings.Repeat("v", 21), 0); err != api.ErrForm {
		t.Error(err)
	}
}

// P4: strings are bytes, in the length of a value and in what is tagged.
func TestTagBytes(t *testing.T) {
	for _, c := range []struct {
		value string
		want  api.Errno
	}{
		{strings.Repeat("\xff", 20), api.OK},
		{strings.Repeat("\u00e9", 10), api.OK},
		{strings.Repeat("\u00e9", 10) + "x", api.ErrLarge},
		{strings.Repeat("\u00e9", 20), api.ErrLarge},
	} {
		if a, err := tag.Ask(7, "a", c.value, 1); err != c.want || err == api.OK && a.Value != c.value {
			t.Errorf("%q: %v, %d", c.value, a, err)
		}
	}
	for _, c := range [][2]string{{"\xff", "\xfe"}, {"\xff", "\uFFFD"}, {"\xc3\xa9", "e\xcc\x81"}, {"", "\x00"}, {"K", "k"}} {
		a, err := tag.Ask(7, "a", c[0], 1)
		a.Value = c[1]
		if tag.Holds(7, a) || tag.Of(7, c[0]) == tag.Of(7, c[1]) || err != api.OK {
			t.Errorf("%q: %v, %d", c, a, err)
		}
	}
}

// heads returns heads that no function should stumble over: numbers in their ranges, at their bounds and far outside, in any combination.
func heads() []api.Head {
	var l []api.Head
	for _, n := range []int64{math.MinInt64, -1, 0, 1, 1000000, 1000001, 1000000000, 1000000001, math.MaxInt64} {
		for _, x := range []uint64{0, 1, mark.M - 1, mark.M, 1 << 63, math.MaxUint64} {
			for _, y := range []uint64{0, 5, mark.M - 1, mark.M, math.MaxUint64} {
				l = append(l, api.Head{Epoch: n, Root: x, Prev: y}, api.Head{Epoch: 1, Root: x, Prev: y, At: n}, api.Head{Epoch: n, Root: y, Prev: x, At: n})
			}
		}
	}
	return l
}

// P1: no panic; P3: with an error, all else is zero.
func TestHeadTakesAnything(t *testing.T) {
	for _, s := range odd() {
		if h, err := head.Read(s); h != (api.Head{}) || err != api.ErrForm {
			t.Errorf("Read(%.20q): %v, %d", s, h, err)
		}
	}
	for _, h := range heads() {
		want := head.Check(h)
		s, err := head.Said(h)
		x, fault := head.Mark(h)
		if err != want || fault != want || (s == "") != (want != api.OK) || want != api.OK && x != 0 {
			t.Errorf("Said(%v): %q, %d; Mark: %d, %d", h, s, err, x, fault)
		}
		if first, err := head.First(h.Root, h.At); err != api.OK && (first != api.Head{} || err != api.ErrRange) {
			t.Errorf("First(%d, %d): %v, %d", h.Root, h.At, first, err)
		}
		for _, at := range []int64{math.MinInt64, -1, 0, h.At, 1000000000, math.MaxInt64} {
			next, err := head.Next(h, h.Prev, at)
			if want != api.OK && err != want || err != api.OK && next != (api.Head{}) || err == api.OK && head.Check(next) != api.OK {
				t.Errorf("Next(%v, %d, %d): %v, %d", h, h.Prev, at, next, err)
			}
		}
	}
}

// P2: no call leaves a trace in another: the head that was made last is not remembered.
func TestHeadKeepsNoState(t *testing.T) {
	first, _ := head.First(5, 7)
	next, _ := head.Next(first, 6, 8)
	said, _ := head.Said(next)
	for _, h := range append(heads(), first, next) {
		head.First(h.Root, h.At)
		head.Next(h, 1, 1000000000)
		head.Mark(h)
		head.Read(said + "x")
		again, err := head.Next(first, 6, 8)
		read, fault := head.Read(said)
		if again != next || read != next || err != api.OK || fault != api.OK {
			t.Error(h, again, read, err, fault)
		}
	}
}

// P3: of several errors, the one that is listed first.
func TestHeadErrorOrder(t *testing.T) {
	for i, c := range []struct {
		h    api.Head
		want api.Errno
	}{
		{api.Head{Prev: 1, At: -1}, api.ErrRange},
		{api.Head{Prev: mark.M}, api.ErrRange},
		{api.Head{Prev: 1}, api.ErrForm},
		{api.Head{Epoch: 1000001}, api.ErrRange},
		{api.Head{Epoch: 1000000, Root: mark.M}, api.ErrRange},
		{api.Head{Epoch: 1000000}, api.ErrFull},
		{api.Head{Epoch: 999999}, api.ErrRange},
	} {
		if h, err := head.Next(c.h, mark.M, -1); h != (api.Head{}) || err != c.want {
			t.Error(i, h, err)
		}
	}
}

// P4: strings are bytes: a preimage is read by its bytes, also where they are not text.
func TestHeadBytes(t *testing.T) {
	want := api.Head{Epoch: 1, Root: 0xc328ff80, Prev: 0xc3a9, At: 0x80}
	said, err := head.Said(want)
	if len(said) != 33 || said[13:17] != "\xc3\x28\xff\x80" || said[32] != 0x80 || err != api.OK {
		t.Errorf("%q, %d", said, err)
	}
	if h, err := head.Read(said); h != want || err != api.OK {
		t.Error(h, err)
	}
	// As runes it would have the right length, but not as bytes.
	if h, err := head.Read("\x03" + strings.Repeat("\u00e9", 16) + strings.Repeat("\x00", 16)); h != (api.Head{}) || err != api.ErrForm {
		t.Error(h, err)
	}
}

// chains returns lists of heads that no function should stumble over: valid chains, their parts, and lists that are none.
func chains() [][]api.Head {
	l := []api.Head{{Root: 5, At: 7}}
	for len(l) < 40 {
		l, _ = chain.Grow(l, uint64(len(l)), 1000)
	}
	all := [][]api.Head{nil, {}, l, l[:1], l[:39], l[3:9], l[39:], {{Epoch: 1000000}}, make([]api.Head, 2), make([]api.Head, 40), make([]api.Head, 41), make([]api.Head, 1<<16)}
	for _, h := range heads() {
		all = append(all, []api.Head{h}, []api.Head{h, h}, []api.Head{l[0], h}, []api.Head{h, l[0], l[1]})
	}
	return all
}

// P1: no panic; P3: with an error, all else is zero.
func TestChainTakesAnything(t *testing.T) {
	numbers := []int64{math.MinInt64, -1, 0, 1, 7, 1000, 1000000, 1000000000, math.MaxInt64}
	for i, l := range chains() {
		want, at := chain.Check(l)
		if want == api.OK && at != 0 || at < 0 || at > 0 && at >= len(l) {
			t.Error("Check", i, want, at)
		}
		for _, n := range numbers {
			if x, err := chain.Grow(l, uint64(n), n); want != api.OK && err != want || (err == api.OK) != (len(x) != 0) {
				t.Error("Grow", i, n, x, err)
			}
			for _, to := range numbers {
				if x, err := chain.Part(l, n, to); want != api.OK && err != want || (err == api.OK) != (len(x) != 0) {
					t.Error("Part", i, n, to, x, err)
				}
			}
		}
	}
	for i, a := range chains()[:60] {
		for j, b := range chains() {
			n, err := chain.Fork(a, b)
			x, y, fault := chain.Clash(a, b)
			if err != api.OK && (n != 0 || fault != err) || (fault == api.OK) != (x != y) || (x == "") != (y == "") {
				t.Error(i, j, n, err, x, y, fault)
			}
		}
	}
	for _, h := range heads() {
		for i, l := range chains()[:60] {
			if is, err := chain.Follows(h, l); is && err != api.OK {
				t.Error(h, i, err)
			}
		}
	}
}

// P2: arguments stay as they are, also beyond their length.
func TestChainKeepsArguments(t *testing.T) {
	all := chains()[2]
	before := slices.Clone(all)
	for _, n := range []int{1, 5, 39, 40} {
		l := all[:n]
		chain.Check(l)
		chain.Grow(l, 77, 5000)
		chain.Part(l, 0, int64(n-1))
		chain.Part(l, 0, 0)
		chain.Follows(all[0], all[1:n])
		chain.Fork(l, all[:2])
		chain.Clash(l, all)
		if !slices.Equal(all, before) {
			t.Fatal(n, all)
		}
	}
}

// P2: results are new memory, and no call leaves a trace in another.
func TestChainResultsAreNew(t *testing.T) {
	l := slices.Clone(chains()[2])
	before := slices.Clone(l)
	for _, n := range []int{1, 5, 39} {
		one, _ := chain.Grow(l[:n], 77, 5000)
		two, _ := chain.Grow(l[:n:n], 78, 6000)
		want := slices.Clone(two)
		clear(one)
		part, _ := chain.Part(two, 0, int64(n))
		same, _ := chain.Part(two, 0, int64(n))
		clear(part[:cap(part)])
		if !slices.Equal(two, want) || !slices.Equal(same, want) {
			t.Error(n, two, same)
		}
		clear(two[:cap(two)])
		if !slices.Equal(l, before) || !slices.Equal(same, want) {
			t.Fatal(n, l, same)
		}
	}
	grown, _ := chain.Grow(l[:5], 77, 5000)
	part, _ := chain.Part(l, 2, 4)
	want, middle := slices.Clone(grown), slices.Clone(part)
	clear(l)
	if !slices.Equal(grown, want) || !slices.Equal(part, middle) {
		t.Error(grown, part)
	}
}

// P3: a nil slice and an empty one are the same.
func TestChainNilIsEmpty(t *testing.T) {
	l := chains()[2]
	for _, x := range [][]api.Head{nil, {}, l[:0]} {
		err, at := chain.Check(x)
		_, grow := chain.Grow(x, 1, 1)
		_, part := chain.Part(x, 0, 0)
		_, follows := chain.Follows(l[0], x)
		_, fork := chain.Fork(x, l)
		_, back := chain.Fork(l, x)
		_, _, clash := chain.Clash(l, x)
		for i, got := range []api.Errno{err, grow, part, follows, fork, back, clash} {
			if got != api.ErrNone || at != 0 {
				t.Error(i, got, at)
			}
		}
	}
}

// P4: the first head with an error determines it.
func TestChainErrorOrder(t *testing.T) {
	form, far := api.Head{Prev: 1}, api.Head{At: -1}
	for i, c := range []struct {
		l    []api.Head
		want api.Errno
		at   int
	}{
		{[]api.Head{form, far}, api.ErrForm, 0},
		{[]api.Head{far, form}, api.ErrRange, 0},
		{[]api.Head{{}, {}, form, far}, api.ErrForm, 2},
		{[]api.Head{{}, {}, {}, far, form}, api.ErrRange, 3},
		{[]api.Head{{}, {}, {}}, api.ErrMark, 1},
	} {
		if err, at := chain.Check(c.l); err != c.want || at != c.at {
			t.Error(i, err, at)
		}
	}
}

// logs returns lists of strings that no function should stumble over: logs of every kind of size, and lists that are none.
func logs() [][]string {
	all := [][]string{nil, {}, make([]string, 1), make([]string, 40), make([]string, 41), make([]string, 1<<16)}
	for _, s := range odd() {
		all = append(all, []string{s}, []string{"a", s}, []string{s, "a", "b"}, slices.Repeat([]string{s}, 40))
	}
	return all
}

// P1: no panic; P3: with an error, all else is zero.
func TestRollTakesAnything(t *testing.T) {
	numbers := []int{math.MinInt, -1, 0, 1, 2, 3, 39, 40, 41, 1 << 32, math.MaxInt}
	proofs := [][]uint64{nil, {}, {1}, {0, mark.M, math.MaxUint64}, make([]uint64, 6), make([]uint64, 7), make([]uint64, 1<<16)}
	for i, l := range logs() {
		r, want := roll.Root(l)
		if want != api.OK && r != 0 || r >= mark.M {
			t.Error("Root", i, r, want)
		}
		for _, n := range numbers {
			if p, err := roll.In(l, n); want != api.OK && err != want || err != api.OK && len(p) != 0 {
				t.Error("In", i, n, p, err)
			}
			if p, err := roll.Grew(l, n); want != api.OK && err != want || err != api.OK && len(p) != 0 {
				t.Error("Grew", i, n, p, err)
			}
		}
	}
	for _, n := range numbers {
		for _, i := range numbers {
			for j, p := range proofs {
				for _, s := range []string{"", "a", strings.Repeat("\xff", 41), strings.Repeat("\xff", 1<<16)} {
					if is, err := roll.IsIn(uint64(n), n, i, s, p); is || err == api.OK && (n < 1 || n > 40) {
						t.Error("IsIn", n, i, len(s), j, is, err)
					}
				}
				if is, err := roll.IsGrown(1, i, 2, n, p); is || err == api.OK && (n < 1 || n > 40) {
					t.Error("IsGrown", n, i, j, is, err)
				}
			}
		}
	}
}

// P2: arguments stay as they are, also beyond their length.
func TestRollKeepsArguments(t *testing.T) {
	all := make([]string, 40)
	for i := range all {
		all[i] = strings.Repeat("x", i)
	}
	before := slices.Clone(all)
	for _, n := range []int{1, 2, 3, 8, 39, 40} {
		l := all[:n]
		r, _ := roll.Root(l)
		for i := range n {
			p, _ := roll.In(l, i)
			q, _ := roll.Grew(l, i+1)
			a, _ := roll.Root(l[:i+1])
			// Beyond the proofs there is room that belongs to the caller.
			p, q = append(slices.Clone(p), 1, 2, 3), append(slices.Clone(q), 4, 5, 6)
			in, grown := slices.Clone(p), slices.Clone(q)
			is, err := roll.IsIn(r, n, i, l[i], p[:len(p)-3])
			was, fault := roll.IsGrown(a, i+1, r, n, q[:len(q)-3])
			if !is || !was || err != api.OK || fault != api.OK || !slices.Equal(p, in) || !slices.Equal(q, grown) {
				t.Error(n, i, is, was, err, fault, p, q)
			}
		}
		if !slices.Equal(all, before) {
			t.Fatal(n, all)
		}
	}
}

// P2: results are new memory, and no call leaves a trace in another.
func TestRollResultsAreNew(t *testing.T) {
	l := []string{"a", "b", "c", "d", "e"}
	root, _ := roll.Root(l)
	for i := range l {
		for k, proof := range []func() ([]uint64, api.Errno){
			func() ([]uint64, api.Errno) { return roll.In(l, i) },
			func() ([]uint64, api.Errno) { return roll.Grew(l, i+1) },
		} {
			first, _ := proof()
			second, _ := proof()
			want := slices.Clone(second)
			clear(first[:cap(first)])
			third, err := proof()
			if !slices.Equal(second, want) || !slices.Equal(third, want) || err != api.OK {
				t.Error(i, k, second, third, err)
			}
			roll.IsIn(1, 5, i, "x", want)
			roll.IsGrown(1, i+1, 2, 5, want)
			roll.Root([]string{"x"})
			l[i] = "changed"
			if !slices.Equal(second, want) {
				t.Error(i, k, second)
			}
			l[i] = string([]byte{byte('a' + i)})
			if r, err := roll.Root(l); r != root || err != api.OK {
				t.Error(i, k, r, err)
			}
		}
	}
}

// P3: a nil slice and an empty one are the same.
func TestRollNilIsEmpty(t *testing.T) {
	for _, l := range [][]string{nil, {}, []string{"a"}[:0]} {
		_, err := roll.Root(l)
		_, in := roll.In(l, 0)
		_, grew := roll.Grew(l, 0)
		if err != api.ErrNone || in != api.ErrNone || grew != api.ErrNone {
			t.Error(err, in, grew)
		}
	}
	r, _ := roll.Root([]string{"a"})
	for _, p := range [][]uint64{nil, {}, []uint64{1}[:0]} {
		is, err := roll.IsIn(r, 1, 0, "a", p)
		same, fault := roll.IsGrown(r, 1, r, 1, p)
		if !is || !same || err != api.OK || fault != api.OK {
			t.Error(is, same, err, fault)
		}
	}
}

// P3: of several errors, the one that is listed first.
func TestRollErrorOrder(t *testing.T) {
	long := strings.Repeat("x", 41)
	for _, i := range []int{-1, 0, 2, 41} {
		_, none := roll.In(nil, i)
		_, nothing := roll.Grew(nil, i)
		_, large := roll.In([]string{"a", long}, i)
		_, much := roll.Grew([]string{"a", long}, i)
		if none != api.ErrNone || nothing != api.ErrNone || large != api.ErrLarge || much != api.ErrLarge {
			t.Error(i, none, nothing, large, much)
		}
	}
	for i, c := range []struct {
		n, i int
		want api.Errno
	}{{0, 0, api.ErrRange}, {41, 0, api.ErrRange}, {2, 2, api.ErrRange}, {2, -1, api.ErrRange}, {2, 1, api.ErrLarge}} {
		if is, err := roll.IsIn(1, c.n, c.i, long, nil); is || err != c.want {
			t.Error(i, is, err)
		}
	}
}

// P4: strings are bytes, in what is hashed and in their length.
func TestRollBytes(t *testing.T) {
	for _, c := range [][2]string{{"\xff", "\xfe"}, {"\xff", "\uFFFD"}, {"\xc3\xa9", "e\xcc\x81"}, {"", "\x00"}, {"K", "k"}} {
		l := []string{"a", c[0], "b"}
		r, err := roll.Root(l)
		p, fault := roll.In(l, 1)
		is, _ := roll.IsIn(r, 3, 1, c[0], p)
		if other, _ := roll.IsIn(r, 3, 1, c[1], p); !is || other || err != api.OK || fault != api.OK {
			t.Errorf("%q: %t, %t, %d, %d", c, is, other, err, fault)
		}
	}
	for _, c := range []struct {
		text string
		want api.Errno
	}{
		{strings.Repeat("\u00e9", 20), api.OK},
		{strings.Repeat("\xff", 40), api.OK},
		{strings.Repeat("\u00e9", 20) + "x", api.ErrLarge},
		{strings.Repeat("\u00e9", 40), api.ErrLarge},
	} {
		_, err := roll.Root([]string{c.text})
		_, fault := roll.IsIn(0, 1, 0, c.text, nil)
		if err != c.want || fault != c.want {
			t.Errorf("%q: %d, %d", c.text, err, fault)
		}
	}
}

// waits returns queues that no function should stumble over, valid ones and others.
func waits() []api.Queue {
	a := api.Ask{Name: "a", Value: "1", N: 2, Tag: 3}
	var l []api.Queue
	for _, most := range []int{math.MinInt, -1, 0, 1, 2, 30, 31, math.MaxInt} {
		for _, n := range []int{0, 1, 2, 29, 30, 31, 1 << 16} {
			l = append(l, api.Queue{Most: most, Wait: slices.Repeat([]api.Ask{a}, n)}, api.Queue{Most: most, Wait: make([]api.Ask, n)})
		}
	}
	for _, s := range odd() {
		l = append(l,
			api.Queue{Most: 3, Wait: []api.Ask{{Name: s, Value: s}}},
			api.Queue{Most: 3, Wait: []api.Ask{a, {Name: "a", Value: s}, a}})
	}
	return l
}

// P1: no panic; P3: with an error, all else is zero.
func TestQueueTakesAnything(t *testing.T) {
	numbers := []int{math.MinInt, -1, 0, 1, 2, 30, 31, 1000, 1001, 1 << 32, math.MaxInt}
	for i, q := range waits() {
		want := queue.Check(q)
		for _, s := range odd() {
			for _, a := range []api.Ask{{Name: s, Value: s}, {Name: "a", Value: s, N: math.MaxUint64, Tag: math.MaxUint64}} {
				x, n, err := queue.Put(q, a)
				if want != api.OK && err != want || err != api.OK && (x.Most != 0 || len(x.Wait) != 0 || n != 0) {
					t.Errorf("%d: Put(%.20q): %v, %d, %d", i, s, x, n, err)
				}
				if err == api.OK && (n != len(q.Wait) || queue.Check(x) != api.OK) {
					t.Errorf("%d: Put(%.20q): %v, %d", i, s, x, n)
				}
			}
		}
		for _, n := range numbers {
			x, l, err := queue.Take(q, n)
			if want != api.OK && err != want || err != api.OK && (x.Most != 0 || len(x.Wait)+len(l) != 0) {
				t.Error("Take", i, n, x, l, err)
			}
			if err == api.OK && (len(x.Wait)+len(l) != len(q.Wait) || queue.Check(x) != api.OK) {
				t.Error("Take", i, n, x, l)
			}
		}
	}
	for _, a := range numbers {
		for _, b := range numbers {
			for _, c := range numbers {
				if n, err := queue.Wait(a, b, c); (err == api.OK) != (n > 0) || n < 0 {
					t.Error("Wait", a, b, c, n, err)
				}
			}
		}
	}
}

// fourAsks returns four requests, each unlike the others.
func fourAsks() []api.Ask {
	return []api.Ask{{Name: "a", Value: "1", N: 1, Tag: 5}, {Name: "b", Value: "2", N: 2, Tag: 6}, {Name: "a", Value: "3", N: 3, Tag: 7}, {Name: "zoe", N: 4}}
}

// P2: arguments stay as they are, also beyond their length.
func TestQueueKeepsArguments(t *testing.T) {
	all := fourAsks()
	for n := range 5 {
		for most := 1; most <= 5; most++ {
			q := api.Queue{Most: most, Wait: all[:n]}
			queue.Check(q)
			queue.Put(q, api.Ask{Name: "new"})
			queue.Put(q, api.Ask{Name: "A"})
			for k := -1; k < 6; k++ {
				queue.Take(q, k)
			}
			if !slices.Equal(all, fourAsks()) || q.Most != most || len(q.Wait) != n {
				t.Fatal(n, most, all, q)
			}
		}
	}
}

// P2: results are new memory, no two of them share any, and no call leaves a trace in another.
func TestQueueResultsAreNew(t *testing.T) {
	for n := range 5 {
		all := fourAsks()
		q := api.Queue{Most: 5, Wait: all[:n]}
		var lists, copies [][]api.Ask
		keep := func(l []api.Ask) {
			lists, copies = append(lists, l), append(copies, slices.Clone(l))
		}
		for range 2 {
			for _, name := range []string{"new", "other"} {
				x, _, _ := queue.Put(q, api.Ask{Name: name})
				keep(x.Wait)
			}
			for k := range 6 {
				rest, taken, _ := queue.Take(q, k)
				keep(rest.Wait)
				keep(taken)
			}
		}
		for i, l := range lists {
			whole := l[:cap(l)]
			for k := range whole {
				whole[k] = api.Ask{Name: "changed"}
			}
			if !slices.Equal(all, fourAsks()) {
				t.Fatal(n, i, all)
			}
			for j := i + 1; j < len(lists); j++ {
				if !slices.Equal(lists[j], copies[j]) {
					t.Fatal(n, i, j, lists[j])
				}
			}
		}
		x, _, _ := queue.Put(q, api.Ask{Name: "new"})
		rest, taken, _ := queue.Take(q, 1)
		clear(all)
		if !slices.Equal(x.Wait, append(fourAsks()[:n], api.Ask{Name: "new"})) || !slices.Equal(slices.Concat(taken, rest.Wait), fourAsks()[:n]) {
			t.Error(n, x, rest, taken)
		}
	}
}

// P3: a nil slice and an empty one are the same.
func TestQueueNilIsEmpty(t *testing.T) {
	for _, l := range [][]api.Ask{nil, {}, make([]api.Ask, 0, 5), fourAsks()[:0]} {
		q := api.Queue{Most: 1, Wait: l}
		x, ahead, err := queue.Put(q, api.Ask{Name: "a"})
		if queue.Check(q) != api.OK || x.Most != 1 || !slices.Equal(x.Wait, []api.Ask{{Name: "a"}}) || ahead != 0 || err != api.OK {
			t.Error(x, ahead, err)
		}
		rest, taken, fault := queue.Take(q, 1)
		if rest.Most != 1 || len(rest.Wait)+len(taken) != 0 || fault != api.OK {
			t.Error(rest, taken, fault)
		}
		if err := queue.Check(api.Queue{Wait: l}); err != api.ErrRange {
			t.Error(err)
		}
	}
}

// P3: of several errors, the one that is listed first; P4: the first request with an error determines it.
func TestQueueErrorOrder(t *testing.T) {
	long := strings.Repeat("v", 21)
	form, large, both := api.Ask{Name: "A"}, api.Ask{Name: "a", Value: long}, api.Ask{Name: "A", Value: long}
	for i, c := range []struct {
		q    api.Queue
		a    api.Ask
		want api.Errno
	}{
		{api.Queue{Wait: []api.Ask{large, form}}, form, api.ErrRange},
		{api.Queue{Most: 31, Wait: make([]api.Ask, 32)}, large, api.ErrRange},
		{api.Queue{Most: 1, Wait: []api.Ask{large, form}}, form, api.ErrFull},
		{api.Queue{Most: 2, Wait: []api.Ask{large, form}}, form, api.ErrLarge},
		{api.Queue{Most: 2, Wait: []api.Ask{form, large}}, large, api.ErrForm},
		{api.Queue{Most: 1, Wait: []api.Ask{both}}, large, api.ErrForm},
		{api.Queue{Most: 1, Wait: []api.Ask{{Name: "a"}}}, both, api.ErrForm},
		{api.Queue{Most: 1, Wait: []api.Ask{{Name: "a"}}}, large, api.ErrLarge},
		{api.Queue{Most: 1, Wait: []api.Ask{{Name: "a"}}}, api.Ask{Name: "a"}, api.ErrFull},
	} {
		if _, _, err := queue.Put(c.q, c.a); err != c.want {
			t.Error(i, err)
		}
		if err := queue.Check(c.q); err != api.OK {
			if _, _, fault := queue.Take(c.q, -1); err != c.want || fault != c.want {
				t.Error(i, err, fault)
			}
		}
	}
}

// P4: the length of a value is that of its bytes, and requests are kept byte by byte.
func TestQueueBytes(t *testing.T) {
	for _, c := range []struct {
		value string
		want  api.Errno
	}{
		{strings.Repeat("\xff", 20), api.OK},
		{"\xff\xfe\x00\xc3", api.OK},
		{strings.Repeat("\u00e9", 10), api.OK},
		{strings.Repeat("\u00e9", 10) + "x", api.ErrLarge},
		{strings.Repeat("\u00e9", 20), api.ErrLarge},
	} {
		q, _, err := queue.Put(api.Queue{Most: 1}, api.Ask{Name: "a", Value: c.value})
		if fault := queue.Check(api.Queue{Most: 1, Wait: []api.Ask{{Name: "a", Value: c.value}}}); err != c.want || fault != c.want {
			t.Errorf("%q: %d, %d", c.value, err, fault)
		}
		if _, l, _ := queue.Take(q, 1); c.want == api.OK && !slices.Equal(l, []api.Ask{{Name: "a", Value: c.value}}) {
			t.Errorf("%q: %v", c.value, l)
		}
	}
	for _, name := range []string{"\u00e9", "\uff11", "a\xcc\x81", "\xff"} {
		if _, _, err := queue.Put(api.Queue{Most: 1}, api.Ask{Name: name}); err != api.ErrForm {
			t.Errorf("%q: %d", name, err)
		}
	}
}

// clerkAt returns a server after n ticks that publish a book each, of up to twelve names, with one request waiting unless it is closed.
func clerkAt(t *testing.T, n int) api.Clerk {
	t.Helper()
	c, err := clerk.New(3, 1, 1)
	for i := range n + 1 {
		if err != api.OK {
			t.Fatal(n, i, err)
		}
		if i > 0 {
			c, _, err = clerk.Tick(c)
		}
		if err == api.OK && i < 39 {
			c, _, err = clerk.Ask(c, api.Ask{Name: strings.Repeat("a", 1+i%12), Value: "1", N: 2, Tag: 3})
		}
	}
	if err != api.OK {
		t.Fatal(n, err)
	}
	return c
}

// servers returns servers that no function should stumble over, valid ones and others.
func servers(t *testing.T) []api.Clerk {
	t.Helper()
	sound := clerkAt(t, 3)
	l := []api.Clerk{{}, sound, clerkAt(t, 0), clerkAt(t, 38)}
	with := func(change func(c *api.Clerk)) {
		c := sound
		change(&c)
		l = append(l, c)
	}
	for _, q := range waits() {
		with(func(c *api.Clerk) { c.Queue = q })
	}
	for _, n := range []int{math.MinInt, -1, 0, 1, 2, 30, 31, 1000, 1001, 1 << 32, api.MaxTime, api.MaxTime + 1, math.MaxInt} {
		with(func(c *api.Clerk) { c.Batch = n })
		with(func(c *api.Clerk) { c.Every = n })
		with(func(c *api.Clerk) { c.Now = int64(n) })
		with(func(c *api.Clerk) { c.Batch, c.Every, c.Now = n, n, int64(n) })
	}
	for _, heads := range chains() {
		with(func(c *api.Clerk) { c.Heads = heads })
		with(func(c *api.Clerk) { c.Heads, c.Books, c.Now = heads, make([][]api.Entry, len(heads)), api.MaxTime })
	}
	for _, n := range []int{0, 1, 3, 4, 5, 40, 41, 1 << 16} {
		with(func(c *api.Clerk) { c.Books = make([][]api.Entry, n) })
		with(func(c *api.Clerk) { c.Books = slices.Repeat([][]api.Entry{make([]api.Entry, 25)}, n) })
	}
	for _, s := range odd() {
		for k := range 4 {
			with(func(c *api.Clerk) {
				c.Books = slices.Clone(c.Books)
				c.Books[k] = []api.Entry{{Name: "a", Value: s}, {Name: s, Value: s}}
			})
		}
	}
	return l
}

// noClerk reports whether nothing is left in a server that comes with an error.
func noClerk(c api.Clerk) bool {
	return c.Queue.Most == 0 && c.Batch == 0 && c.Every == 0 && c.Now == 0 && len(c.Queue.Wait)+len(c.Heads)+len(c.Books) == 0
}

// P1: no panic; P3: with an error, all else is zero.
func TestClerkTakesAnything(t *testing.T) {
	numbers := []int{math.MinInt, -1, 0, 1, 2, 3, 4, 30, 31, 1000, 1001, 1 << 32, math.MaxInt}
	for i, c := range servers(t) {
		want := clerk.Check(c)
		for _, a := range []api.Ask{{}, {Name: "a"}, {Name: "b", N: math.MaxUint64, Tag: math.MaxUint64}, {Name: "\xff"}, {Name: "a", Value: strings.Repeat("\xff", 1<<16)}} {
			x, due, err := clerk.Ask(c, a)
			if want != api.OK && err != want || err != api.OK && (!noClerk(x) || due != 0) || err == api.OK && clerk.Check(x) != api.OK {
				t.Errorf("%d: Ask(%.20q): %d, %d", i, a.Name, due, err)
			}
		}
		x, more, err := clerk.Tick(c)
		if err != want || err != api.OK && (!noClerk(x) || more) || err == api.OK && clerk.Check(x) != api.OK {
			t.Error("Tick", i, more, err)
		}
		for _, n := range numbers {
			if l, err := clerk.Book(c, int64(n)); want != api.OK && err != want || err != api.OK && len(l) != 0 {
				t.Error("Book", i, n, l, err)
			}
		}
	}
	for _, a := range numbers {
		for _, b := range numbers {
			for _, c := range numbers {
				if x, err := clerk.New(a, b, c); err != api.OK && !noClerk(x) || err == api.OK && clerk.Check(x) != api.OK {
					t.Error("New", a, b, c, x, err)
				}
			}
		}
	}
	for _, s := range odd() {
		for _, a := range []api.Ask{{Name: s}, {Name: s, Value: s}, {Name: "a", Value: s}} {
			x, due, err := clerk.Ask(clerkAt(t, 2), a)
			if err != api.OK && (!noClerk(x) || due != 0) || (err == api.OK) != (a.Name == "a" && len(s) <= 20) {
				t.Errorf("Ask(%.20q, %.20q): %d, %d", a.Name, a.Value, due, err)
			}
		}
	}
}

// roomy returns the server c in slices that have room behind their ends, and the whole of each of them.
func roomy(c api.Clerk) (api.Clerk, [][]api.Ask, [][]api.Head, [][][]api.Entry, [][]api.Entry) {
	wait := append(slices.Clone(c.Queue.Wait), fourAsks()...)
	heads := append(slices.Clone(c.Heads), api.Head{Epoch: 7}, api.Head{Epoch: 8})
	var books, inner [][]api.Entry
	for _, b := range c.Books {
		b = append(slices.Clone(b), api.Entry{Name: "x"}, api.Entry{Name: "y"})
		inner = append(inner, b)
		books = append(books, b[:len(b)-2])
	}
	books = append(books, []api.Entry{{Name: "z"}}, nil)
	c.Queue.Wait, c.Heads, c.Books = wait[:len(wait)-4], heads[:len(heads)-2], books[:len(books)-2]
	return c, [][]api.Ask{wait}, [][]api.Head{heads}, [][][]api.Entry{books}, inner
}

// calls returns what the functions that change a server make of c.
func calls(c api.Clerk) []api.Clerk {
	var l []api.Clerk
	for _, a := range []api.Ask{{Name: "new"}, {Name: "a", Value: "2"}, {Name: "A"}} {
		x, _, _ := clerk.Ask(c, a)
		l = append(l, x)
	}
	x, _, _ := clerk.Tick(c)
	y, _, _ := clerk.Tick(x)
	c.Every = 1000
	z, _, _ := clerk.Tick(c)
	return append(l, x, y, z)
}

// P2: arguments stay as they are, also beyond their length.
func TestClerkKeepsArguments(t *testing.T) {
	for _, n := range []int{0, 1, 3, 39} {
		c, wait, heads, books, inner := roomy(clerkAt(t, n))
		before := fmt.Sprint(c, wait, heads, books, inner)
		if err := clerk.Check(c); err != api.OK {
			t.Fatal(n, err)
		}
		calls(c)
		for k := range int64(n + 3) {
			clerk.Book(c, k-1)
		}
		if after := fmt.Sprint(c, wait, heads, books, inner); after != before {
			t.Error(n, before, after)
		}
	}
}

// memory returns, for each slice of a server, a function that overwrites it whole, with the room behind its end.
func memory(c api.Clerk) []func() {
	l := []func(){
		func() { fill(c.Queue.Wait, api.Ask{Name: "changed"}) },
		func() { fill(c.Heads, api.Head{Epoch: 99}) },
		func() { fill(c.Books, []api.Entry{{Name: "other"}}) },
	}
	for _, b := range c.Books[:cap(c.Books)] {
		l = append(l, func() { fill(b, api.Entry{Name: "changed"}) })
	}
	return l
}

// fill overwrites l with x, also beyond its length.
func fill[T any](l []T, x T) {
	whole := l[:cap(l)]
	for i := range whole {
		whole[i] = x
	}
}

// written writes out the slices of a server one by one, the books as they were found at first.
func written(c api.Clerk, books [][]api.Entry) []string {
	l := []string{fmt.Sprint(c.Queue.Wait), fmt.Sprint(c.Heads), ""}
	for _, b := range books {
		l = append(l, fmt.Sprint(b))
	}
	return l
}

// P2: no two slices of a result share memory, nor does one with an argument, also where the books of the argument do.
func TestClerkResultsAreNew(t *testing.T) {
	once := clerkAt(t, 3)
	twice := clerkAt(t, 30)
	// These books are equal from some epoch on, and here they are one.
	for i := range twice.Books {
		twice.Books[i] = twice.Books[min(i, 12)]
	}
	closed := clerkAt(t, 39)
	for i, c := range []api.Clerk{clerkAt(t, 0), once, twice, closed} {
		if err := clerk.Check(c); err != api.OK {
			t.Fatal(i, err)
		}
		for k := range calls(c) {
			before := fmt.Sprint(c)
			for j := range memory(calls(c)[k]) {
				x := calls(c)[k]
				books := slices.Clone(x.Books)
				want := written(x, books)
				memory(x)[j]()
				got := written(x, books)
				for p := range want {
					if p != j && got[p] != want[p] {
						t.Fatal(i, k, j, p, want[p], got[p])
					}
				}
				if after := fmt.Sprint(c); after != before {
					t.Fatal(i, k, j, before, after)
				}
			}
		}
	}
}

// P2: a change of an argument is not seen in a result of before.
func TestClerkKeepsNoArgument(t *testing.T) {
	for _, n := range []int{0, 1, 3, 39} {
		for j := range memory(clerkAt(t, n)) {
			c := clerkAt(t, n)
			results := calls(c)
			var books [][]api.Entry
			for k := range min(int64(n+1), 4) {
				b, err := clerk.Book(c, k)
				if err != api.OK {
					t.Fatal(n, k, err)
				}
				books = append(books, b)
			}
			before := fmt.Sprint(results, books)
			memory(c)[j]()
			if after := fmt.Sprint(results, books); after != before {
				t.Error(n, j, before, after)
			}
		}
	}
}

// P2: a book that is given out is not that of the server, and no call leaves a trace in another.
func TestClerkBookIsNew(t *testing.T) {
	c := clerkAt(t, 3)
	before := fmt.Sprint(c)
	for k := range int64(4) {
		first, _ := clerk.Book(c, k)
		second, _ := clerk.Book(c, k)
		want := fmt.Sprint(second)
		fill(first, api.Entry{Name: "changed"})
		third, err := clerk.Book(c, k)
		if fmt.Sprint(second) != want || fmt.Sprint(third) != want || fmt.Sprint(c) != before || err != api.OK {
			t.Error(k, second, third, err)
		}
	}
	x, _ := clerk.New(3, 2, 5)
	want := fmt.Sprint(x)
	y, _ := clerk.New(3, 2, 5)
	for _, f := range memory(x) {
		f()
	}
	z, err := clerk.New(3, 2, 5)
	if fmt.Sprint(y) != want || fmt.Sprint(z) != want || err != api.OK {
		t.Error(y, z, err)
	}
}

// P3: a nil slice and an empty one are the same.
func TestClerkNilIsEmpty(t *testing.T) {
	start, _ := clerk.New(3, 1, 1)
	for _, wait := range [][]api.Ask{nil, {}, fourAsks()[:0]} {
		for _, book := range [][]api.Entry{nil, {}, []api.Entry{{Name: "a"}}[:0]} {
			c := start
			c.Queue.Wait, c.Books = wait, [][]api.Entry{book}
			if err := clerk.Check(c); err != api.OK {
				t.Error(err)
			}
			if l, err := clerk.Book(c, 0); len(l) != 0 || err != api.OK {
				t.Error(l, err)
			}
			x, due, err := clerk.Ask(c, api.Ask{Name: "a"})
			if len(x.Queue.Wait) != 1 || len(x.Books) != 1 || len(x.Books[0]) != 0 || due != 1 || err != api.OK {
				t.Error(x, due, err)
			}
			y, more, err := clerk.Tick(c)
			if len(y.Queue.Wait) != 0 || len(y.Books) != 2 || len(y.Books[1]) != 0 || !more || err != api.OK {
				t.Error(y, more, err)
			}
		}
	}
	for _, books := range [][][]api.Entry{nil, {}} {
		for _, heads := range [][]api.Head{nil, {}} {
			c := start
			c.Books = books
			some := clerk.Check(c)
			c.Heads = heads
			if none := clerk.Check(c); some != api.ErrForm || none != api.ErrNone {
				t.Error(some, none)
			}
		}
	}
}

// P4: the first book, and the first request, with an error determines it.
func TestClerkErrorOrder(t *testing.T) {
	form, large := api.Entry{Name: "A"}, api.Entry{Name: "a", Value: strings.Repeat("v", 21)}
	other := api.Entry{Name: "a", Value: "other"}
	for i, c := range []struct {
		first, second api.Entry
		want          api.Errno
	}{
		{form, large, api.ErrForm}, {large, form, api.ErrLarge}, {other, form, api.ErrMark}, {form, other, api.ErrForm}, {other, large, api.ErrMark}, {large, other, api.ErrLarge},
	} {
		for _, at := range [][2]int{{0, 1}, {1, 2}, {0, 3}, {2, 3}} {
			x := clerkAt(t, 3)
			x.Books[at[0]], x.Books[at[1]] = []api.Entry{c.first}, []api.Entry{c.second}
			if err := clerk.Check(x); err != c.want {
				t.Error(i, at, err)
			}
		}
	}
	bad, long := api.Ask{Name: "A"}, api.Ask{Name: "a", Value: large.Value}
	for i, c := range []struct {
		wait []api.Ask
		want api.Errno
	}{{[]api.Ask{bad, long}, api.ErrForm}, {[]api.Ask{long, bad}, api.ErrLarge}} {
		x := clerkAt(t, 3)
		x.Queue.Wait, x.Books[0] = c.wait, []api.Entry{other}
		if err := clerk.Check(x); err != c.want {
			t.Error(i, err)
		}
	}
}

// P4: values are kept byte by byte, and their length is that of their bytes; division rounds down.
func TestClerkBytes(t *testing.T) {
	for _, value := range []string{"", "\x00", "\xff\xfe\x00\xc3", strings.Repeat("\u00e9", 10), "e\xcc\x81", "\u00e9", "\uFFFD"} {
		c, _ := clerk.New(1, 1, 1)
		c, _, err := clerk.Ask(c, api.Ask{Name: "a", Value: value})
		if err != api.OK {
			t.Errorf("%q: %d", value, err)
		}
		c, _, _ = clerk.Tick(c)
		if l, err := clerk.Book(c, 1); !slices.Equal(l, []api.Entry{{Name: "a", Value: value}}) || err != api.OK {
			t.Errorf("%q: %v, %d", value, l, err)
		}
	}
	for _, a := range []api.Ask{{Name: "a", Value: strings.Repeat("\u00e9", 10) + "x"}, {Name: "a", Value: strings.Repeat("\u00e9", 11)}} {
		c, _ := clerk.New(1, 1, 1)
		if _, _, err := clerk.Ask(c, a); err != api.ErrLarge {
			t.Errorf("%q: %d", a.Value, err)
		}
	}
	c, _ := clerk.New(30, 3, 7)
	c.Now = 20
	for i, want := range []int64{21, 21, 21, 28, 28, 28, 35} {
		x, due, err := clerk.Ask(c, api.Ask{Name: "a"})
		if due != want || err != api.OK {
			t.Error(i, due, err)
		}
		c = x
	}
}

// answer returns a valid reply for the name a, which has the value 1.
func answer() api.Reply {
	l := proofs()
	p := l[len(l)-1]
	root, _ := proof.Root(p)
	return api.Reply{Head: api.Head{Epoch: 3, Root: root, Prev: 5, At: 9}, Proof: p}
}

// answers returns replies that no function should stumble over, valid ones and others.
func answers() []api.Reply {
	ok := answer()
	l := []api.Reply{ok, {}}
	for _, p := range proofs() {
		l = append(l, api.Reply{Head: ok.Head, Proof: p})
		h := ok.Head
		h.Root, _ = proof.Root(p)
		l = append(l, api.Reply{Head: h, Proof: p})
	}
	for _, h := range heads() {
		l = append(l, api.Reply{Head: h, Proof: ok.Proof})
	}
	return l
}

// noReply reports whether nothing is left in a reply that comes with an error.
func noReply(r api.Reply) bool {
	return r.Head == (api.Head{}) && r.Proof.Name == "" && len(r.Proof.Entries)+len(r.Proof.Sides) == 0
}

// P1: no panic; P3: with an error, all else is zero.
func TestServeTakesAnything(t *testing.T) {
	epochs := []int64{math.MinInt64, -1, 0, 1, 3, 4, 39, 40, math.MaxInt64}
	for i, c := range servers(t) {
		want := clerk.Check(c)
		for _, from := range epochs {
			for _, name := range []string{"", "a", "zoe", "\xff", strings.Repeat("a", 1<<16)} {
				if r, err := serve.Look(c, name, from); want != api.OK && err != want || err != api.OK && !noReply(r) || err == api.OK && r.Proof.Name != name {
					t.Errorf("%d: Look(%.20q, %d): %d", i, name, from, err)
				}
			}
			for _, to := range epochs {
				if l, err := serve.Heads(c, from, to); want != api.OK && err != want || (err == api.OK) != (len(l) != 0) {
					t.Errorf("%d: Heads(%d, %d): %v, %d", i, from, to, l, err)
				}
			}
		}
	}
	ok := answer()
	for i, r := range answers() {
		v, is, want := serve.Tell(r)
		if want != api.OK && (v != "" || is) {
			t.Error("Tell", i, v, is, want)
		}
		s, err := serve.Said(r)
		if err != want && err != api.ErrLarge || (err == api.OK) != (s != "") {
			t.Errorf("Said(%d): %.20q, %d", i, s, err)
		}
		if x, err := serve.Read(s); (err == api.OK) != (s != "") || err != api.OK && (!noReply(x) || err != api.ErrForm) {
			t.Error("Read", i, err)
		}
		for _, pair := range [][2]api.Reply{{r, r}, {r, ok}, {ok, r}} {
			if s, u, err := serve.Against(pair[0], pair[1]); err == api.OK || s != "" || u != "" || want != api.OK && err != want {
				t.Errorf("Against(%d): %.20q, %.20q, %d", i, s, u, err)
			}
		}
	}
	for _, s := range odd() {
		if x, err := serve.Read(s); !noReply(x) || err != api.ErrForm {
			t.Errorf("Read(%.20q): %d", s, err)
		}
	}
}

// spacious returns the reply r in slices that have room behind their ends, and the whole of each of them.
func spacious(r api.Reply) (api.Reply, []api.Entry, []uint64) {
	entries := append(slices.Clone(r.Proof.Entries), api.Entry{Name: "x"}, api.Entry{Name: "y"})
	sides := append(slices.Clone(r.Proof.Sides), 5, 6)
	r.Proof.Entries, r.Proof.Sides = entries[:len(entries)-2], sides[:len(sides)-2]
	return r, entries, sides
}

// P2: arguments stay as they are, also beyond their length.
func TestServeKeepsArguments(t *testing.T) {
	for _, n := range []int64{0, 1, 3, 39} {
		c, wait, heads, books, inner := roomy(clerkAt(t, int(n)))
		before := fmt.Sprint(c, wait, heads, books, inner)
		for _, name := range []string{"a", "zoe", "A"} {
			for epoch := range n + 2 {
				serve.Look(c, name, epoch)
			}
		}
		serve.Heads(c, 0, n)
		serve.Heads(c, n, n)
		serve.Heads(c, 0, n+1)
		if after := fmt.Sprint(c, wait, heads, books, inner); after != before {
			t.Error(n, before, after)
		}
	}
	r, entries, sides := spacious(answer())
	x, more, others := spacious(answer())
	before := fmt.Sprint(r, entries, sides, x, more, others)
	for range 2 {
		serve.Tell(r)
		serve.Said(r)
		serve.Against(r, x)
		x.Proof.Entries[0].Value = "other"
		serve.Against(r, x)
		serve.Said(x)
		x.Proof.Entries[0].Value = "1"
	}
	if after := fmt.Sprint(r, entries, sides, x, more, others); after != before {
		t.Error(before, after)
	}
}

// P2: replies and heads are new memory, and no call leaves a trace in another.
func TestServeResultsAreNew(t *testing.T) {
	c := clerkAt(t, 3)
	before := fmt.Sprint(c)
	said, err := serve.Said(answer())
	if err != api.OK {
		t.Fatal(err)
	}
	for i, get := range []func() api.Reply{
		func() api.Reply { r, _ := serve.Look(c, "a", 1); return r },
		func() api.Reply { r, _ := serve.Look(c, "a", 3); return r },
		func() api.Reply { r, _ := serve.Look(c, "zoe", 3); return r },
		func() api.Reply { r, _ := serve.Read(said); return r },
	} {
		want := fmt.Sprint(get())
		for k := range 2 {
			first, second := get(), get()
			if k == 0 {
				fill(first.Proof.Entries, api.Entry{Name: "changed"})
			} else {
				fill(first.Proof.Sides, 7)
			}
			if fmt.Sprint(second) != want || fmt.Sprint(get()) != want || fmt.Sprint(c) != before {
				t.Error(i, k, second, want)
			}
		}
	}
	for _, pair := range [][2]int64{{0, 3}, {1, 2}, {3, 3}} {
		first, _ := serve.Heads(c, pair[0], pair[1])
		second, _ := serve.Heads(c, pair[0], pair[1])
		want := fmt.Sprint(second)
		fill(first, api.Head{Epoch: 99})
		if fmt.Sprint(second) != want || fmt.Sprint(c) != before {
			t.Error(pair, second, want)
		}
	}
}

// P2: a change of an argument is not seen in a result of before.
func TestServeKeepsNoArgument(t *testing.T) {
	for j := range memory(clerkAt(t, 3)) {
		c := clerkAt(t, 3)
		first, _ := serve.Look(c, "a", 3)
		second, _ := serve.Look(c, "zoe", 1)
		l, _ := serve.Heads(c, 0, 3)
		before := fmt.Sprint(first, second, l)
		memory(c)[j]()
		if after := fmt.Sprint(first, second, l); after != before {
			t.Error(j, before, after)
		}
	}
}

// P3: a nil slice and an empty one are the same.
func TestServeNilIsEmpty(t *testing.T) {
	c, _ := clerk.New(1, 1, 1)
	absent, _ := serve.Look(c, "a", 0)
	want, err := serve.Said(absent)
	if err != api.OK {
		t.Fatal(err)
	}
	for _, none := range [][]api.Entry{nil, {}, []api.Entry{{Name: "a"}}[:0]} {
		r := absent
		r.Proof.Entries = none
		if v, is, err := serve.Tell(r); v != "" || is || err != api.OK {
			t.Error(v, is, err)
		}
		if s, err := serve.Said(r); s != want || err != api.OK {
			t.Errorf("%q, %d", s, err)
		}
		for _, other := range [][]api.Entry{nil, {}} {
			x := absent
			x.Proof.Entries = other
			if s, u, err := serve.Against(r, x); s != "" || u != "" || err != api.ErrThere {
				t.Errorf("%q, %q, %d", s, u, err)
			}
		}
	}
	for _, none := range [][]uint64{nil, {}} {
		r := absent
		r.Proof.Sides = none
		if _, _, err := serve.Tell(r); err != api.ErrForm {
			t.Error(err)
		}
	}
	for _, books := range [][][]api.Entry{{nil}, {{}}} {
		c.Books = books
		if r, err := serve.Look(c, "a", 0); r.Head != c.Heads[0] || len(r.Proof.Entries) != 0 || err != api.OK {
			t.Error(r, err)
		}
	}
}

// P4: strings are bytes, and the first entry with an error determines it.
func TestServeBytes(t *testing.T) {
	for _, value := range []string{"", "\x00", "\xff\xfe\x00\xc3", strings.Repeat("\u00e9", 10), "e\xcc\x81", "\uFFFD", strings.Repeat("\xff", 20)} {
		r := answer()
		r.Proof.Entries = []api.Entry{{Name: "a", Value: value}}
		r.Head.Root, _ = proof.Root(r.Proof)
		s, err := serve.Said(r)
		if !strings.HasSuffix(s, "\x00\x01a\x00"+string([]byte{byte(len(value))})+value) || err != api.OK {
			t.Errorf("%q: %q, %d", value, s, err)
		}
		x, err := serve.Read(s)
		if v, is, fault := serve.Tell(x); v != value || !is || err != api.OK || fault != api.OK {
			t.Errorf("%q: %q, %t, %d, %d", value, v, is, err, fault)
		}
	}
	form, large := api.Entry{Name: "\u00e9"}, api.Entry{Name: "a", Value: strings.Repeat("\u00e9", 11)}
	for i, c := range []struct {
		l    []api.Entry
		want api.Errno
	}{{[]api.Entry{form, large}, api.ErrForm}, {[]api.Entry{large, form}, api.ErrLarge}} {
		r := answer()
		r.Proof.Entries = c.l
		if _, err := serve.Said(r); err != c.want {
			t.Error(i, err)
		}
	}
}

// P5: errors, limits, verdicts and kinds have the numbers of the document.
func TestConstants(t *testing.T) {
	errnos := []api.Errno{api.OK, api.ErrArg, api.ErrLarge, api.ErrForm, api.ErrRange, api.ErrNone, api.ErrThere, api.ErrFull, api.ErrMark, api.ErrState}
	for i, e := range errnos {
		if int(e) != i {
			t.Error("error", i, int(e))
		}
	}
	for _, c := range []struct {
		what      string
		got, want []int
	}{
		{"verdicts", []int{api.Fine, api.Old, api.Bad, api.Fork, api.Odd, api.Lost, api.Alien}, []int{0, 1, 2, 3, 4, 5, 6}},
		{"deeds", []int{api.DWant, api.DFate, api.DSay, api.DTick}, []int{1, 2, 3, 4}},
		{"events", []int{api.EDue, api.ESaw, api.EGone}, []int{1, 2, 3}},
		{"texts", []int{api.MaxText, api.MaxParts, api.MaxNames, api.MaxName, api.MaxValue, api.Deep}, []int{600, 60, 24, 12, 20, 16}},
		{"heads", []int{api.MaxHeads, api.MaxEpoch, api.MaxTime}, []int{40, 1000000, 1000000000}},
		{"queues", []int{api.MaxQueue, api.MaxWants, api.MaxChains, api.MaxLetters}, []int{30, 30, 8, 60}},
		{"towns", []int{api.MaxOwners, api.MaxDeeds, api.MaxScript, api.MaxWorkers, api.MaxWork}, []int{4, 200, 100, 16, 60}},
	} {
		if !slices.Equal(c.got, c.want) {
			t.Error(c.what, c.got, c.want)
		}
	}
}
