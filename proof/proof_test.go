package proof_test

import (
	"slices"
	"strings"
	"testing"

	"tallyroll/api"
	"tallyroll/mark"
	"tallyroll/proof"
	"tallyroll/tree"
)

const (
	none = 1099511628212
	// The leaf of the name a with this value has the hash of the empty preimage.
	likeNone = "pkklollonmojohgjnmok"
	// Two values of one name with which its leaves have the same hash.
	like      = "abcdefghijklmnopqrst"
	alsoAlike = "cfdfodilddpokdmpqrss"
)

var (
	longest = strings.Repeat("v", 20)
	tooLong = strings.Repeat("v", 21)
)

// book maps each name of the list to the value that follows it.
func book(t *testing.T, l ...string) []api.Entry {
	t.Helper()
	var out []api.Entry
	for i := 0; i < len(l); i += 2 {
		next, err := tree.Set(out, l[i], l[i+1])
		if err != api.OK {
			t.Fatal(l[i], err)
		}
		out = next
	}
	return out
}

// make1 returns the proof for name in a book, and the root of the book.
func make1(t *testing.T, l []api.Entry, name string) (uint64, api.Proof) {
	t.Helper()
	p, err := proof.Make(l, name)
	if err != api.OK {
		t.Fatal(name, err)
	}
	root, err := tree.Root(l)
	if err != api.OK {
		t.Fatal(name, err)
	}
	return root, p
}

// shared returns a book of 24 names of 12 bytes with the path of a.
func shared() []api.Entry {
	var l []api.Entry
	for _, end := range []string{
		"1c7t", "1oly", "39ay", "b7d4", "dlay", "dmrm", "er1h", "evu8", "f7gm", "f8xa", "g453", "ii2x",
		"ivxq", "k48l", "mcfd", "rllg", "suo1", "t6ag", "vcmw", "wtav", "wurj", "xz1e", "y32e", "y7v5",
	} {
		l = append(l, api.Entry{Name: "sharedpa" + end, Value: longest})
	}
	return l
}

// full returns a book of 24 entries with different paths.
func full(t *testing.T) []api.Entry {
	t.Helper()
	var l []string
	for i := range 24 {
		l = append(l, "n"+string(rune('a'+i)), string(rune('A'+i)))
	}
	return book(t, l...)
}

// books returns valid books.
func books(t *testing.T) [][]api.Entry {
	t.Helper()
	return [][]api.Entry{
		nil,
		book(t, "a", "1"),
		book(t, "a", "", "b", "1"),
		book(t, "zoe", "", "k9", longest, "0", "\x00\xff"),
		book(t, "l0h", "1", "pt8", "2", "xem", "3", "l0i", "4", "pt9", "5", "zoe", "6"),
		book(t, "a", likeNone, "zoe", "1"),
		full(t),
		shared(),
	}
}

// names returns names that are in some of the books, and names that are in none.
func names() []string {
	return []string{"a", "b", "0", "z", "k9", "zoe", "l0h", "pt8", "xem", "yva", "l0i", "yvb", "na", "nx", "sharedpa1c7t", "zzzzzzzzzzzz"}
}

// leaf returns the preimage of entries of one path.
func leaf(l []api.Entry) string {
	if len(l) == 0 {
		return "\x00"
	}
	out := "\x01"
	for _, e := range l {
		out += "\x00" + string(rune(len(e.Name))) + e.Name + "\x00" + string(rune(len(e.Value))) + e.Value
	}
	return out
}

// node returns the preimage of two hashes.
func node(a, b uint64) string {
	if a == none && b == none {
		return "\x00"
	}
	out := []byte{2}
	for _, n := range []uint64{a, b} {
		for k := 56; k >= 0; k -= 8 {
			out = append(out, byte(n>>k))
		}
	}
	return string(out)
}

// reference returns the proof for name and its preimages, computed from all leaves of the book up.
func reference(l []api.Entry, name string) (api.Proof, []string) {
	at := mark.Of(name) & 0xffff
	row := make([]string, 1<<16)
	p := api.Proof{Name: name}
	entries := map[uint64][]api.Entry{}
	for _, e := range l {
		k := mark.Of(e.Name) & 0xffff
		entries[k] = append(entries[k], e)
	}
	for k := range row {
		row[k] = leaf(entries[uint64(k)])
	}
	p.Entries = entries[at]
	said := []string{row[at]}
	for len(row) > 1 {
		p.Sides = append(p.Sides, mark.Of(row[at^1]))
		next := make([]string, len(row)/2)
		for k := range next {
			next[k] = "\x00"
			if row[2*k] != "\x00" || row[2*k+1] != "\x00" {
				next[k] = node(mark.Of(row[2*k]), mark.Of(row[2*k+1]))
			}
		}
		row, at = next, at>>1
		said = append(said, row[at])
	}
	return p, said
}

// P50, P51: proofs and their preimages, compared with those computed from all leaves.
func TestMakeAndSaid(t *testing.T) {
	for i, l := range books(t) {
		root, _ := tree.Root(l)
		for _, name := range names() {
			want, said := reference(l, name)
			p, err := proof.Make(l, name)
			if p.Name != name || !slices.Equal(p.Entries, want.Entries) || !slices.Equal(p.Sides, want.Sides) || err != api.OK {
				t.Error(i, name, p, want, err)
			}
			if err := proof.Right(p); err != api.OK {
				t.Error(i, name, err)
			}
			if s, err := proof.Said(p); len(s) != 17 || !slices.Equal(s, said) || err != api.OK {
				t.Errorf("%d %s: %q, %q, %d", i, name, s, said, err)
			}
			if n, err := proof.Root(p); n != root || err != api.OK {
				t.Error(i, name, n, root, err)
			}
		}
	}
}

// P50: in the empty book, there are no entries, and nothing is beside the path.
func TestMakeEmpty(t *testing.T) {
	for _, l := range [][]api.Entry{nil, {}} {
		_, p := make1(t, l, "a")
		if p.Name != "a" || len(p.Entries) != 0 || !slices.Equal(p.Sides, slices.Repeat([]uint64{none}, 16)) {
			t.Error(p)
		}
		s, err := proof.Said(p)
		if !slices.Equal(s, slices.Repeat([]string{"\x00"}, 17)) || err != api.OK {
			t.Errorf("%q, %d", s, err)
		}
	}
}

// P50: the deepest sibling comes first, and the side of the path does not matter for that.
func TestMakeSides(t *testing.T) {
	want := mark.Of("\x01\x00\x03l0h\x00\x011")
	_, p := make1(t, book(t, "l0h", "1"), "l0i")
	if p.Sides[0] != want || slices.ContainsFunc(p.Sides[1:], func(n uint64) bool { return n != none }) || len(p.Entries) != 0 {
		t.Error(p)
	}
	want = mark.Of("\x01\x00\x03l0i\x00\x011")
	_, p = make1(t, book(t, "l0i", "1"), "l0h")
	if p.Sides[0] != want || slices.ContainsFunc(p.Sides[1:], func(n uint64) bool { return n != none }) || len(p.Entries) != 0 {
		t.Error(p)
	}
	// The paths of a and zoe differ in the first byte.
	l := book(t, "zoe", "1")
	want, _ = tree.At(l, "1")
	_, p = make1(t, l, "a")
	if p.Sides[15] != want || slices.ContainsFunc(p.Sides[:15], func(n uint64) bool { return n != none }) {
		t.Error(p)
	}
}

// badBooks returns lists that are no books, with their errors.
func badBooks() []struct {
	l    []api.Entry
	want api.Errno
} {
	return []struct {
		l    []api.Entry
		want api.Errno
	}{
		{make([]api.Entry, 25), api.ErrLarge},
		{append(shared(), api.Entry{Name: "sharedpaz"}), api.ErrLarge},
		{[]api.Entry{{}}, api.ErrForm},
		{[]api.Entry{{Name: "A"}}, api.ErrForm},
		{[]api.Entry{{Name: "a", Value: tooLong}}, api.ErrLarge},
		{[]api.Entry{{Name: "a", Value: tooLong}, {Name: "B"}}, api.ErrLarge},
		{[]api.Entry{{Name: "B"}, {Name: "a", Value: tooLong}}, api.ErrForm},
		{[]api.Entry{{Name: "a"}, {Name: "a"}}, api.ErrForm},
		{[]api.Entry{{Name: "pt8"}, {Name: "l0h"}}, api.ErrForm},
		{[]api.Entry{{Name: "zoe"}, {Name: "a", Value: tooLong}}, api.ErrLarge},
	}
}

// P50: the errors of Make, in their order.
func TestMakeErrors(t *testing.T) {
	bad := []string{"", "A", "a ", "\xff", strings.Repeat("a", 13)}
	for i, c := range badBooks() {
		for _, name := range append(bad, "a", "zoe") {
			if p, err := proof.Make(c.l, name); p.Name != "" || len(p.Entries) != 0 || len(p.Sides) != 0 || err != c.want {
				t.Error(i, name, p, err)
			}
		}
	}
	for i, l := range books(t) {
		for _, name := range bad {
			if p, err := proof.Make(l, name); p.Name != "" || len(p.Entries) != 0 || len(p.Sides) != 0 || err != api.ErrForm {
				t.Error(i, name, p, err)
			}
		}
	}
}

// badProofs returns proofs that are not right, with their errors.
func badProofs(t *testing.T) []struct {
	p    api.Proof
	want api.Errno
} {
	t.Helper()
	_, ok := make1(t, book(t, "l0h", "1", "xem", "2", "zoe", "3"), "pt8")
	out := []struct {
		p    api.Proof
		want api.Errno
	}{}
	add := func(want api.Errno, change func(p *api.Proof)) {
		p := api.Proof{Name: ok.Name, Entries: slices.Clone(ok.Entries), Sides: slices.Clone(ok.Sides)}
		change(&p)
		out = append(out, struct {
			p    api.Proof
			want api.Errno
		}{p, want})
	}
	add(api.ErrForm, func(p *api.Proof) { *p = api.Proof{} })
	for _, name := range []string{"", "A", "pt8 ", strings.Repeat("p", 13)} {
		add(api.ErrForm, func(p *api.Proof) { p.Name = name })
		// The name comes before the entries.
		add(api.ErrForm, func(p *api.Proof) { p.Name, p.Entries = name, make([]api.Entry, 25) })
	}
	for _, c := range badBooks() {
		add(c.want, func(p *api.Proof) { p.Entries = c.l })
		// The book comes before the path and the sides.
		add(c.want, func(p *api.Proof) { p.Name, p.Entries, p.Sides = "b", c.l, nil })
	}
	// Another path: of all entries, of the last one, of the first one, of the one in the middle only at its last byte.
	for _, name := range []string{"a", "l0i", "zoe"} {
		add(api.ErrForm, func(p *api.Proof) { p.Name = name })
		add(api.ErrForm, func(p *api.Proof) { p.Entries = book(t, "l0h", "1", name, "2") })
		add(api.ErrForm, func(p *api.Proof) { p.Entries = book(t, name, "2") })
		add(api.ErrForm, func(p *api.Proof) { p.Entries = book(t, "pt8", "", "yva", "", name, "2") })
	}
	for _, n := range []int{0, 1, 15, 17, 32, 100000} {
		add(api.ErrForm, func(p *api.Proof) { p.Sides = make([]uint64, n) })
	}
	for k := range 16 {
		for _, n := range []uint64{mark.M, mark.M + 1, none + mark.M, 1 << 63, 1<<64 - 1} {
			add(api.ErrForm, func(p *api.Proof) { p.Sides[k] = n })
		}
	}
	return out
}

// P50: the errors of Right, and that all others return them first.
func TestRightErrors(t *testing.T) {
	for i, c := range badProofs(t) {
		if err := proof.Right(c.p); err != c.want {
			t.Error(i, err, c.want)
		}
		if s, err := proof.Said(c.p); len(s) != 0 || err != c.want {
			t.Error(i, "Said", s, err)
		}
		if n, err := proof.Root(c.p); n != 0 || err != c.want {
			t.Error(i, "Root", n, err)
		}
		for _, root := range []uint64{0, 1, none} {
			if v, is, err := proof.Tell(root, c.p); v != "" || is || err != c.want {
				t.Error(i, "Tell", v, is, err)
			}
			for _, value := range []string{"", "1", tooLong} {
				if n, err := proof.After(root, c.p, value); n != 0 || err != c.want {
					t.Error(i, "After", n, err)
				}
			}
		}
	}
}

// P50: a proof of any sides less than M is right, also if no book has them.
func TestRight(t *testing.T) {
	for _, n := range []uint64{0, 1, none, mark.M - 1} {
		for _, l := range [][]api.Entry{nil, {}, {{Name: "pt8"}}, book(t, "l0h", "1", "yva", longest)} {
			p := api.Proof{Name: "pt8", Entries: l, Sides: slices.Repeat([]uint64{n}, 16)}
			if err := proof.Right(p); err != api.OK {
				t.Error(n, l, err)
			}
		}
	}
	if err := proof.Right(api.Proof{Name: "a", Entries: shared(), Sides: make([]uint64, 16)}); err != api.OK {
		t.Error(err)
	}
}

// P51: each side is combined in the order of the path, whatever it is.
func TestSaidOrder(t *testing.T) {
	p := api.Proof{Name: "zoe", Entries: book(t, "zoe", "1")}
	for k := range 16 {
		p.Sides = append(p.Sides, uint64(k))
	}
	const way = "1110001000010100"
	want := []string{"\x01\x00\x03zoe\x00\x011"}
	for k := range 16 {
		a, b := mark.Of(want[k]), uint64(k)
		if way[15-k] == '1' {
			a, b = b, a
		}
		want = append(want, node(a, b))
	}
	if s, err := proof.Said(p); !slices.Equal(s, want) || err != api.OK {
		t.Errorf("%q, %q, %d", s, want, err)
	}
	if n, err := proof.Root(p); n != mark.Of(want[16]) || err != api.OK {
		t.Error(n, err)
	}
}

// P51: it is the hashes that decide whether a preimage is empty, not the entries.
func TestSaidLikeNone(t *testing.T) {
	root, p := make1(t, book(t, "a", likeNone), "a")
	want := slices.Repeat([]string{"\x00"}, 17)
	want[0] = "\x01\x00\x01a\x00\x14" + likeNone
	if s, err := proof.Said(p); !slices.Equal(s, want) || err != api.OK {
		t.Errorf("%q, %d", s, err)
	}
	if v, is, err := proof.Tell(none, p); root != none || v != likeNone || !is || err != api.OK {
		t.Error(root, v, is, err)
	}
	// One hash of the empty preimage is not enough, on either side.
	for _, name := range []string{"a", "zoe"} {
		p := api.Proof{Name: name, Sides: slices.Repeat([]uint64{none}, 16)}
		p.Sides[7] = none + 1
		s, err := proof.Said(p)
		if !slices.Equal(s[:8], slices.Repeat([]string{"\x00"}, 8)) || slices.Contains(s[8:], "\x00") || err != api.OK {
			t.Errorf("%q, %d", s, err)
		}
	}
}

// P52: what the book says.
func TestTell(t *testing.T) {
	for i, l := range books(t) {
		for _, name := range names() {
			root, p := make1(t, l, name)
			v, is, _ := tree.Get(l, name)
			if w, there, err := proof.Tell(root, p); w != v || there != is || err != api.OK {
				t.Error(i, name, w, there, err)
			}
			for _, other := range []uint64{0, root + 1, root - 1, root + mark.M, ^root} {
				if w, there, err := proof.Tell(other, p); w != "" || there || err != api.ErrMark {
					t.Error(i, name, w, there, err)
				}
			}
		}
	}
}

// P52: a name with an empty value is there, and a name of the same path is another name.
func TestTellSharedPath(t *testing.T) {
	l := book(t, "l0h", "1", "pt8", "", "yva", "3")
	for _, c := range []struct {
		name, want string
		is         bool
	}{{"l0h", "1", true}, {"pt8", "", true}, {"xem", "", false}, {"yva", "3", true}} {
		root, p := make1(t, l, c.name)
		if len(p.Entries) != 3 {
			t.Error(p)
		}
		if v, is, err := proof.Tell(root, p); v != c.want || is != c.is || err != api.OK {
			t.Error(c.name, v, is, err)
		}
	}
}

// P52: a proof that is changed anywhere has another root.
func TestTellChanged(t *testing.T) {
	root, p := make1(t, book(t, "l0h", "1", "pt8", "2", "l0i", "3", "zoe", "4"), "pt8")
	check := func(q api.Proof) {
		t.Helper()
		if v, is, err := proof.Tell(root, q); v != "" || is || err != api.ErrMark {
			t.Error(q, v, is, err)
		}
		if n, err := proof.After(root, q, "x"); n != 0 || err != api.ErrMark {
			t.Error(q, n, err)
		}
	}
	for k := range 16 {
		q := p
		q.Sides = slices.Clone(p.Sides)
		q.Sides[k]++
		check(q)
	}
	check(api.Proof{Name: "pt8", Sides: p.Sides})
	check(api.Proof{Name: "pt8", Entries: p.Entries[:1], Sides: p.Sides})
	check(api.Proof{Name: "pt8", Entries: book(t, "l0h", "1", "pt8", "3"), Sides: p.Sides})
	check(api.Proof{Name: "pt8", Entries: book(t, "l0h", "1", "pt8", "2", "xem", ""), Sides: p.Sides})
}

// P52: with a collision, one root has proofs of two values.
func TestTellCollision(t *testing.T) {
	root, p := make1(t, book(t, "a", like, "zoe", "2"), "a")
	p.Entries[0].Value = alsoAlike
	if v, is, err := proof.Tell(root, p); v != alsoAlike || !is || err != api.OK {
		t.Error(v, is, err)
	}
}

// P52: the root of the book in which the name is set.
func TestAfter(t *testing.T) {
	for i, l := range books(t) {
		for _, name := range names() {
			root, p := make1(t, l, name)
			for _, value := range []string{"", "1", "\x00\xff", longest} {
				changed, err := tree.Set(l, name, value)
				if err == api.ErrFull {
					continue
				}
				want, _ := tree.Root(changed)
				if n, err := proof.After(root, p, value); n != want || err != api.OK {
					t.Error(i, name, value, n, want, err)
				}
			}
		}
	}
	root, p := make1(t, book(t, "zoe", "1"), "a")
	if n, err := proof.After(root, p, likeNone); n != root || err != api.OK {
		t.Error(n, err)
	}
}

// P52: the errors of After, in their order.
func TestAfterErrors(t *testing.T) {
	root, p := make1(t, shared(), "a")
	there, q := make1(t, shared(), "sharedpay7v5")
	some, r := make1(t, full(t), "na")
	for i, c := range []struct {
		root  uint64
		p     api.Proof
		value string
		want  api.Errno
	}{
		{root + 1, p, tooLong, api.ErrMark},
		{root + 1, p, "", api.ErrMark},
		{root + mark.M, p, "", api.ErrMark},
		{root, p, tooLong, api.ErrLarge},
		{root, p, longest, api.ErrFull},
		{root, p, "", api.ErrFull},
		{there, q, tooLong, api.ErrLarge},
		{there + 1, q, "", api.ErrMark},
		{some, r, tooLong, api.ErrLarge},
		{0, r, tooLong, api.ErrMark},
	} {
		if n, err := proof.After(c.root, c.p, c.value); n != 0 || err != c.want {
			t.Error(i, n, err, c.want)
		}
	}
	// A name of a full list of entries can have another value.
	want, _ := tree.Set(shared(), "sharedpay7v5", "x")
	rootOfWant, _ := tree.Root(want)
	if n, err := proof.After(there, q, "x"); n != rootOfWant || err != api.OK {
		t.Error(n, err)
	}
}

// P52: a proof shows only the entries of its path, so that a full book can go unnoticed.
func TestAfterFullBook(t *testing.T) {
	l := full(t)
	root, p := make1(t, l, "zoe")
	less, _ := tree.Drop(l, "na")
	with, _ := tree.Set(less, "zoe", "1")
	rootOfWith, _ := tree.Root(with)
	_, back := make1(t, with, "na")
	want, err := proof.After(rootOfWith, back, "A")
	if err != api.OK {
		t.Fatal(err)
	}
	if n, err := proof.After(root, p, "1"); n != want || err != api.OK {
		t.Error(n, want, err)
	}
}
