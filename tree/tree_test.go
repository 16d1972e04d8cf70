package tree_test

import (
	"slices"
	"strings"
	"testing"

	"tallyroll/api"
	"tallyroll/mark"
	"tallyroll/path"
	"tallyroll/tree"
)

const (
	none = 1099511628212
	// The leaf of the name a with this value has the hash of the empty preimage.
	likeNone = "pkklollonmojohgjnmok"
)

var (
	longest = strings.Repeat("v", 20)
	tooLong = strings.Repeat("v", 21)
)

// book maps each name of the list to the value that follows it.
func book(t *testing.T, l ...string) []api.Entry {
	t.Helper()
	var out []api.Entry
	for i := 0; i < len(l); i += 2 {
		next, err := tree.Set(out, l[i], l[i+1])
		if err != api.OK {
			t.Fatal(l[i], err)
		}
		out = next
	}
	return out
}

// shared returns 24 names of 12 bytes with the path of a.
func shared() []string {
	return []string{
		"sharedpa1c7t", "sharedpa1oly", "sharedpa39ay", "sharedpab7d4", "sharedpadlay", "sharedpadmrm",
		"sharedpaer1h", "sharedpaevu8", "sharedpaf7gm", "sharedpaf8xa", "sharedpag453", "sharedpaii2x",
		"sharedpaivxq", "sharedpak48l", "sharedpamcfd", "sharedparllg", "sharedpasuo1", "sharedpat6ag",
		"sharedpavcmw", "sharedpawtav", "sharedpawurj", "sharedpaxz1e", "sharedpay32e", "sharedpay7v5",
	}
}

// full returns a book of 24 entries.
func full(t *testing.T) []api.Entry {
	t.Helper()
	var l []string
	for i := range 24 {
		l = append(l, "n"+string(rune('a'+i)), string(rune('A'+i)))
	}
	return book(t, l...)
}

// badBooks returns lists that are no books, with their errors.
func badBooks(t *testing.T) []struct {
	l    []api.Entry
	want api.Errno
} {
	t.Helper()
	more := append(full(t), api.Entry{Name: "zzzzzz"})
	return []struct {
		l    []api.Entry
		want api.Errno
	}{
		{make([]api.Entry, 25), api.ErrLarge},
		{more, api.ErrLarge},
		{make([]api.Entry, 24), api.ErrForm},
		{[]api.Entry{{}}, api.ErrForm},
		{[]api.Entry{{Name: "A", Value: "1"}}, api.ErrForm},
		{[]api.Entry{{Name: strings.Repeat("a", 13), Value: "1"}}, api.ErrForm},
		{[]api.Entry{{Name: "A", Value: tooLong}}, api.ErrForm},
		{[]api.Entry{{Name: "a", Value: tooLong}}, api.ErrLarge},
		// Of two entries, the first one decides.
		{[]api.Entry{{Name: "a", Value: tooLong}, {Name: "B"}}, api.ErrLarge},
		{[]api.Entry{{Name: "B"}, {Name: "a", Value: tooLong}}, api.ErrForm},
		{[]api.Entry{{Name: "b"}, {Name: "a"}, {Name: "z", Value: tooLong}}, api.ErrForm},
		// The length of a value comes before the order.
		{[]api.Entry{{Name: "b"}, {Name: "a", Value: tooLong}}, api.ErrLarge},
		{[]api.Entry{{Name: "b"}, {Name: "a"}}, api.ErrForm},
		{[]api.Entry{{Name: "a"}, {Name: "a"}}, api.ErrForm},
		{[]api.Entry{{Name: "a", Value: "1"}, {Name: "a", Value: "2"}}, api.ErrForm},
		{[]api.Entry{{Name: "a"}, {Name: "b"}, {Name: "a"}}, api.ErrForm},
		// Equal paths, in the wrong order of bytes.
		{[]api.Entry{{Name: "pt8"}, {Name: "l0h"}}, api.ErrForm},
		{[]api.Entry{{Name: "pt8"}, {Name: "pt8"}}, api.ErrForm},
		// The order of bytes is that of the names, but not that of the paths.
		{[]api.Entry{{Name: "l0i"}, {Name: "pt8"}}, api.ErrForm},
		{[]api.Entry{{Name: "aa"}, {Name: "b"}}, api.ErrForm},
	}
}

// P40: what is a book.
func TestCheck(t *testing.T) {
	for i, l := range [][]api.Entry{
		nil,
		{},
		{{Name: "a"}},
		{{Name: strings.Repeat("z", 12), Value: longest}},
		{{Name: "a", Value: "\x00\xff"}, {Name: "b", Value: ""}, {Name: "z", Value: longest}},
		{{Name: "0"}, {Name: "9"}, {Name: "a"}, {Name: "k9"}, {Name: "zoe"}},
		{{Name: "l0h"}, {Name: "pt8"}, {Name: "xem"}, {Name: "yva"}, {Name: "l0i"}},
		full(t),
	} {
		if err := tree.Check(l); err != api.OK {
			t.Error(i, err)
		}
	}
	for i, c := range badBooks(t) {
		if err := tree.Check(c.l); err != c.want {
			t.Error(i, err, c.want)
		}
	}
}

// P40: the error of Check comes before every other one.
func TestCheckFirst(t *testing.T) {
	for i, c := range badBooks(t) {
		for _, name := range []string{"a", "qqq", "A", ""} {
			if l, err := tree.Set(c.l, name, tooLong); len(l) != 0 || err != c.want {
				t.Error(i, name, "Set", l, err)
			}
			if l, err := tree.Set(c.l, name, ""); len(l) != 0 || err != c.want {
				t.Error(i, name, "Set", l, err)
			}
			if v, is, err := tree.Get(c.l, name); v != "" || is || err != c.want {
				t.Error(i, name, "Get", v, is, err)
			}
			if l, err := tree.Drop(c.l, name); len(l) != 0 || err != c.want {
				t.Error(i, name, "Drop", l, err)
			}
		}
		if s, err := tree.Leaf(c.l); s != "" || err != c.want {
			t.Error(i, "Leaf", s, err)
		}
		if n, err := tree.Root(c.l); n != 0 || err != c.want {
			t.Error(i, "Root", n, err)
		}
		for _, p := range []string{"", "01", "x", strings.Repeat("0", 17)} {
			if n, err := tree.At(c.l, p); n != 0 || err != c.want {
				t.Error(i, p, "At", n, err)
			}
		}
	}
}

// P40: a name goes to its place, whatever is there already.
func TestSet(t *testing.T) {
	l := []api.Entry{{Name: "a", Value: "1"}, {Name: "l0h", Value: "2"}, {Name: "yva", Value: "3"}}
	for i, c := range []struct {
		name, value string
		want        []api.Entry
	}{
		{"0", "x", []api.Entry{{Name: "0", Value: "x"}, l[0], l[1], l[2]}},
		{"b", "x", []api.Entry{l[0], {Name: "b", Value: "x"}, l[1], l[2]}},
		{"pt8", "x", []api.Entry{l[0], l[1], {Name: "pt8", Value: "x"}, l[2]}},
		{"l0i", longest, []api.Entry{l[0], l[1], l[2], {Name: "l0i", Value: longest}}},
		{"a", "x", []api.Entry{{Name: "a", Value: "x"}, l[1], l[2]}},
		{"l0h", "", []api.Entry{l[0], {Name: "l0h"}, l[2]}},
		{"yva", "\xff\x00", []api.Entry{l[0], l[1], {Name: "yva", Value: "\xff\x00"}}},
		{"yva", "3", l},
	} {
		if got, err := tree.Set(l, c.name, c.value); !slices.Equal(got, c.want) || err != api.OK {
			t.Error(i, got, err)
		}
	}
	if got, err := tree.Set(nil, "a", ""); !slices.Equal(got, []api.Entry{{Name: "a"}}) || err != api.OK {
		t.Error(got, err)
	}
}

// P40: the errors of Set, in their order.
func TestSetErrors(t *testing.T) {
	few, all := book(t, "a", "1", "zoe", "2"), full(t)
	for i, c := range []struct {
		l           []api.Entry
		name, value string
		want        api.Errno
	}{
		{few, "", "", api.ErrForm},
		{few, "A", "", api.ErrForm},
		{few, "A", tooLong, api.ErrForm},
		{few, strings.Repeat("a", 13), "", api.ErrForm},
		{few, "a", tooLong, api.ErrLarge},
		{few, "b", tooLong, api.ErrLarge},
		{all, "A", tooLong, api.ErrForm},
		{all, "A", "", api.ErrForm},
		{all, "b", tooLong, api.ErrLarge},
		{all, "na", tooLong, api.ErrLarge},
		{all, "b", longest, api.ErrFull},
		{all, "zzzz", "", api.ErrFull},
		{nil, "A", "", api.ErrForm},
		{nil, "a", tooLong, api.ErrLarge},
	} {
		if l, err := tree.Set(c.l, c.name, c.value); len(l) != 0 || err != c.want {
			t.Error(i, l, err)
		}
	}
}

// P40: a full book takes no further name, but other values.
func TestSetFull(t *testing.T) {
	l := full(t)
	for i := range l {
		want := slices.Clone(l)
		want[i].Value = "other"
		if got, err := tree.Set(l, l[i].Name, "other"); !slices.Equal(got, want) || err != api.OK {
			t.Error(i, got, err)
		}
	}
	for i := range l {
		less, err := tree.Drop(l, l[i].Name)
		if len(less) != 23 || err != api.OK {
			t.Error(i, less, err)
		}
		if got, err := tree.Set(less, l[i].Name, l[i].Value); !slices.Equal(got, l) || err != api.OK {
			t.Error(i, got, err)
		}
	}
}

// P40: what is set is got, and nothing else.
func TestGet(t *testing.T) {
	l := book(t, "zoe", "2", "a", "1", "yva", "", "k9", "\xff", "xem", "3", "a", "4")
	for name, want := range map[string]string{"zoe": "2", "a": "4", "yva": "", "k9": "\xff", "xem": "3"} {
		if v, is, err := tree.Get(l, name); v != want || !is || err != api.OK {
			t.Errorf("%q: %q, %t, %d", name, v, is, err)
		}
	}
	// Among them are names with the path of a name that is there, and names around them.
	for _, name := range []string{"b", "0", "l0h", "pt8", "sharedpa1c7t", "zo", "zoee", "ye", "zzzzzzzzzzzz"} {
		if v, is, err := tree.Get(l, name); v != "" || is || err != api.OK {
			t.Errorf("%q: %q, %t, %d", name, v, is, err)
		}
	}
	for _, name := range []string{"", "A", "zoe ", strings.Repeat("a", 13)} {
		for _, l := range [][]api.Entry{l, nil} {
			if v, is, err := tree.Get(l, name); v != "" || is || err != api.ErrForm {
				t.Errorf("%q: %q, %t, %d", name, v, is, err)
			}
		}
	}
	if v, is, err := tree.Get(nil, "a"); v != "" || is || err != api.OK {
		t.Error(v, is, err)
	}
}

// P40: what is dropped is gone, and nothing else.
func TestDrop(t *testing.T) {
	l := book(t, "a", "1", "l0h", "2", "pt8", "3", "yva", "4", "zoe", "5")
	for i := range l {
		want := slices.Delete(slices.Clone(l), i, i+1)
		if got, err := tree.Drop(l, l[i].Name); !slices.Equal(got, want) || err != api.OK {
			t.Error(i, got, err)
		}
	}
	if got, err := tree.Drop(book(t, "a", "1"), "a"); len(got) != 0 || err != api.OK {
		t.Error(got, err)
	}
	for _, name := range []string{"b", "xem", "0", "zo", "sharedpa1c7t"} {
		if got, err := tree.Drop(l, name); len(got) != 0 || err != api.ErrNone {
			t.Error(name, got, err)
		}
	}
	for _, name := range []string{"", "A", "a ", strings.Repeat("a", 13)} {
		if got, err := tree.Drop(l, name); len(got) != 0 || err != api.ErrForm {
			t.Error(name, got, err)
		}
	}
	if got, err := tree.Drop(nil, "a"); len(got) != 0 || err != api.ErrNone {
		t.Error(got, err)
	}
}

// P41: preimages.
func TestLeaf(t *testing.T) {
	for i, c := range []struct {
		l    []api.Entry
		want string
	}{
		{nil, "\x00"},
		{[]api.Entry{}, "\x00"},
		{book(t, "a", "1"), "\x01\x00\x01a\x00\x011"},
		{book(t, "a", ""), "\x01\x00\x01a\x00\x00"},
		{book(t, "zoe", "\x00\xff"), "\x01\x00\x03zoe\x00\x02\x00\xff"},
		{book(t, "pt8", "22", "l0h", "1"), "\x01\x00\x03l0h\x00\x011\x00\x03pt8\x00\x0222"},
		{book(t, "yva", "", "xem", "3", "l0h", ""), "\x01\x00\x03l0h\x00\x00\x00\x03xem\x00\x013\x00\x03yva\x00\x00"},
		{book(t, strings.Repeat("q", 12), longest), "\x01\x00\x0c" + strings.Repeat("q", 12) + "\x00\x14" + longest},
	} {
		if s, err := tree.Leaf(c.l); s != c.want || err != api.OK {
			t.Errorf("%d: %q, %d", i, s, err)
		}
	}
}

// P41: as many entries of one path as a book can have, and of the greatest length.
func TestLeafLongest(t *testing.T) {
	var l []api.Entry
	want := "\x01"
	for n, name := range shared() {
		l = append(l, api.Entry{Name: name, Value: longest})
		want += "\x00\x0c" + name + "\x00\x14" + longest
		if s, err := tree.Leaf(l); s != want || err != api.OK {
			t.Errorf("%d: %q, %d", n, s, err)
		}
	}
	if n, err := tree.At(l, "0000001000010101"); n != mark.Of(want) || err != api.OK {
		t.Error(n, err)
	}
}

// P41: entries with different paths, also if only the last bytes differ or only one entry does.
func TestLeafErrors(t *testing.T) {
	for i, l := range [][]api.Entry{
		book(t, "a", "1", "zoe", "2"),
		book(t, "a", "1", "b", "2"),
		book(t, "l0h", "1", "l0i", "1"),
		book(t, "l0h", "", "pt8", "", "xem", "", "pt9", ""),
		book(t, "a", "", "l0h", "", "pt8", ""),
		book(t, "a", "", "l0h", "", "pt8", "", "zoe", ""),
		full(t),
	} {
		if s, err := tree.Leaf(l); s != "" || err != api.ErrForm {
			t.Errorf("%d: %q, %d", i, s, err)
		}
	}
}

// levels returns the hashes of all prefixes of n bytes at index n, computed from all leaves up.
func levels(t *testing.T, l []api.Entry) [17][]uint64 {
	t.Helper()
	leaves := map[uint64]string{}
	for _, e := range l {
		p := mark.Of(e.Name) & 0xffff
		if leaves[p] == "" {
			leaves[p] = "\x01"
		}
		leaves[p] += "\x00" + string(rune(len(e.Name))) + e.Name + "\x00" + string(rune(len(e.Value))) + e.Value
	}
	var out [17][]uint64
	out[16] = slices.Repeat([]uint64{none}, 1<<16)
	for p, s := range leaves {
		out[16][p] = mark.Of(s)
	}
	for n := 15; n >= 0; n-- {
		for i := range 1 << n {
			a, b := out[n+1][2*i], out[n+1][2*i+1]
			h := uint64(none)
			if a != none || b != none {
				h = mark.Two(2, a, b)
			}
			out[n] = append(out[n], h)
		}
	}
	return out
}

// bits returns the lowest n bits of i as a prefix.
func bits(i, n int) string {
	out := ""
	for k := n - 1; k >= 0; k-- {
		out += string(rune('0' + i>>k&1))
	}
	return out
}

// P42: all short prefixes, and those along the paths of all names and beside them.
func TestAt(t *testing.T) {
	for i, l := range [][]api.Entry{
		nil,
		book(t, "a", "1"),
		book(t, "a", "1", "b", "1"),
		book(t, "zoe", "", "k9", longest, "0", "3"),
		book(t, "l0h", "1", "pt8", "2", "xem", "3", "l0i", "4", "pt9", "5", "zoe", "6"),
		full(t),
	} {
		want := levels(t, l)
		check := func(at, n int) {
			t.Helper()
			if got, err := tree.At(l, bits(at, n)); got != want[n][at] || err != api.OK {
				t.Error(i, bits(at, n), got, err)
			}
		}
		for n := range 9 {
			for at := range 1 << n {
				check(at, n)
			}
		}
		for _, e := range l {
			p := int(mark.Of(e.Name) & 0xffff)
			for n := range 17 {
				at := p >> (16 - n)
				check(at, n)
				check(at&^1, n)
				check(at|1&(1<<n-1), n)
			}
		}
		check(0, 16)
		check(1<<16-1, 16)
		if got, err := tree.Root(l); got != want[0][0] || err != api.OK {
			t.Error(i, got, err)
		}
	}
}

// P42: the root of the empty book, and every other prefix of it.
func TestEmptyBook(t *testing.T) {
	for _, l := range [][]api.Entry{nil, {}} {
		if n, err := tree.Root(l); n != none || err != api.OK {
			t.Error(n, err)
		}
		for k := range 17 {
			for _, p := range []string{strings.Repeat("0", k), strings.Repeat("1", k)} {
				if n, err := tree.At(l, p); n != none || err != api.OK {
					t.Error(p, n, err)
				}
			}
		}
	}
}

// P42: what is no prefix.
func TestAtErrors(t *testing.T) {
	l := book(t, "a", "1")
	bad := []string{strings.Repeat("0", 17), strings.Repeat("1", 1000), strings.Repeat("0", 16) + "x"}
	for c := range 256 {
		if c != '0' && c != '1' {
			one := string([]byte{byte(c)})
			bad = append(bad, one, "0"+one, one+"1", "0"+one+"1", strings.Repeat("0", 15)+one)
		}
	}
	for _, p := range bad {
		for _, l := range [][]api.Entry{l, nil} {
			if n, err := tree.At(l, p); n != 0 || err != api.ErrForm {
				t.Errorf("%q: %d, %d", p, n, err)
			}
		}
	}
}

// P42: it is the hashes that decide, not whether there are entries.
func TestLeafLikeNone(t *testing.T) {
	l := book(t, "a", likeNone)
	s, err := tree.Leaf(l)
	if !mark.Alike(s, "\x00") || err != api.OK {
		t.Fatalf("%q, %d", s, err)
	}
	p, _ := path.Of("a")
	for k := range 17 {
		if n, err := tree.At(l, p[:k]); n != none || err != api.OK {
			t.Error(k, n, err)
		}
	}
	with, _ := tree.Root(book(t, "a", likeNone, "b", "1", "zoe", "2"))
	without, _ := tree.Root(book(t, "b", "1", "zoe", "2"))
	if with != without {
		t.Error(with, without)
	}
}

// P42: each name, each value and each place counts.
func TestRootTells(t *testing.T) {
	seen := map[uint64]int{}
	for i, l := range [][]api.Entry{
		nil,
		book(t, "a", ""),
		book(t, "a", "1"),
		book(t, "b", "1"),
		book(t, "a", "1", "b", "1"),
		book(t, "a", "1", "b", "2"),
		book(t, "a", "2", "b", "1"),
		book(t, "l0h", "1"),
		book(t, "pt8", "1"),
		book(t, "l0i", "1"),
		book(t, "l0h", "1", "pt8", "1"),
		book(t, "l0h", "1", "pt8", "2"),
		full(t),
	} {
		n, err := tree.Root(l)
		if j, there := seen[n]; there || err != api.OK {
			t.Error(i, j, n, err)
		}
		seen[n] = i
	}
}
