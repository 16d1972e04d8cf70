package change_test

import (
	"slices"
	"strings"
	"testing"

	"tallyroll/api"
	"tallyroll/change"
	"tallyroll/mark"
	"tallyroll/tree"
)

const (
	// Two values of one name with which its leaves have the same hash.
	like      = "abcdefghijklmnopqrst"
	alsoAlike = "cfdfodilddpokdmpqrss"
	// The leaf of the name a with this value has the hash of the empty preimage.
	likeNone = "pkklollonmojohgjnmok"
)

var (
	longest = strings.Repeat("v", 20)
	tooLong = strings.Repeat("v", 21)
)

// book maps each name of the list to the value that follows it.
func book(t *testing.T, l ...string) []api.Entry {
	t.Helper()
	var out []api.Entry
	for i := 0; i < len(l); i += 2 {
		next, err := tree.Set(out, l[i], l[i+1])
		if err != api.OK {
			t.Fatal(l[i], err)
		}
		out = next
	}
	return out
}

// full returns a book of 24 names that begin with start.
func full(t *testing.T, start string) []api.Entry {
	t.Helper()
	var l []string
	for i := range 24 {
		l = append(l, start+string(rune('a'+i)), string(rune('A'+i)))
	}
	return book(t, l...)
}

// shared returns a book of 24 names of 12 bytes with the path of a.
func shared() []api.Entry {
	var l []api.Entry
	for _, end := range []string{
		"1c7t", "1oly", "39ay", "b7d4", "dlay", "dmrm", "er1h", "evu8", "f7gm", "f8xa", "g453", "ii2x",
		"ivxq", "k48l", "mcfd", "rllg", "suo1", "t6ag", "vcmw", "wtav", "wurj", "xz1e", "y32e", "y7v5",
	} {
		l = append(l, api.Entry{Name: "sharedpa" + end, Value: longest})
	}
	return l
}

// books returns books without a collision among their leaves.
func books(t *testing.T) [][]api.Entry {
	t.Helper()
	some := shared()
	some[3].Value, some[20].Value = "", "x"
	return [][]api.Entry{
		nil,
		{},
		book(t, "a", ""),
		book(t, "a", "1"),
		book(t, "b", "1"),
		book(t, "a", "1", "zoe", "2", "k9", "3"),
		book(t, "a", "1", "zoe", "9", "b", "4"),
		book(t, "l0h", "1", "pt8", "2"),
		book(t, "l0h", "1", "pt8", "3", "xem", "2", "l0i", "4"),
		book(t, "l0h", "2", "pt8", "1", "yva", "", "pt9", "5", "zoe", "6"),
		book(t, "0", longest, "9", "\x00\xff", "zzzzzzzzzzzz", ""),
		full(t, "n"),
		full(t, "m"),
		shared(),
		some,
	}
}

// order compares names by the lowest sixteen bits of their hashes, and then by their bytes.
func order(a, b string) int {
	p, q := mark.Of(a)&0xffff, mark.Of(b)&0xffff
	if p != q {
		return int(p) - int(q)
	}
	return strings.Compare(a, b)
}

// unlike returns the names that two books do not have alike, in order.
func unlike(a, b []api.Entry) []string {
	left, right := map[string]string{}, map[string]string{}
	names := map[string]bool{}
	for _, e := range a {
		left[e.Name] = e.Value
		names[e.Name] = true
	}
	for _, e := range b {
		right[e.Name] = e.Value
		names[e.Name] = true
	}
	var out []string
	for name := range names {
		v, inLeft := left[name]
		w, inRight := right[name]
		if inLeft != inRight || v != w {
			out = append(out, name)
		}
	}
	slices.SortFunc(out, order)
	return out
}

// steps returns how many prefixes lead to the names where no hashes collide: the root, and two below each shorter prefix of a path.
func steps(names []string) int {
	inner := map[[2]uint64]bool{}
	for _, name := range names {
		for n := range uint64(16) {
			inner[[2]uint64{n, mark.Of(name) & 0xffff >> (16 - n)}] = true
		}
	}
	return 1 + 2*len(inner)
}

// badBooks returns lists that are no books, with their errors.
func badBooks() []struct {
	l    []api.Entry
	want api.Errno
} {
	return []struct {
		l    []api.Entry
		want api.Errno
	}{
		{make([]api.Entry, 25), api.ErrLarge},
		{[]api.Entry{{}}, api.ErrForm},
		{[]api.Entry{{Name: "A", Value: tooLong}}, api.ErrForm},
		{[]api.Entry{{Name: strings.Repeat("a", 13)}}, api.ErrForm},
		{[]api.Entry{{Name: "a", Value: tooLong}}, api.ErrLarge},
		{[]api.Entry{{Name: "b"}, {Name: "a"}}, api.ErrForm},
		{[]api.Entry{{Name: "a"}, {Name: "a"}}, api.ErrForm},
		{[]api.Entry{{Name: "pt8"}, {Name: "l0h"}}, api.ErrForm},
		{[]api.Entry{{Name: "l0i"}, {Name: "pt8"}}, api.ErrForm},
	}
}

// P70: the names that are missing or have another value, in the order of their paths.
func TestDiff(t *testing.T) {
	for i, c := range []struct {
		a, b []api.Entry
		want []string
	}{
		{nil, nil, nil},
		{nil, book(t, "a", ""), []string{"a"}},
		{book(t, "a", "1"), book(t, "a", "1"), nil},
		{book(t, "a", "1"), book(t, "a", ""), []string{"a"}},
		{book(t, "a", "1"), book(t, "b", "1"), []string{"a", "b"}},
		{book(t, "a", "1", "b", "2"), book(t, "a", "2", "b", "1"), []string{"a", "b"}},
		{book(t, "a", "1", "b", "2"), book(t, "b", "2"), []string{"a"}},
		// Names of both books among each other: the order is not that of their bytes.
		{book(t, "zoe", "1", "a", "1", "l0i", "1"), book(t, "9", "1", "pt8", "1", "a", "1"), []string{"9", "pt8", "l0i", "zoe"}},
		{book(t, "l0h", "1", "xem", "1"), book(t, "pt8", "1", "yva", "1"), []string{"l0h", "pt8", "xem", "yva"}},
		{book(t, "l0h", "1", "xem", "1"), book(t, "l0h", "1", "xem", "2"), []string{"xem"}},
		// Values are compared, not hashes.
		{book(t, "a", like, "zoe", "1"), book(t, "a", alsoAlike, "zoe", "1"), []string{"a"}},
		{nil, book(t, "a", likeNone), []string{"a"}},
		{book(t, "a", "\xff"), book(t, "a", "\xfe"), []string{"a"}},
	} {
		if l, err := change.Diff(c.a, c.b); !slices.Equal(l, c.want) || err != api.OK {
			t.Errorf("%d: %q, %d", i, l, err)
		}
		if l, err := change.Diff(c.b, c.a); !slices.Equal(l, c.want) || err != api.OK {
			t.Errorf("%d: %q, %d", i, l, err)
		}
	}
}

// P70: all pairs of books; where nothing collides, Look finds all that is different, and nothing in vain.
func TestDiffAndLookAtAll(t *testing.T) {
	most := 0
	for i, a := range books(t) {
		for j, b := range books(t) {
			want := unlike(a, b)
			if l, err := change.Diff(a, b); !slices.Equal(l, want) || err != api.OK {
				t.Errorf("%d, %d: %q, %q, %d", i, j, l, want, err)
			}
			l, n, err := change.Look(a, b)
			if !slices.Equal(l, want) || n != steps(want) || err != api.OK {
				t.Errorf("%d, %d: %q, %q, %d, %d, %d", i, j, l, want, n, steps(want), err)
			}
			most = max(most, len(l))
		}
	}
	if most != 48 {
		t.Error(most)
	}
}

// P70: the numbers of prefixes that can be worked out by hand.
func TestLook(t *testing.T) {
	for i, c := range []struct {
		a, b []api.Entry
		want []string
		n    int
	}{
		{nil, nil, nil, 1},
		{full(t, "n"), full(t, "n"), nil, 1},
		{nil, book(t, "a", ""), []string{"a"}, 33},
		{book(t, "zoe", "1"), book(t, "zoe", "2"), []string{"zoe"}, 33},
		// The paths of a and b have 14 bytes in common, those of l0h and l0i 15, and those of a and zoe none.
		{nil, book(t, "a", "", "b", ""), []string{"a", "b"}, 35},
		{nil, book(t, "l0h", "", "l0i", ""), []string{"l0h", "l0i"}, 33},
		{book(t, "a", ""), book(t, "zoe", ""), []string{"a", "zoe"}, 63},
		// What is alike beside what is not.
		{book(t, "a", "1", "b", "2", "zoe", "3"), book(t, "a", "1", "b", "1", "zoe", "3"), []string{"b"}, 33},
		// Names of one path: only those that Diff returns, of both books.
		{book(t, "l0h", "1", "pt8", "2"), book(t, "l0h", "1", "pt8", "3"), []string{"pt8"}, 33},
		{book(t, "yva", "1", "pt8", "2"), book(t, "l0h", "1", "pt8", "2"), []string{"l0h", "yva"}, 33},
		{nil, shared(), unlike(nil, shared()), 33},
	} {
		if l, n, err := change.Look(c.a, c.b); !slices.Equal(l, c.want) || n != c.n || err != api.OK {
			t.Errorf("%d: %q, %d, %d", i, l, n, err)
		}
		if l, n, err := change.Look(c.b, c.a); !slices.Equal(l, c.want) || n != c.n || err != api.OK {
			t.Errorf("%d: %q, %d, %d", i, l, n, err)
		}
	}
}

// P70: the hashes decide what is examined, so that a collision hides what is different.
func TestLookCollision(t *testing.T) {
	for i, c := range []struct {
		a, b []api.Entry
		want []string
		n    int
	}{
		{book(t, "a", like), book(t, "a", alsoAlike), nil, 1},
		{nil, book(t, "a", likeNone), nil, 1},
		{book(t, "b", "1", "zoe", "2"), book(t, "a", likeNone, "b", "1", "zoe", "2"), nil, 1},
		// Beside it the search goes on.
		{book(t, "a", like, "b", "1"), book(t, "a", alsoAlike, "b", "2"), []string{"b"}, 33},
		{book(t, "a", like, "zoe", "1"), book(t, "a", alsoAlike, "zoe", "2"), []string{"zoe"}, 33},
		{book(t, "b", "1"), book(t, "a", likeNone, "b", "2"), []string{"b"}, 33},
		{book(t, "l0i", like, "l0h", "1"), book(t, "l0i", alsoAlike, "l0h", "2"), []string{"l0h"}, 33},
		// In a leaf that is different all of its names count.
		{book(t, "l0h", like, "pt8", "1"), book(t, "l0h", alsoAlike, "pt8", "2"), []string{"l0h", "pt8"}, 33},
		{book(t, "l0h", like, "pt8", "1"), book(t, "l0h", alsoAlike, "pt8", "1"), nil, 1},
	} {
		if l, n, err := change.Look(c.a, c.b); !slices.Equal(l, c.want) || n != c.n || err != api.OK {
			t.Errorf("%d: %q, %d, %d", i, l, n, err)
		}
		if l, n, err := change.Look(c.b, c.a); !slices.Equal(l, c.want) || n != c.n || err != api.OK {
			t.Errorf("%d: %q, %d, %d", i, l, n, err)
		}
	}
}

// P70: the error of the first book comes before that of the second.
func TestDiffAndLookErrors(t *testing.T) {
	check := func(a, b []api.Entry, want api.Errno) {
		t.Helper()
		if l, err := change.Diff(a, b); len(l) != 0 || err != want {
			t.Error(a, b, l, err)
		}
		if l, n, err := change.Look(a, b); len(l) != 0 || n != 0 || err != want {
			t.Error(a, b, l, n, err)
		}
	}
	for _, bad := range badBooks() {
		for _, good := range [][]api.Entry{nil, book(t, "a", "1"), full(t, "n")} {
			check(bad.l, good, bad.want)
			check(good, bad.l, bad.want)
		}
		for _, other := range badBooks() {
			check(bad.l, other.l, bad.want)
		}
	}
}

// P71: the changes one after the other, in any order and with repetitions.
func TestApply(t *testing.T) {
	l := book(t, "a", "1", "l0h", "2", "yva", "3")
	for i, c := range []struct {
		c    []api.Entry
		want []api.Entry
	}{
		{nil, l},
		{[]api.Entry{}, l},
		{[]api.Entry{{Name: "a", Value: "1"}}, l},
		{[]api.Entry{{Name: "a", Value: "x"}}, book(t, "a", "x", "l0h", "2", "yva", "3")},
		{[]api.Entry{{Name: "a"}}, book(t, "a", "", "l0h", "2", "yva", "3")},
		{[]api.Entry{{Name: "zoe", Value: longest}, {Name: "0", Value: "\xff"}, {Name: "pt8"}},
			book(t, "0", "\xff", "a", "1", "l0h", "2", "pt8", "", "yva", "3", "zoe", longest)},
		// The last value of a name stays.
		{[]api.Entry{{Name: "b", Value: "4"}, {Name: "a", Value: "0"}, {Name: "b", Value: "5"}},
			book(t, "a", "0", "b", "5", "l0h", "2", "yva", "3")},
		{[]api.Entry{{Name: "a", Value: "x"}, {Name: "a", Value: "1"}}, l},
		{slices.Repeat([]api.Entry{{Name: "a", Value: "x"}, {Name: "l0h", Value: "y"}}, 500), book(t, "a", "x", "l0h", "y", "yva", "3")},
	} {
		if got, err := change.Apply(l, c.c); !slices.Equal(got, c.want) || err != api.OK {
			t.Error(i, got, err)
		}
	}
}

// P71: the entries of a book that are different lead to it from a book with no further names.
func TestApplyDiff(t *testing.T) {
	for i, a := range books(t) {
		for j, b := range books(t) {
			both, err := change.Apply(a, b)
			if err == api.ErrFull {
				continue
			}
			var c []api.Entry
			for _, name := range unlike(a, both) {
				v, _, _ := tree.Get(both, name)
				c = append([]api.Entry{{Name: name, Value: v}}, c...)
			}
			if got, err := change.Apply(a, c); !slices.Equal(got, both) || err != api.OK {
				t.Error(i, j, got, err)
			}
			if l, err := change.Diff(b, both); len(l) != len(both)-len(b) || err != api.OK {
				t.Error(i, j, l, err)
			}
		}
	}
}

// P71: a book can be filled, and then takes other values only.
func TestApplyFull(t *testing.T) {
	l := full(t, "n")
	backwards := slices.Clone(l)
	slices.Reverse(backwards)
	if got, err := change.Apply(nil, backwards); !slices.Equal(got, l) || err != api.OK {
		t.Error(got, err)
	}
	twice := append(backwards, shared()...)
	if got, err := change.Apply(nil, twice[:25]); len(got) != 0 || err != api.ErrFull {
		t.Error(got, err)
	}
	for i := range l {
		want := slices.Clone(l)
		want[i].Value = "other"
		if got, err := change.Apply(l, []api.Entry{{Name: l[i].Name, Value: "x"}, want[i]}); !slices.Equal(got, want) || err != api.OK {
			t.Error(i, got, err)
		}
	}
}

// P71: the error of the book comes first, and then that of the first change that has one.
func TestApplyErrors(t *testing.T) {
	good := api.Entry{Name: "b", Value: "1"}
	form, large, more := api.Entry{Name: "A", Value: tooLong}, api.Entry{Name: "a", Value: tooLong}, api.Entry{Name: "zoe"}
	few, all := book(t, "a", "1"), full(t, "n")
	most, _ := tree.Drop(all, "na")
	for i, c := range []struct {
		l, c []api.Entry
		want api.Errno
	}{
		{few, []api.Entry{{}}, api.ErrForm},
		{few, []api.Entry{form}, api.ErrForm},
		{few, []api.Entry{large}, api.ErrLarge},
		{few, []api.Entry{good, form, good}, api.ErrForm},
		{few, []api.Entry{good, large, good}, api.ErrLarge},
		{few, []api.Entry{form, large}, api.ErrForm},
		{few, []api.Entry{large, form}, api.ErrLarge},
		{all, []api.Entry{more}, api.ErrFull},
		{all, []api.Entry{form}, api.ErrForm},
		{all, []api.Entry{large}, api.ErrLarge},
		{all, []api.Entry{more, form, large}, api.ErrFull},
		{all, []api.Entry{form, more, large}, api.ErrForm},
		{all, []api.Entry{all[0], large, more}, api.ErrLarge},
		{most, []api.Entry{more, good, form}, api.ErrFull},
		{most, []api.Entry{more, more, form, good}, api.ErrForm},
		{nil, []api.Entry{form}, api.ErrForm},
		{nil, make([]api.Entry, 1000), api.ErrForm},
	} {
		if got, err := change.Apply(c.l, c.c); len(got) != 0 || err != c.want {
			t.Error(i, got, err)
		}
	}
	for i, bad := range badBooks() {
		for j, c := range [][]api.Entry{nil, {good}, {form}, {large}, {more, good}} {
			if got, err := change.Apply(bad.l, c); len(got) != 0 || err != bad.want {
				t.Error(i, j, got, err)
			}
		}
	}
}
