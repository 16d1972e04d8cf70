package serve_test

import (
	"fmt"
	"math"
	"slices"
	"strings"
	"testing"

	"tallyroll/api"
	"tallyroll/clerk"
	"tallyroll/head"
	"tallyroll/mark"
	"tallyroll/proof"
	"tallyroll/serve"
	"tallyroll/tree"
)

const (
	none = 1099511628212
	// Values of one name with the same hash of their leaf.
	like      = "abcdefghijklmnopqrst"
	alsoAlike = "cfdfodilddpokdmpqrss"
	third     = "dgbaghijjiehmgpqrrru"
	// The leaf of the name a with this value has the hash of the empty preimage.
	likeNone = "pkklollonmojohgjnmok"
	// Sides with the same hash of their preimage, whatever they are combined with.
	side      = 0x0000006b00008036
	alsoASide = 0x01364300e90f0000
	// The first bytes of an encoding: the length of the preimage of the head, and this preimage.
	headEnd = 2 + 33
)

var (
	longest = strings.Repeat("v", 20)
	tooLong = strings.Repeat("v", 21)
)

// book maps each name of the list to the value that follows it.
func book(t *testing.T, l ...string) []api.Entry {
	t.Helper()
	var out []api.Entry
	for i := 0; i < len(l); i += 2 {
		next, err := tree.Set(out, l[i], l[i+1])
		if err != api.OK {
			t.Fatal(l[i], err)
		}
		out = next
	}
	return out
}

// onePath returns names of 12 bytes with the path of a.
func onePath() []string {
	l := strings.Fields("1c7t 1oly 39ay b7d4 dlay dmrm er1h evu8 f7gm f8xa g453 ii2x ivxq k48l mcfd rllg suo1 t6ag vcmw wtav wurj xz1e y32e y7v5")
	for i, end := range l {
		l[i] = "sharedpa" + end
	}
	return l
}

// crowd returns a book of n names with the path of a, whose values have size bytes together, as many in each as fit.
func crowd(t *testing.T, n, size int) []api.Entry {
	t.Helper()
	var l []string
	for _, name := range onePath()[:n] {
		value := strings.Repeat("v", min(size, 20))
		l = append(l, name, value)
		size -= len(value)
	}
	if size > 0 {
		t.Fatal(n, size)
	}
	return book(t, l...)
}

// made returns a valid reply for name from a book, with a head of a late epoch.
func made(t *testing.T, l []api.Entry, name string) api.Reply {
	t.Helper()
	p, err := proof.Make(l, name)
	if err != api.OK {
		t.Fatal(name, err)
	}
	return headed(t, p)
}

// headed returns a valid reply with the proof p.
func headed(t *testing.T, p api.Proof) api.Reply {
	t.Helper()
	root, err := proof.Root(p)
	if err != api.OK {
		t.Fatal(p, err)
	}
	return api.Reply{Head: api.Head{Epoch: 3, Root: root, Prev: 5, At: 9}, Proof: p}
}

// with returns the proof p with the side n at the index k.
func with(p api.Proof, k int, n uint64) api.Proof {
	p.Sides = slices.Clone(p.Sides)
	p.Sides[k] = n
	return p
}

// same reports whether two replies are the same, be their empty slices nil or not.
func same(r, s api.Reply) bool {
	return r.Head == s.Head && r.Proof.Name == s.Proof.Name && slices.Equal(r.Proof.Entries, s.Proof.Entries) && slices.Equal(r.Proof.Sides, s.Proof.Sides)
}

// isZero reports whether nothing is left in a reply that comes with an error.
func isZero(r api.Reply) bool { return same(r, api.Reply{}) }

// part returns s behind its length.
func part(s string) string {
	return string([]byte{byte(len(s) / 256), byte(len(s) % 256)}) + s
}

// eight returns n in eight bytes.
func eight(n uint64) string {
	var b []byte
	for k := 56; k >= 0; k -= 8 {
		b = append(b, byte(n>>k))
	}
	return string(b)
}

// headText returns the preimage of a head, valid or not.
func headText(h api.Head) string {
	return "\x03" + eight(uint64(h.Epoch)) + eight(h.Root) + eight(h.Prev) + eight(uint64(h.At))
}

// sidesText returns the numbers in eight bytes each.
func sidesText(l []uint64) string {
	out := ""
	for _, n := range l {
		out += eight(n)
	}
	return out
}

// entriesText returns the names and values behind their lengths.
func entriesText(l []api.Entry) string {
	out := ""
	for _, e := range l {
		out += part(e.Name) + part(e.Value)
	}
	return out
}

// text writes out a reply, valid or not.
func text(r api.Reply) string {
	return part(headText(r.Head)) + part(r.Proof.Name) + part(sidesText(r.Proof.Sides)) + part(entriesText(r.Proof.Entries))
}

// leaf returns the preimage of entries of one path.
func leaf(l []api.Entry) string {
	if len(l) == 0 {
		return "\x00"
	}
	return "\x01" + entriesText(l)
}

// served returns a server with books of up to five names, and the same books as maps.
func served(t *testing.T) (api.Clerk, []map[string]string) {
	t.Helper()
	steps := [][]string{{}, {"a", "1", "zoe", "2"}, {"a", "3"}, {}, {"l0h", "", "pt8", "\x00\xff", "xem", longest}, {"a", "1", "zoe", ""}}
	c, err := clerk.New(9, 9, 1)
	if err != api.OK {
		t.Fatal(err)
	}
	books := []map[string]string{{}}
	for i, l := range steps {
		if i == 0 {
			continue
		}
		next := map[string]string{}
		for name, value := range books[i-1] {
			next[name] = value
		}
		for k := 0; k < len(l); k += 2 {
			next[l[k]] = l[k+1]
			c, _, err = clerk.Ask(c, api.Ask{Name: l[k], Value: l[k+1], N: uint64(i)})
			if err != api.OK {
				t.Fatal(i, k, err)
			}
		}
		c, _, err = clerk.Tick(c)
		if err != api.OK {
			t.Fatal(i, err)
		}
		books = append(books, next)
	}
	// Whoever waits is in no book yet.
	c, _, err = clerk.Ask(c, api.Ask{Name: "later", Value: "1"})
	if err != api.OK {
		t.Fatal(err)
	}
	return c, books
}

// full returns a closed server, with as many heads as there can be.
func full(t *testing.T) api.Clerk {
	t.Helper()
	c, err := clerk.New(1, 1, 3)
	for err == api.OK && len(c.Heads) < 40 {
		if len(c.Heads) < 26 && c.Now%3 == 0 {
			c, _, err = clerk.Ask(c, api.Ask{Name: fmt.Sprintf("n%d", min(len(c.Heads), 24)), Value: fmt.Sprint(c.Now)})
		}
		if err == api.OK {
			c, _, err = clerk.Tick(c)
		}
	}
	if err != api.OK || len(c.Books[39]) != 24 {
		t.Fatal(err, len(c.Books))
	}
	return c
}

// P140: the head of each epoch, with the proof from its book.
func TestLook(t *testing.T) {
	c, books := served(t)
	for i, m := range books {
		var l []string
		for name, value := range m {
			l = append(l, name, value)
		}
		b := book(t, l...)
		for _, name := range []string{"a", "b", "zoe", "l0h", "pt8", "xem", "yva", "later", "0", "zzzzzzzzzzzz"} {
			want, _ := proof.Make(b, name)
			r, err := serve.Look(c, name, int64(i))
			if !same(r, api.Reply{Head: c.Heads[i], Proof: want}) || r.Head.Epoch != int64(i) || err != api.OK {
				t.Error(i, name, r, err)
			}
			value, is := m[name]
			if v, there, err := serve.Tell(r); v != value || there != is || err != api.OK {
				t.Error(i, name, v, there, err)
			}
		}
	}
}

// P140: a closed server still answers, for all of its epochs and a full book.
func TestLookFull(t *testing.T) {
	c := full(t)
	for epoch := range int64(40) {
		for k := 1; k <= 25; k++ {
			name := fmt.Sprintf("n%d", k)
			r, err := serve.Look(c, name, epoch)
			if r.Head != c.Heads[epoch] || r.Proof.Name != name || err != api.OK {
				t.Fatal(epoch, name, r, err)
			}
			v, is, _ := tree.Get(c.Books[epoch], name)
			if w, there, err := serve.Tell(r); w != v || there != is || err != api.OK {
				t.Error(epoch, name, w, there, err)
			}
		}
	}
}

// P140: the hash decides, so that a name can be shown by a head whose root is that of the empty book.
func TestLookLikeNone(t *testing.T) {
	c, _ := clerk.New(1, 1, 1)
	c, _, _ = clerk.Ask(c, api.Ask{Name: "a", Value: likeNone})
	c, _, _ = clerk.Tick(c)
	for epoch, want := range []string{"", likeNone} {
		r, err := serve.Look(c, "a", int64(epoch))
		if r.Head.Root != none || r.Head.Epoch != int64(epoch) || err != api.OK {
			t.Error(r, err)
		}
		if v, is, err := serve.Tell(r); v != want || is != (epoch == 1) || err != api.OK {
			t.Error(v, is, err)
		}
	}
}

// fault is what is wrong with a server, with its error.
type fault struct {
	spoil func(c *api.Clerk)
	want  api.Errno
}

// faults returns what can be wrong with the server of served.
func faults() []fault {
	return []fault{
		{func(c *api.Clerk) { *c = api.Clerk{} }, api.ErrRange},
		{func(c *api.Clerk) { c.Queue.Most = 31 }, api.ErrRange},
		{func(c *api.Clerk) { c.Queue.Wait = make([]api.Ask, 10) }, api.ErrFull},
		{func(c *api.Clerk) { c.Queue.Wait[0].Name = "A" }, api.ErrForm},
		{func(c *api.Clerk) { c.Queue.Wait[0].Value = tooLong }, api.ErrLarge},
		{func(c *api.Clerk) { c.Batch = 0 }, api.ErrRange},
		{func(c *api.Clerk) { c.Every = 1001 }, api.ErrRange},
		{func(c *api.Clerk) { c.Now = -1 }, api.ErrRange},
		{func(c *api.Clerk) { c.Heads = nil }, api.ErrNone},
		{func(c *api.Clerk) { c.Heads = make([]api.Head, 41) }, api.ErrLarge},
		{func(c *api.Clerk) { c.Heads[0].Prev = 1 }, api.ErrForm},
		{func(c *api.Clerk) { c.Heads[4].At = 1 }, api.ErrMark},
		{func(c *api.Clerk) { c.Heads, c.Books = c.Heads[1:], c.Books[1:] }, api.ErrForm},
		{func(c *api.Clerk) { c.Books = c.Books[:5] }, api.ErrForm},
		{func(c *api.Clerk) { c.Now = 4 }, api.ErrForm},
		{func(c *api.Clerk) { c.Books[5][0].Value += "x" }, api.ErrMark},
		{func(c *api.Clerk) { c.Books[0] = make([]api.Entry, 25) }, api.ErrLarge},
		{func(c *api.Clerk) { slices.Reverse(c.Books[1]) }, api.ErrForm},
		{func(c *api.Clerk) {
			c.Queue.Most = 30
			for i := range 21 {
				c.Queue.Wait = append(c.Queue.Wait, api.Ask{Name: fmt.Sprintf("more%d", i)})
			}
		}, api.ErrFull},
	}
}

// badNames returns strings that are not names.
func badNames() []string {
	return []string{"", "A", "a ", "\xff", "\u00e9", strings.Repeat("a", 13)}
}

// P140: the errors of Look, in their order: the server, the epoch, the name.
func TestLookErrors(t *testing.T) {
	check := func(c api.Clerk, name string, epoch int64, want api.Errno) {
		t.Helper()
		if r, err := serve.Look(c, name, epoch); !isZero(r) || err != want {
			t.Errorf("Look(%q, %d): %v, %d, want %d", name, epoch, r, err, want)
		}
	}
	for _, f := range faults() {
		c, _ := served(t)
		f.spoil(&c)
		for _, name := range append(badNames(), "a") {
			for _, epoch := range []int64{-1, 0, 5, 6, math.MaxInt64} {
				check(c, name, epoch, f.want)
			}
		}
	}
	c, _ := served(t)
	for _, name := range append(badNames(), "a") {
		for _, epoch := range []int64{math.MinInt64, -6, -1, 6, 7, 40, 1 << 32, math.MaxInt64} {
			check(c, name, epoch, api.ErrRange)
		}
	}
	for _, name := range badNames() {
		for epoch := range int64(6) {
			check(c, name, epoch, api.ErrForm)
		}
	}
}

// P140: the heads of a server, from any epoch to any other.
func TestHeads(t *testing.T) {
	some, _ := served(t)
	start, _ := clerk.New(1, 1, 1)
	for i, c := range []api.Clerk{some, start, full(t)} {
		n := int64(len(c.Heads))
		for from := int64(-2); from < n+2; from++ {
			for to := int64(-2); to < n+2; to++ {
				l, err := serve.Heads(c, from, to)
				if from < 0 || to >= n || from > to {
					if len(l) != 0 || err != api.ErrRange {
						t.Error(i, from, to, l, err)
					}
				} else if !slices.Equal(l, c.Heads[from:to+1]) || err != api.OK {
					t.Error(i, from, to, l, err)
				}
			}
		}
		for _, far := range []int64{math.MinInt64, -1 << 32, 1 << 32, math.MaxInt64} {
			for _, pair := range [][2]int64{{far, 0}, {0, far}, {far, far}, {far, far + 1}, {far - 1, far}} {
				if l, err := serve.Heads(c, pair[0], pair[1]); len(l) != 0 || err != api.ErrRange {
					t.Error(i, pair, l, err)
				}
			}
		}
	}
}

// P140: the errors of Heads, in their order: the whole server, also where its heads are sound, and then the epochs.
func TestHeadsErrors(t *testing.T) {
	for i, f := range faults() {
		c, _ := served(t)
		f.spoil(&c)
		for _, pair := range [][2]int64{{0, 0}, {1, 2}, {0, 5}, {2, 1}, {-1, 0}, {0, 6}} {
			if l, err := serve.Heads(c, pair[0], pair[1]); len(l) != 0 || err != f.want {
				t.Error(i, pair, l, err)
			}
		}
	}
}

// P140: what a reply shows, whatever else than the root is in its head.
func TestTell(t *testing.T) {
	l := book(t, "l0h", "1", "pt8", "", "zoe", longest)
	for _, c := range []struct {
		name, want string
		is         bool
	}{{"l0h", "1", true}, {"pt8", "", true}, {"xem", "", false}, {"zoe", longest, true}, {"a", "", false}} {
		r := made(t, l, c.name)
		for _, h := range []api.Head{{}, {At: 1000000000}, {Epoch: 1, Prev: mark.M - 1}, {Epoch: 1000000, Prev: 7, At: 8}} {
			h.Root = r.Head.Root
			if v, is, err := serve.Tell(api.Reply{Head: h, Proof: r.Proof}); v != c.want || is != c.is || err != api.OK {
				t.Error(h, c.name, v, is, err)
			}
		}
	}
}

// headFaults returns heads that are not valid, with the root of another.
func headFaults(root uint64) []struct {
	h    api.Head
	want api.Errno
} {
	return []struct {
		h    api.Head
		want api.Errno
	}{
		{api.Head{Root: root, At: -1}, api.ErrRange},
		{api.Head{Root: root, At: 1000000001}, api.ErrRange},
		{api.Head{Root: root, Epoch: -1}, api.ErrRange},
		{api.Head{Root: root, Epoch: 1000001}, api.ErrRange},
		{api.Head{Root: root, Epoch: 1, Prev: mark.M}, api.ErrRange},
		{api.Head{Root: root + mark.M, Epoch: 1}, api.ErrRange},
		{api.Head{Root: math.MaxUint64, Epoch: 1}, api.ErrRange},
		{api.Head{Root: root, Prev: 1}, api.ErrForm},
		{api.Head{Prev: 1}, api.ErrForm},
	}
}

// proofFaults returns what can be wrong with a proof for the name a.
func proofFaults() []struct {
	spoil func(p *api.Proof)
	want  api.Errno
} {
	return []struct {
		spoil func(p *api.Proof)
		want  api.Errno
	}{
		{func(p *api.Proof) { *p = api.Proof{} }, api.ErrForm},
		{func(p *api.Proof) { p.Name = "A" }, api.ErrForm},
		{func(p *api.Proof) { p.Name = "zoe" }, api.ErrForm},
		{func(p *api.Proof) { p.Entries = make([]api.Entry, 25) }, api.ErrLarge},
		{func(p *api.Proof) { p.Entries = []api.Entry{{Name: "a", Value: tooLong}} }, api.ErrLarge},
		{func(p *api.Proof) { p.Entries = []api.Entry{{Name: "a"}, {Name: "a"}} }, api.ErrForm},
		{func(p *api.Proof) { p.Sides = p.Sides[1:] }, api.ErrForm},
		{func(p *api.Proof) { p.Sides = append(p.Sides, none) }, api.ErrForm},
		{func(p *api.Proof) { p.Sides = with(*p, 3, mark.M).Sides }, api.ErrForm},
		{func(p *api.Proof) { p.Sides = with(*p, 3, none+1).Sides }, api.ErrMark},
		{func(p *api.Proof) { p.Entries = nil }, api.ErrMark},
		{func(p *api.Proof) { p.Entries = []api.Entry{{Name: "a", Value: "2"}} }, api.ErrMark},
	}
}

// badReplies returns replies that prove nothing, with their errors: faults of the head, of the proof, and of both.
func badReplies(t *testing.T) ([]api.Reply, []api.Errno) {
	t.Helper()
	ok := made(t, book(t, "a", "1"), "a")
	var l []api.Reply
	var wants []api.Errno
	add := func(r api.Reply, want api.Errno) { l, wants = append(l, r), append(wants, want) }
	for _, g := range proofFaults() {
		r := ok
		r.Proof = api.Proof{Name: "a", Entries: slices.Clone(ok.Proof.Entries), Sides: slices.Clone(ok.Proof.Sides)}
		g.spoil(&r.Proof)
		add(r, g.want)
		for _, f := range headFaults(ok.Head.Root) {
			add(api.Reply{Head: f.h, Proof: r.Proof}, f.want)
		}
	}
	for _, f := range headFaults(ok.Head.Root) {
		add(api.Reply{Head: f.h, Proof: ok.Proof}, f.want)
	}
	for _, root := range []uint64{0, 1, none, ok.Head.Root + 1, ok.Head.Root ^ 1<<60} {
		r := ok
		r.Head.Root = root
		add(r, api.ErrMark)
	}
	// What is wrong with the proof, or with its root, comes before an encoding that is too long.
	long := made(t, crowd(t, 20, 400), "a")
	long.Head.Root++
	add(long, api.ErrMark)
	long.Proof.Name = "zoe"
	add(long, api.ErrForm)
	long.Head.At = -1
	add(long, api.ErrRange)
	return l, wants
}

// P140: the errors of Tell, in their order; P141: the errors of Tell come first in Said.
func TestTellErrors(t *testing.T) {
	l, wants := badReplies(t)
	for i, r := range l {
		if v, is, err := serve.Tell(r); v != "" || is || err != wants[i] {
			t.Error(i, v, is, err, wants[i])
		}
		if s, err := serve.Said(r); s != "" || err != wants[i] {
			t.Errorf("%d: %q, %d, want %d", i, s, err, wants[i])
		}
	}
}

// replies returns valid replies whose encodings are short enough.
func replies(t *testing.T) []api.Reply {
	t.Helper()
	l := book(t, "l0h", "1", "pt8", "", "l0i", "\x00\xff\x80", "zoe", longest)
	out := []api.Reply{
		made(t, nil, "a"),
		made(t, l, "l0h"), made(t, l, "pt8"), made(t, l, "xem"), made(t, l, "l0i"), made(t, l, "zoe"), made(t, l, "b"), made(t, l, "zzzzzzzzzzzz"),
		made(t, book(t, "a", likeNone), "a"),
		made(t, crowd(t, 24, 0), "a"),
		made(t, crowd(t, 24, 0), onePath()[7]),
		made(t, crowd(t, 12, 238), "a"),
		made(t, crowd(t, 12, 227), onePath()[0]),
	}
	// No book has these sides, but they are right.
	for _, n := range []uint64{0, 1, 0xff00ff00ff00ff, mark.M - 1} {
		out = append(out, headed(t, api.Proof{Name: "a", Sides: slices.Repeat([]uint64{n}, 16)}))
	}
	r := made(t, l, "pt8")
	for k := range r.Proof.Sides {
		r.Proof.Sides[k] = uint64(k)<<56 + 0x0102030405060708*uint64(k)
	}
	out = append(out, headed(t, r.Proof))
	for _, h := range []api.Head{{}, {At: 1000000000}, {Epoch: 1}, {Epoch: 1000000, Prev: mark.M - 1, At: 1000000000}, {Epoch: 0x10203, Prev: 0x0405060708090a0b, At: 0x0c0d0e0f}} {
		h.Root = r.Head.Root
		x := made(t, l, "pt8")
		x.Head = h
		out = append(out, x)
	}
	return out
}

// P141: the encoding of a reply, and the reply of an encoding.
func TestSaidAndRead(t *testing.T) {
	for i, r := range replies(t) {
		want := text(r)
		s, err := serve.Said(r)
		if s != want || err != api.OK {
			t.Errorf("%d: %q, %q, %d", i, s, want, err)
		}
		if x, err := serve.Read(want); !same(x, r) || err != api.OK {
			t.Errorf("%d: %v, %d", i, x, err)
		}
	}
	// Written out by hand.
	r := api.Reply{Head: api.Head{Root: none}, Proof: api.Proof{Name: "a", Sides: slices.Repeat([]uint64{none}, 16)}}
	const eightNone = "\x00\x00\x01\x00\x00\x00\x01\xb4"
	want := "\x00\x21\x03" + strings.Repeat("\x00", 8) + eightNone + strings.Repeat("\x00", 16) + "\x00\x01a\x00\x80" + strings.Repeat(eightNone, 16) + "\x00\x00"
	if s, err := serve.Said(r); s != want || err != api.OK {
		t.Errorf("%q, %q, %d", s, want, err)
	}
	if x, err := serve.Read(want); !same(x, r) || err != api.OK {
		t.Error(x, err)
	}
}

// P141: an encoding of up to 600 bytes; more of them are too many, in the entries alone or in the whole.
func TestSaidLength(t *testing.T) {
	for _, c := range []struct {
		name    string
		n, size int
		length  int
	}{
		{"a", 12, 237, 599},
		{"a", 12, 238, 600},
		{"a", 12, 239, 601},
		{"sharedpa1c7t", 12, 226, 599},
		{"sharedpa1c7t", 12, 227, 600},
		{"sharedpa1c7t", 12, 228, 601},
		{"a", 24, 46, 600},
		{"a", 24, 47, 601},
		// The entries alone fit, exactly, and do not fit.
		{"a", 17, 328, 770},
		{"a", 17, 329, 771},
		{"a", 24, 480, 1034},
	} {
		r := made(t, crowd(t, c.n, c.size), c.name)
		if length := len(text(r)); length != c.length {
			t.Fatal(c, length)
		}
		s, err := serve.Said(r)
		if c.length > 600 {
			if s != "" || err != api.ErrLarge {
				t.Errorf("%v: %q, %d", c, s, err)
			}
			if x, err := serve.Read(text(r)); !isZero(x) || err != api.ErrForm {
				t.Error(c, x, err)
			}
			continue
		}
		if s != text(r) || err != api.OK {
			t.Errorf("%v: %q, %d", c, s, err)
		}
		if x, err := serve.Read(s); !same(x, r) || err != api.OK {
			t.Error(c, x, err)
		}
	}
}

// refused requires that s is not the encoding of a reply.
func refused(t *testing.T, what string, s string) {
	t.Helper()
	if r, err := serve.Read(s); !isZero(r) || err != api.ErrForm {
		t.Errorf("%s: Read(%q): %v, %d", what, s, r, err)
	}
}

// P141: what is no encoding at all, and what does not begin or end as one.
func TestReadForm(t *testing.T) {
	for _, s := range []string{"", "a", "\x00", "\x00\x00", "\x00\x00\x00\x00\x00\x00\x00\x00", "\xff\xff", strings.Repeat("\x00", 600), strings.Repeat("\x00", 601), strings.Repeat("\xff", 70000)} {
		refused(t, "odd", s)
	}
	for i, r := range replies(t) {
		s := text(r)
		for k := range s {
			refused(t, fmt.Sprint(i, " begin"), s[:k])
			refused(t, fmt.Sprint(i, " end"), s[k+1:])
		}
		for _, more := range []string{"\x00", "\x00\x00", "a", "\x00\x01a", s} {
			refused(t, fmt.Sprint(i, " more"), s+more)
			refused(t, fmt.Sprint(i, " before"), more+s)
		}
	}
}

// P141: parts that are missing, too many, in another order, or not what they should be.
func TestReadParts(t *testing.T) {
	r := made(t, book(t, "l0h", "1", "pt8", "2", "zoe", "3"), "pt8")
	ok := []string{headText(r.Head), "pt8", sidesText(r.Proof.Sides), entriesText(r.Proof.Entries)}
	join := func(l []string) string {
		out := ""
		for _, s := range l {
			out += part(s)
		}
		return out
	}
	if x, err := serve.Read(join(ok)); !same(x, r) || err != api.OK {
		t.Fatal(x, err)
	}
	for k := range ok {
		refused(t, fmt.Sprint("without ", k), join(slices.Delete(slices.Clone(ok), k, k+1)))
		refused(t, fmt.Sprint("empty ", k), join(slices.Replace(slices.Clone(ok), k, k+1, "")))
		for _, more := range []string{"", "a", ok[k]} {
			refused(t, fmt.Sprint("more ", k), join(slices.Insert(slices.Clone(ok), k, more)))
		}
		for j := range k {
			l := slices.Clone(ok)
			l[j], l[k] = l[k], l[j]
			refused(t, fmt.Sprint("swapped ", j, k), join(l))
		}
		for _, c := range []string{"\x00", "\xff", "a"} {
			refused(t, fmt.Sprint("longer ", k), join(slices.Replace(slices.Clone(ok), k, k+1, ok[k]+c)))
			refused(t, fmt.Sprint("longer before ", k), join(slices.Replace(slices.Clone(ok), k, k+1, c+ok[k])))
		}
		if k != 1 {
			refused(t, fmt.Sprint("shorter ", k), join(slices.Replace(slices.Clone(ok), k, k+1, ok[k][1:])))
			refused(t, fmt.Sprint("shorter ", k), join(slices.Replace(slices.Clone(ok), k, k+1, ok[k][:len(ok[k])-1])))
		}
	}
	refused(t, "five", join(append(ok, "")))
}

// P141: entries and sides that are written well, but of which no reply consists.
func TestReadProof(t *testing.T) {
	r := made(t, book(t, "l0h", "1", "pt8", "2", "zoe", "3"), "pt8")
	for i, sides := range [][]uint64{nil, r.Proof.Sides[:15], append(slices.Clone(r.Proof.Sides), none), slices.Repeat(r.Proof.Sides, 2)} {
		x := r
		x.Proof.Sides = sides
		refused(t, fmt.Sprint("sides ", i), text(x))
	}
	// The sides end in the middle of a number.
	for k := 1; k < 8; k++ {
		x := sidesText(r.Proof.Sides)
		for _, s := range []string{x[:len(x)-k], x + x[:k]} {
			refused(t, fmt.Sprint("sides ", k), part(headText(r.Head))+part("pt8")+part(s)+part(entriesText(r.Proof.Entries)))
		}
	}
	// A name without a value, and parts that are cut off.
	for i, s := range []string{part("l0h"), part("l0h") + part("1") + part("pt8"), part("l0h") + part("1") + "\x00", part("l0h") + part("1") + "\x00\x03pt", part("l0h") + part("1") + part("pt8") + part("2") + part("")} {
		refused(t, fmt.Sprint("entries ", i), part(headText(r.Head))+part("pt8")+part(sidesText(r.Proof.Sides))+part(s))
	}
	// Without entries the rest is right, and so what is written in their place counts.
	absent := made(t, nil, "a")
	before := part(headText(absent.Head)) + part("a") + part(sidesText(absent.Proof.Sides))
	if x, err := serve.Read(before + part("")); !same(x, absent) || err != api.OK {
		t.Error(x, err)
	}
	for i, s := range []string{"\x00", "a", part(""), part("a"), part("") + part(""), part("b") + part("1"), "\xff\xff", "\x00\x02a", strings.Repeat("\x00\x00", 61), strings.Repeat("\x00\x00", 62)} {
		refused(t, fmt.Sprint("no entries ", i), before+part(s))
	}
}

// P141: what proves nothing has no encoding, whether its form or only its root is wrong.
func TestReadNothing(t *testing.T) {
	l, _ := badReplies(t)
	for i, r := range l {
		if len(r.Proof.Name) < 256 {
			refused(t, fmt.Sprint(i), text(r))
		}
	}
	for _, h := range []api.Head{{Epoch: math.MinInt64}, {Epoch: 1 << 62}, {At: math.MinInt64}, {At: math.MaxInt64}} {
		r := made(t, nil, "a")
		h.Root = r.Head.Root
		r.Head = h
		refused(t, fmt.Sprint(h), text(r))
	}
	r := made(t, nil, "a")
	for k := range 256 {
		if k != 3 {
			s := []byte(text(r))
			s[2] = byte(k)
			refused(t, fmt.Sprint("kind ", k), string(s))
		}
	}
}

// P141: a head that cannot be read is none, also where a root of 0 would do.
func TestReadNoHead(t *testing.T) {
	r := headed(t, with(made(t, nil, "a").Proof, 15, 0x15a29f2b95cdfd85))
	if r.Head.Root != 0 {
		t.Fatal(r)
	}
	r.Head = api.Head{}
	s := text(r)
	if x, err := serve.Read(s); !same(x, r) || err != api.OK {
		t.Error(x, err)
	}
	rest := s[headEnd:]
	for _, h := range []string{"", "\x03", "\x00" + s[3:headEnd], s[2:headEnd] + "\x00", s[3:headEnd], "\x03\xff" + s[4:headEnd], s[2:headEnd-9] + "\x01" + s[headEnd-8:headEnd]} {
		refused(t, fmt.Sprintf("%q", h), part(h)+rest)
	}
}

// changed returns the reply of an encoding of r in which the byte at k was changed, if it may be a reply at all.
func changed(r api.Reply, s string, k int) (api.Reply, bool) {
	var err api.Errno
	switch nameEnd := headEnd + 2 + len(r.Proof.Name); {
	case 2 <= k && k < headEnd:
		r.Head, err = head.Read(s[2:headEnd])
	case headEnd+2 <= k && k < nameEnd:
		// A name that is not there can be another one that is not there either.
		r.Proof.Name = s[headEnd+2 : nameEnd]
	default:
		return api.Reply{}, false
	}
	if err == api.OK {
		_, _, err = proof.Tell(r.Head.Root, r.Proof)
	}
	return r, err == api.OK
}

// P141: with one byte changed, an encoding is none, or that of a reply with another head or another name that is not there.
func TestReadChanged(t *testing.T) {
	l := book(t, "l0h", "1", "pt8", "2", "zoe", "3")
	for i, r := range []api.Reply{made(t, nil, "a"), made(t, l, "pt8"), made(t, l, "b"), made(t, book(t, "a", longest, "b", ""), "a")} {
		s := text(r)
		for k := range s {
			for c := range 256 {
				x := s[:k] + string([]byte{byte(c)}) + s[k+1:]
				want, is := changed(r, x, k)
				if x == s {
					want, is = r, true
				}
				if !is {
					refused(t, fmt.Sprint(i, k, c), x)
				} else if got, err := serve.Read(x); !same(got, want) || err != api.OK {
					t.Error(i, k, c, got, err)
				}
			}
		}
	}
}

// expect requires that two replies, in both orders, yield the collision of s and u.
func expect(t *testing.T, r, x api.Reply, s, u string) {
	t.Helper()
	if !mark.Alike(s, u) {
		t.Fatalf("no collision: %q, %q", s, u)
	}
	if a, b, err := serve.Against(r, x); a != s || b != u || err != api.OK {
		t.Errorf("%q, %q, %d", a, b, err)
	}
	if a, b, err := serve.Against(x, r); a != u || b != s || err != api.OK {
		t.Errorf("%q, %q, %d", a, b, err)
	}
}

// P142: replies of different values, or of a value and of none, collide in their leaves.
func TestAgainst(t *testing.T) {
	r := made(t, book(t, "a", like, "b", "1", "zoe", "2"), "a")
	x := made(t, book(t, "a", alsoAlike, "b", "1", "zoe", "2"), "a")
	y := made(t, book(t, "a", third, "b", "1", "zoe", "2"), "a")
	for _, c := range [][2]api.Reply{{r, x}, {r, y}, {x, y}} {
		expect(t, c[0], c[1], leaf(c[0].Proof.Entries), leaf(c[1].Proof.Entries))
	}
	expect(t, r, x, "\x01\x00\x01a\x00\x14"+like, "\x01\x00\x01a\x00\x14"+alsoAlike)
	expect(t, made(t, nil, "a"), made(t, book(t, "a", likeNone), "a"), "\x00", "\x01\x00\x01a\x00\x14"+likeNone)
	l := book(t, "l0h", "1", "zoe", "2")
	absent := made(t, l, "a")
	there := made(t, book(t, "a", likeNone, "l0h", "1", "zoe", "2"), "a")
	expect(t, absent, there, "\x00", leaf(there.Proof.Entries))
	// Any head will do, if both have it.
	for _, h := range []api.Head{{}, {Epoch: 1000000, Prev: mark.M - 1, At: 1000000000}} {
		h.Root = r.Head.Root
		expect(t, api.Reply{Head: h, Proof: r.Proof}, api.Reply{Head: h, Proof: x.Proof}, leaf(r.Proof.Entries), leaf(x.Proof.Entries))
	}
}

// P142: the collision is the one of clash.Proofs, above the leaves if the sides collide there.
func TestAgainstSides(t *testing.T) {
	absent := made(t, nil, "a").Proof
	one := made(t, book(t, "a", "1"), "a").Proof
	two := made(t, book(t, "a", "2"), "a").Proof
	r := made(t, book(t, "a", like), "a").Proof
	x := made(t, book(t, "a", alsoAlike), "a").Proof
	for _, c := range []struct {
		p, q api.Proof
		at   int
	}{
		{with(one, 3, 0x0098000022b6ffe3), with(two, 3, 0x1f004ea500000000), 4},
		{with(one, 15, 0x00000000f4780012), with(two, 15, 0x1566db9700001b00), 16},
		{with(absent, 0, 0x005b0000f1006df0), with(one, 0, 0x0a00d7ec007f0000), 1},
		{with(absent, 8, 0x00000000ca45a97b), with(one, 8, 0x0f12cfe900000000), 9},
		{with(r, 0, side), with(x, 0, alsoASide), 1},
		{with(r, 7, side), with(x, 7, alsoASide), 8},
		{with(with(r, 7, side), 15, alsoASide), with(with(x, 7, alsoASide), 15, side), 16},
		{with(r, 7, side), with(x, 7, side), 0},
	} {
		a, _ := proof.Said(c.p)
		b, _ := proof.Said(c.q)
		expect(t, headed(t, c.p), headed(t, c.q), a[c.at], b[c.at])
	}
}

// P142: an empty value is neither the same as none nor as another.
func TestAgainstEmpty(t *testing.T) {
	absent := made(t, nil, "a").Proof
	empty := made(t, book(t, "a", ""), "a").Proof
	one := made(t, book(t, "a", "1"), "a").Proof
	for _, c := range []struct {
		p, q api.Proof
		k    int
		m, n uint64
	}{
		{absent, empty, 1, 0x0f460067, 0x018e3e1700003c00},
		{absent, empty, 3, 0x122904000096, 0x0238000000b00900},
		{absent, empty, 15, 0xd8000048f8, 0x060e08001f280000},
		{empty, one, 1, 0x1200000065670000, 0x00203dac000020c8},
		{empty, one, 15, 0x00b300000075006d, 0x0300717c9a000f00},
	} {
		p, q := with(c.p, c.k, c.m), with(c.q, c.k, c.n)
		a, _ := proof.Said(p)
		b, _ := proof.Said(q)
		expect(t, headed(t, p), headed(t, q), a[c.k+1], b[c.k+1])
	}
}

// P142: replies that say the same do not contradict each other, however different their proofs are.
func TestAgainstThere(t *testing.T) {
	check := func(r, s api.Reply) {
		t.Helper()
		for _, c := range [][2]api.Reply{{r, s}, {s, r}, {r, r}} {
			if a, b, err := serve.Against(c[0], c[1]); a != "" || b != "" || err != api.ErrThere {
				t.Errorf("%v, %v: %q, %q, %d", c[0], c[1], a, b, err)
			}
		}
	}
	for _, r := range replies(t) {
		check(r, r)
	}
	// Their proofs collide all the same.
	check(made(t, book(t, "l0h", like, "pt8", "1"), "pt8"), made(t, book(t, "l0h", alsoAlike, "pt8", "1"), "pt8"))
	check(made(t, book(t, "l0h", like), "pt8"), made(t, book(t, "l0h", third), "pt8"))
	for _, l := range [][]api.Entry{nil, book(t, "a", ""), book(t, "a", "1")} {
		p := made(t, l, "a").Proof
		for k := range 16 {
			check(headed(t, with(p, k, side)), headed(t, with(p, k, alsoASide)))
		}
	}
}

// P142: the errors, in their order.
func TestAgainstErrors(t *testing.T) {
	l := book(t, "a", like, "l0h", "1", "zoe", "2")
	r := made(t, l, "a")
	against := made(t, book(t, "a", alsoAlike, "l0h", "1", "zoe", "2"), "a")
	check := func(i int, a, b api.Reply, want api.Errno) {
		t.Helper()
		if s, u, err := serve.Against(a, b); s != "" || u != "" || err != want {
			t.Errorf("%d: %q, %q, %d, want %d", i, s, u, err, want)
		}
	}
	bad, wants := badReplies(t)
	for i, x := range bad {
		// Other names, other heads and the same results come later, and so does a collision.
		for _, y := range []api.Reply{r, against, made(t, l, "zoe"), made(t, nil, "a")} {
			check(i, x, y, wants[i])
			check(i, y, x, wants[i])
		}
		for k, y := range bad {
			check(i, x, y, wants[i])
			check(k, y, x, wants[k])
		}
	}
	// The names differ: with one path and one proof, with the same results or others.
	check(0, r, made(t, l, "zoe"), api.ErrForm)
	check(1, made(t, nil, "l0h"), made(t, nil, "pt8"), api.ErrForm)
	check(2, made(t, l, "l0h"), made(t, l, "pt8"), api.ErrForm)
	check(3, made(t, book(t, "l0h", "1", "pt8", "1"), "l0h"), made(t, book(t, "l0h", "1", "pt8", "1"), "pt8"), api.ErrForm)
	check(4, made(t, book(t, "l0h", like), "l0h"), made(t, book(t, "l0h", alsoAlike), "pt8"), api.ErrForm)
	// The heads differ: in one number, with the same results or others.
	for i, spoil := range []func(h *api.Head){func(h *api.Head) { h.Epoch++ }, func(h *api.Head) { h.Prev++ }, func(h *api.Head) { h.At++ }} {
		for _, x := range []api.Reply{r, against} {
			spoil(&x.Head)
			check(i, r, x, api.ErrForm)
			check(i, x, r, api.ErrForm)
		}
	}
	check(5, r, made(t, book(t, "a", "1"), "a"), api.ErrForm)
	check(6, r, made(t, book(t, "a", like), "a"), api.ErrForm)
	check(7, r, r, api.ErrThere)
}

// P142: replies of one honest server contradict each other nowhere.
func TestAgainstHonest(t *testing.T) {
	c, books := served(t)
	var l []api.Reply
	for epoch := range books {
		for _, name := range []string{"a", "zoe", "l0h", "b"} {
			r, err := serve.Look(c, name, int64(epoch))
			if err != api.OK {
				t.Fatal(epoch, name, err)
			}
			l = append(l, r)
		}
	}
	for i, r := range l {
		for k, x := range l {
			want := api.ErrForm
			if i == k {
				want = api.ErrThere
			}
			if s, u, err := serve.Against(r, x); s != "" || u != "" || err != want {
				t.Errorf("%d, %d: %q, %q, %d", i, k, s, u, err)
			}
		}
	}
}
