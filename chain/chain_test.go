package chain_test

import (
	"math"
	"math/big"
	"slices"
	"testing"

	"tallyroll/api"
	"tallyroll/chain"
)

const m = 1<<61 - 1

// Two roots that, in the same place of a preimage, lead to the same hash; so do two Prevs.
const (
	twin  = 0x0007530000000000
	other = 0x1c00000f402d2275
)

// said writes out the preimage of a head.
func said(h api.Head) string {
	b := []byte{3}
	for _, n := range []uint64{uint64(h.Epoch), h.Root, h.Prev, uint64(h.At)} {
		for i := 56; i >= 0; i -= 8 {
			b = append(b, byte(n>>i))
		}
	}
	return string(b)
}

// slow computes the hash of s with numbers of any size, as chapter 2 describes it.
func slow(s string) uint64 {
	h := big.NewInt(1)
	for i := range len(s) {
		h.Mul(h, big.NewInt(1099511628211))
		h.Add(h, big.NewInt(int64(s[i])+1))
		h.Mod(h, big.NewInt(m))
	}
	return h.Uint64()
}

// behind builds a chain from its first head and the roots of the others, without the program; each is two later than the one before.
func behind(first api.Head, roots ...uint64) []api.Head {
	l := []api.Head{first}
	for _, root := range roots {
		h := l[len(l)-1]
		l = append(l, api.Head{Epoch: h.Epoch + 1, Root: root, Prev: slow(said(h)), At: h.At + 2})
	}
	return l
}

// of builds a chain from the roots of its heads.
func of(roots ...uint64) []api.Head {
	return behind(api.Head{Root: roots[0]}, roots[1:]...)
}

// long builds a chain of n heads.
func long(n int) []api.Head {
	l := make([]uint64, n)
	for i := range l {
		l[i] = uint64(i * i)
	}
	return of(l...)
}

// good returns chains that are valid.
func good() [][]api.Head {
	return [][]api.Head{
		of(0), of(5), of(1, 2), of(1, 1, 1), of(m-1, 0, m-1), long(39), long(40),
		long(40)[39:], long(40)[20:], long(41)[1:], long(90)[50:],
		behind(api.Head{Epoch: 1}, 4), behind(api.Head{Epoch: 7, Root: 8, Prev: m - 1, At: 999999998}, 9),
		behind(api.Head{Epoch: 999999, Prev: 3, At: 6}, 5), {{Epoch: 1000000, At: 1000000000}},
		behind(api.Head{Epoch: 1000000 - 39, Prev: 3}, make([]uint64, 39)...),
	}
}

// changed returns a copy of l in which the head at i is another.
func changed(l []api.Head, i int, change func(h *api.Head)) []api.Head {
	l = slices.Clone(l)
	change(&l[i])
	return l
}

// wrong is a list of heads that is no chain, with its error and the index.
type wrong struct {
	l    []api.Head
	want api.Errno
	at   int
}

// faulty returns lists with a head that is not valid, or with too many or too few.
func faulty() []wrong {
	early := func(h *api.Head) { h.At = -1 }
	late := func(h *api.Head) { h.At = 1000000001 }
	far := func(h *api.Head) { h.Epoch = 1000001 }
	below := func(h *api.Head) { h.Epoch = -1 }
	root := func(h *api.Head) { h.Root = m }
	prev := func(h *api.Head) { h.Prev = m }
	orphan := func(h *api.Head) { h.Epoch, h.Prev = 0, 1 }
	l := []wrong{
		{nil, api.ErrNone, 0}, {[]api.Head{}, api.ErrNone, 0},
		{long(41), api.ErrLarge, 0}, {long(60), api.ErrLarge, 0}, {make([]api.Head, 70000), api.ErrLarge, 0},
		{changed(long(41), 3, root), api.ErrLarge, 0}, {changed(long(41), 0, orphan), api.ErrLarge, 0},
	}
	for _, i := range []int{0, 1, 3, 4} {
		for _, change := range []func(h *api.Head){early, late, far, below, root, prev} {
			l = append(l, wrong{changed(long(5), i, change), api.ErrRange, i})
		}
		l = append(l, wrong{changed(long(5), i, orphan), api.ErrForm, i})
	}
	return append(l,
		wrong{changed(long(40), 39, root), api.ErrRange, 39},
		wrong{changed(changed(long(5), 2, root), 1, orphan), api.ErrForm, 1},
		wrong{changed(changed(long(5), 1, root), 2, orphan), api.ErrRange, 1},
		// A head that is not valid comes before one that does not follow, wherever they are.
		wrong{changed([]api.Head{{}, {}, {}, {}}, 3, orphan), api.ErrForm, 3},
		wrong{changed(changed(long(9), 1, func(h *api.Head) { h.Prev++ }), 8, early), api.ErrRange, 8},
	)
}

// apart returns lists of valid heads that do not follow each other.
func apart() []wrong {
	l := []wrong{
		{[]api.Head{{}, {}}, api.ErrMark, 1},
		{append(long(4), long(4)...), api.ErrMark, 4},
		{append(long(4), long(6)[5]), api.ErrMark, 4},
		{slices.Delete(long(6), 2, 3), api.ErrMark, 2},
		{[]api.Head{long(3)[0], long(3)[2], long(3)[1]}, api.ErrMark, 1},
		{[]api.Head{long(2)[1], long(2)[0]}, api.ErrMark, 1},
		// No head is behind that of the last epoch.
		{[]api.Head{{Epoch: 1000000}, {Epoch: 1000000}}, api.ErrMark, 1},
		{[]api.Head{{Epoch: 1000000}, {}}, api.ErrMark, 1},
		// The time does not go back, though the rest is right.
		{[]api.Head{{At: 5}, {Epoch: 1, Prev: slow(said(api.Head{At: 5})), At: 4}}, api.ErrMark, 1},
	}
	for _, i := range []int{1, 3, 39} {
		for _, change := range []func(h *api.Head){
			func(h *api.Head) { h.Prev++ },
			func(h *api.Head) { h.Prev = 0 },
			func(h *api.Head) { h.Epoch++ },
			func(h *api.Head) { h.Epoch-- },
			func(h *api.Head) { h.At -= 3 },
		} {
			x := changed(long(40), i, change)
			if x[i].Epoch == 0 {
				x[i].Prev = 0
			}
			if x[i].At >= 0 {
				l = append(l, wrong{x, api.ErrMark, i})
			}
		}
	}
	// What changes the hash of a head shows in the next one.
	for _, i := range []int{0, 2, 38} {
		l = append(l, wrong{changed(long(40), i, func(h *api.Head) { h.Root++ }), api.ErrMark, i + 1}, wrong{changed(long(40), i, func(h *api.Head) { h.At++ }), api.ErrMark, i + 1})
	}
	return l
}

// P100: chains with any first epoch, up to the most heads and the last epoch.
func TestCheck(t *testing.T) {
	for i, l := range good() {
		if err, at := chain.Check(l); err != api.OK || at != 0 {
			t.Error(i, err, at)
		}
	}
	// The root and the time of the last head are its own, and a time may stay.
	l := changed(changed(long(4), 3, func(h *api.Head) { h.Root = 77 }), 3, func(h *api.Head) { h.At = 4 })
	if err, at := chain.Check(l); err != api.OK || at != 0 {
		t.Error(err, at)
	}
	// A head with the same hash as the right one is followed as well.
	l = changed(of(1, twin, 3), 1, func(h *api.Head) { h.Root = other })
	if err, at := chain.Check(l); err != api.OK || at != 0 {
		t.Error(err, at)
	}
}

// checkRefused tests that every function with a chain as its argument returns the error of Check, before any of its own.
func checkRefused(t *testing.T, c wrong) {
	t.Helper()
	if err, at := chain.Check(c.l); err != c.want || at != c.at {
		t.Error("Check", err, at, "want", c.want, c.at)
	}
	for _, root := range []uint64{1, m} {
		if l, err := chain.Grow(c.l, root, 900); len(l) != 0 || err != c.want {
			t.Error("Grow", l, err, "want", c.want)
		}
	}
	for _, x := range [][2]int64{{0, 0}, {0, 2}, {2, 1}, {-1, 5}, {0, math.MaxInt64}} {
		if l, err := chain.Part(c.l, x[0], x[1]); len(l) != 0 || err != c.want {
			t.Error("Part", l, err, "want", c.want)
		}
	}
	for _, h := range []api.Head{{}, {At: -1}, {Prev: 1}} {
		if is, err := chain.Follows(h, c.l); is || err != c.want {
			t.Error("Follows", is, err, "want", c.want)
		}
	}
	for _, l := range [][]api.Head{long(4), long(40)[30:], {{Epoch: 999999}}} {
		checkPair(t, c.l, l, c.want)
		checkPair(t, l, c.l, c.want)
	}
	checkPair(t, c.l, c.l, c.want)
}

// checkPair tests that Fork and Clash return an error.
func checkPair(t *testing.T, a, b []api.Head, want api.Errno) {
	t.Helper()
	if n, err := chain.Fork(a, b); n != 0 || err != want {
		t.Error("Fork", n, err, "want", want)
	}
	if x, y, err := chain.Clash(a, b); x != "" || y != "" || err != want {
		t.Error("Clash", x, y, err, "want", want)
	}
}

// P100: no heads, too many, or one that is not valid.
func TestFaulty(t *testing.T) {
	for _, c := range faulty() {
		checkRefused(t, c)
	}
}

// P100: a head that is not the successor of the one before it.
func TestApart(t *testing.T) {
	for _, c := range apart() {
		checkRefused(t, c)
	}
}

// P100: the error of the first chain comes before that of the second.
func TestBothWrong(t *testing.T) {
	lists := append(faulty(), apart()...)
	for _, a := range lists {
		for _, b := range lists {
			checkPair(t, a.l, b.l, a.want)
		}
	}
}

// P100: the successor of the last head is appended, with its root and time.
func TestGrow(t *testing.T) {
	for i, l := range good() {
		end := l[len(l)-1]
		if len(l) == 40 || end.Epoch == 1000000 {
			continue
		}
		for _, root := range []uint64{0, 1, m - 1} {
			for _, at := range []int64{end.At, end.At + 1, 1000000000} {
				if at > 1000000000 {
					continue
				}
				want := append(slices.Clone(l), api.Head{Epoch: end.Epoch + 1, Root: root, Prev: slow(said(end)), At: at})
				got, err := chain.Grow(l, root, at)
				if !slices.Equal(got, want) || err != api.OK {
					t.Error(i, root, at, got, err)
				}
				if err, _ := chain.Check(got); err != api.OK {
					t.Error(i, root, at, err)
				}
			}
		}
	}
}

// P100: a full chain, then what head.Next refuses.
func TestGrowErrors(t *testing.T) {
	l := long(4)
	for i, c := range []struct {
		l    []api.Head
		root uint64
		at   int64
		want api.Errno
	}{
		{long(40), 1, 900, api.ErrFull},
		{long(40), m, -1, api.ErrFull},
		{long(90)[50:], m, 900, api.ErrFull},
		{behind(api.Head{Epoch: 1000000 - 39, Prev: 3}, make([]uint64, 39)...), m, 0, api.ErrFull},
		{[]api.Head{{Epoch: 1000000}}, 1, 900, api.ErrFull},
		{[]api.Head{{Epoch: 1000000}}, m, -1, api.ErrFull},
		{l, m, 900, api.ErrRange},
		{l, math.MaxUint64, 900, api.ErrRange},
		{l, 1, 5, api.ErrRange},
		{l, 1, -1, api.ErrRange},
		{l, 1, 1000000001, api.ErrRange},
		{l, 1, math.MaxInt64, api.ErrRange},
		{l, 1, math.MinInt64, api.ErrRange},
		{long(39), m, 900, api.ErrRange},
	} {
		if got, err := chain.Grow(c.l, c.root, c.at); len(got) != 0 || err != c.want {
			t.Error(i, got, err)
		}
	}
}

// P100: a chain grows to the most heads, and no further.
func TestGrowAll(t *testing.T) {
	want := long(40)
	l := want[:1:1]
	for _, h := range want[1:] {
		next, err := chain.Grow(l, h.Root, h.At)
		if err != api.OK {
			t.Fatal(h, err)
		}
		l = next
	}
	if !slices.Equal(l, want) {
		t.Error(l)
	}
	if got, err := chain.Grow(l, 1, 900); len(got) != 0 || err != api.ErrFull {
		t.Error(got, err)
	}
}

// P101: the heads from one epoch to another, or ErrRange, for all pairs of epochs in the chain and around it.
func TestPart(t *testing.T) {
	for i, l := range good() {
		first, end := l[0].Epoch, l[len(l)-1].Epoch
		for from := first - 2; from <= end+2; from++ {
			for to := first - 2; to <= end+2; to++ {
				var want []api.Head
				fault := api.ErrRange
				if first <= from && from <= to && to <= end {
					fault = api.OK
					for _, h := range l {
						if from <= h.Epoch && h.Epoch <= to {
							want = append(want, h)
						}
					}
				}
				if got, err := chain.Part(l, from, to); !slices.Equal(got, want) || err != fault {
					t.Error(i, from, to, got, err)
				}
			}
		}
	}
}

// P101: epochs far away.
func TestPartRange(t *testing.T) {
	for i, l := range good() {
		first, end := l[0].Epoch, l[len(l)-1].Epoch
		for _, far := range []int64{math.MinInt64, math.MinInt64 + 1, -1 << 32, first - 1<<32, end + 1<<32, first - 256, end + 256, math.MaxInt64 - 1, math.MaxInt64} {
			for _, near := range []int64{first, end, far} {
				a, err := chain.Part(l, far, near)
				b, fault := chain.Part(l, near, far)
				if len(a) != 0 || len(b) != 0 || err != api.ErrRange || fault != api.ErrRange {
					t.Error(i, far, near, a, b, err, fault)
				}
			}
		}
	}
}

// P101: a head and the chain behind it, also if they are too many together.
func TestFollows(t *testing.T) {
	l := long(42)
	for i, c := range []struct {
		h    api.Head
		l    []api.Head
		want bool
	}{
		{l[0], l[1:2], true},
		{l[0], l[1:5], true},
		{l[0], l[1:40], true},
		{l[0], l[1:41], true},
		{l[1], l[2:42], true},
		{l[0], l[2:4], false},
		{l[1], l[1:4], false},
		{l[2], l[1:4], false},
		{l[3], l[1:4], false},
		{l[0], l[:4], false},
		{api.Head{Root: 1}, l[1:4], false},
		{api.Head{At: 1}, l[1:4], false},
		{api.Head{Epoch: 1, Root: 1, Prev: 5, At: 2}, l[2:4], false},
		{api.Head{Epoch: 999999}, behind(api.Head{Epoch: 999999}, 7)[1:], true},
		{api.Head{Epoch: 1000000}, []api.Head{{Epoch: 1000000}}, false},
		{api.Head{Epoch: 1000000}, l[:4], false},
		{api.Head{Epoch: 999999, At: 3}, behind(api.Head{Epoch: 999999}, 7)[1:], false},
		// The time goes back.
		{api.Head{At: 5}, []api.Head{{Epoch: 1, Prev: slow(said(api.Head{At: 5})), At: 4}}, false},
		{api.Head{At: 5}, []api.Head{{Epoch: 1, Prev: slow(said(api.Head{At: 5})), At: 5}}, true},
		// The epoch is wrong, the rest is right.
		{api.Head{At: 5}, []api.Head{{Epoch: 2, Prev: slow(said(api.Head{At: 5})), At: 5}}, false},
		// Only the hash of the head counts.
		{api.Head{Root: other}, of(twin, 5, 6)[1:], true},
	} {
		if is, err := chain.Follows(c.h, c.l); is != c.want || err != api.OK {
			t.Error(i, is, err)
		}
	}
}

// P101: a head that is not valid, behind the errors of the chain.
func TestFollowsErrors(t *testing.T) {
	for i, c := range []struct {
		h    api.Head
		want api.Errno
	}{
		{api.Head{Epoch: -1}, api.ErrRange},
		{api.Head{Epoch: 1000001}, api.ErrRange},
		{api.Head{Root: m}, api.ErrRange},
		{api.Head{Prev: m}, api.ErrRange},
		{api.Head{At: -1}, api.ErrRange},
		{api.Head{At: 1000000001, Prev: 1}, api.ErrRange},
		{api.Head{Prev: 1}, api.ErrForm},
	} {
		for _, l := range good() {
			if is, err := chain.Follows(c.h, l); is || err != c.want {
				t.Error(i, is, err)
			}
		}
	}
}

// pair is two chains, and what Fork and Clash say of them.
type pair struct {
	a, b  []api.Head
	fork  int64
	clash int64 // the epoch at which preimages collide, or -1
	err   api.Errno
}

// pairs returns chains with epochs in common.
func pairs() []pair {
	l, x := long(6), of(0, 1, 4, 8, 16, 25)
	// They part at 1 and meet at 2, part at 4 and meet at 5.
	one := of(1, twin, 3, 4, twin, 6, 7)
	two := of(1, other, 3, 4, other, 6, 7)
	late := behind(api.Head{Epoch: 3, Root: 1, Prev: twin, At: 9}, 5, 6)
	same := behind(api.Head{Epoch: 3, Root: 1, Prev: other, At: 9}, 5, 6)
	return []pair{
		{l, l, -1, -1, api.ErrThere},
		{l, l[:3], -1, -1, api.ErrThere},
		{l, l[3:], -1, -1, api.ErrThere},
		{l[:4], l[3:], -1, -1, api.ErrThere},
		{l[1:4], l[2:], -1, -1, api.ErrThere},
		{l[3:4], l[3:4], -1, -1, api.ErrThere},
		{l, x, 3, -1, api.ErrMark},
		{l[2:], x, 3, -1, api.ErrMark},
		{l[3:], x, 3, -1, api.ErrMark},
		{l[4:], x, 4, -1, api.ErrMark},
		{l[5:], x, 5, -1, api.ErrMark},
		{l[2:4], x[3:], 3, -1, api.ErrMark},
		{l[:3], x, -1, -1, api.ErrThere},
		{l[:4], x, 3, -1, api.ErrMark},
		{of(7), of(8), 0, -1, api.ErrMark},
		{of(7, 1, 1), of(8, 1, 1), 0, -1, api.ErrMark},
		{[]api.Head{{At: 1}}, []api.Head{{At: 2}}, 0, -1, api.ErrMark},
		{[]api.Head{{Epoch: 1, Prev: 1}}, []api.Head{{Epoch: 1, Prev: 2}}, 1, -1, api.ErrMark},
		{[]api.Head{{Epoch: 1000000}}, []api.Head{{Epoch: 1000000, Root: 2}}, 1000000, -1, api.ErrMark},
		{one, two, 1, 4, api.OK},
		{one[:5], two, 1, 4, api.OK},
		{one, two[:4], 1, 1, api.OK},
		{one[1:], two[:3], 1, 1, api.OK},
		{one[:2], two, 1, 1, api.OK},
		{one[1:2], two, 1, 1, api.OK},
		{one[2:], two, 4, 4, api.OK},
		{one[2:4], two, -1, -1, api.ErrThere},
		{one[:1], two, -1, -1, api.ErrThere},
		{one[4:5], two[4:5], 4, 4, api.OK},
		{one[5:], two, -1, -1, api.ErrThere},
		// They part a second time, for good.
		{of(twin, 2, 3), of(other, 2, 4), 0, -1, api.ErrMark},
		{of(twin, 2, 3), of(other, 2, 3, 4), 0, 0, api.OK},
		{of(twin, 2, 3, 9), of(other, 2, 3, 4)[:3], 0, 0, api.OK},
		// Every head has another of the same hash.
		{of(twin, twin, twin), of(other, other, other), 0, 2, api.OK},
		{of(twin, twin, twin, 5), of(other, other, other, 5), 0, 2, api.OK},
		{of(twin, twin, other), of(other, other, other), 0, 1, api.OK},
		{late, same, 3, 3, api.OK},
		{late[:1], same, 3, 3, api.OK},
		{late[1:], same, -1, -1, api.ErrThere},
	}
}

// at returns the preimage of the head of l with an epoch, or nothing.
func at(l []api.Head, epoch int64) string {
	for _, h := range l {
		if h.Epoch == epoch {
			return said(h)
		}
	}
	return ""
}

// P102: the first epoch at which they differ.
func TestFork(t *testing.T) {
	for i, c := range pairs() {
		n, err := chain.Fork(c.a, c.b)
		back, fault := chain.Fork(c.b, c.a)
		if n != c.fork || back != c.fork || err != api.OK || fault != api.OK {
			t.Error(i, n, back, err, fault)
		}
	}
}

// P102: the preimages of the last heads that differ, first that of a: they are different, and have one hash.
func TestClash(t *testing.T) {
	for i, c := range pairs() {
		x, y := at(c.a, c.clash), at(c.b, c.clash)
		if c.err == api.OK && (x == y || slow(x) != slow(y)) {
			t.Fatal("no collision", i)
		}
		one, two, err := chain.Clash(c.a, c.b)
		back, again, fault := chain.Clash(c.b, c.a)
		if one != x || two != y || back != y || again != x || err != c.err || fault != c.err {
			t.Errorf("%d: %q, %q, %d; %q, %q, %d", i, one, two, err, back, again, fault)
		}
	}
}

// P102: chains without an epoch in common, next to each other or far apart.
func TestNoneInCommon(t *testing.T) {
	l := long(40)
	for _, c := range [][2][]api.Head{
		{l[:1], l[1:]}, {l[:1], l[2:]}, {l[:20], l[20:]}, {l[:3], l[39:]},
		{of(twin), of(other, 5)[1:]}, {l, {{Epoch: 1000000}}}, {{{Epoch: 7}}, {{Epoch: 8}}},
	} {
		checkPair(t, c[0], c[1], api.ErrNone)
		checkPair(t, c[1], c[0], api.ErrNone)
	}
}

// P102: the example: a prefix of a chain has no fork with it, and no part of it has.
func TestForkExample(t *testing.T) {
	l := long(40)
	for n := 1; n <= 40; n++ {
		if at, err := chain.Fork(l, l[:n]); at != -1 || err != api.OK {
			t.Error(n, at, err)
		}
		if at, err := chain.Fork(l[n-1:], l); at != -1 || err != api.OK {
			t.Error(n, at, err)
		}
	}
}
