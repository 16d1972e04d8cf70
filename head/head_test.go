package head_test

import (
	"math"
	"math/big"
	"strings"
	"testing"

	"tallyroll/api"
	"tallyroll/head"
)

const m = 1<<61 - 1

// slow computes the hash of s with numbers of any size, as chapter 2 describes it.
func slow(s string) uint64 {
	h := big.NewInt(1)
	for i := range len(s) {
		h.Mul(h, big.NewInt(1099511628211))
		h.Add(h, big.NewInt(int64(s[i])+1))
		h.Mod(h, big.NewInt(m))
	}
	return h.Uint64()
}

// eight writes n in eight bytes, most significant first.
func eight(n uint64) string {
	var b []byte
	for i := 56; i >= 0; i -= 8 {
		b = append(b, byte(n>>i))
	}
	return string(b)
}

// said writes out the preimage of a head, also of one that is not valid.
func said(h api.Head) string {
	return "\x03" + eight(uint64(h.Epoch)) + eight(h.Root) + eight(h.Prev) + eight(uint64(h.At))
}

func roots() []uint64 { return []uint64{0, 1, 255, 256, 0x0102030405060708, m - 1} }

func badRoots() []uint64 { return []uint64{m, m + 1, 1 << 62, 1 << 63, math.MaxUint64} }

func times() []int64 { return []int64{0, 1, 5, 255, 256, 999999999, 1000000000} }

func badTimes() []int64 {
	return []int64{-1, -5, 1000000001, 1 << 32, 1<<32 + 5, math.MaxInt64, math.MinInt64}
}

func badEpochs() []int64 {
	return []int64{-1, -1000000, 1000001, 1 << 32, 1<<32 + 1, math.MaxInt64, math.MinInt64}
}

// good returns heads that are valid, with every number at its bounds.
func good() []api.Head {
	var l []api.Head
	for _, root := range roots() {
		for _, at := range times() {
			l = append(l, api.Head{Root: root, At: at})
			for _, epoch := range []int64{1, 2, 255, 256, 999999, 1000000} {
				for _, prev := range roots() {
					l = append(l, api.Head{Epoch: epoch, Root: root, Prev: prev, At: at})
				}
			}
		}
	}
	return l
}

// far returns heads with one number out of its range, and heads that have more wrong with them than that.
func far() []api.Head {
	var l []api.Head
	for _, epoch := range badEpochs() {
		l = append(l, api.Head{Epoch: epoch}, api.Head{Epoch: epoch, Root: 5, Prev: 6, At: 7}, api.Head{Epoch: epoch, Root: m, Prev: m, At: -1})
	}
	for _, x := range badRoots() {
		for _, epoch := range []int64{0, 1, 1000000} {
			l = append(l, api.Head{Epoch: epoch, Root: x}, api.Head{Epoch: epoch, Prev: x}, api.Head{Epoch: epoch, Root: x, Prev: 1}, api.Head{Epoch: epoch, Root: x, Prev: x})
		}
	}
	for _, at := range badTimes() {
		for _, epoch := range []int64{0, 1, 1000000} {
			l = append(l, api.Head{Epoch: epoch, At: at}, api.Head{Epoch: epoch, Prev: 1, At: at})
		}
	}
	return l
}

// orphans returns first heads that name one before them, in no other way wrong.
func orphans() []api.Head {
	var l []api.Head
	for _, prev := range roots()[1:] {
		l = append(l, api.Head{Prev: prev}, api.Head{Root: prev, Prev: prev, At: 1000000000})
	}
	return l
}

// P90: a head whose numbers are in their ranges, the bounds among them.
func TestCheck(t *testing.T) {
	for _, h := range good() {
		if err := head.Check(h); err != api.OK {
			t.Error(h, err)
		}
	}
	// Only the first head needs a Prev of 0, but another one may have it.
	if err := head.Check(api.Head{Epoch: 1}); err != api.OK {
		t.Error(err)
	}
}

// checkRefused tests that every function with a head as its argument returns the error of Check, before any of its own.
func checkRefused(t *testing.T, h api.Head, want api.Errno) {
	t.Helper()
	if err := head.Check(h); err != want {
		t.Error("Check", h, err)
	}
	if s, err := head.Said(h); s != "" || err != want {
		t.Errorf("Said(%v) = %q, %d", h, s, err)
	}
	if x, err := head.Mark(h); x != 0 || err != want {
		t.Error("Mark", h, x, err)
	}
	for _, root := range []uint64{0, m} {
		for _, at := range []int64{-1, 0, 5, 1000000000, 1000000001} {
			if x, err := head.Next(h, root, at); x != (api.Head{}) || err != want {
				t.Error("Next", h, root, at, x, err)
			}
		}
	}
	if x, err := head.Read(said(h)); x != (api.Head{}) || err != api.ErrForm {
		t.Error("Read", h, x, err)
	}
}

// P90: a number out of its range, whatever else is wrong.
func TestRange(t *testing.T) {
	for _, h := range far() {
		checkRefused(t, h, api.ErrRange)
	}
}

// P90: there is no head before the first.
func TestForm(t *testing.T) {
	for _, h := range orphans() {
		checkRefused(t, h, api.ErrForm)
	}
}

// P90: the preimage, its hash, and the head that is read from it.
func TestSaid(t *testing.T) {
	for _, h := range good() {
		want := said(h)
		if s, err := head.Said(h); s != want || err != api.OK {
			t.Errorf("Said(%v) = %q, %d", h, s, err)
		}
		if x, err := head.Mark(h); x != slow(want) || err != api.OK {
			t.Error("Mark", h, x, err)
		}
		if x, err := head.Read(want); x != h || err != api.OK {
			t.Error("Read", h, x, err)
		}
	}
}

// P90: strings and numbers that were worked out apart from the program.
func TestKnown(t *testing.T) {
	for i, c := range []struct {
		h    api.Head
		said string
		mark uint64
	}{
		{api.Head{}, "\x03" + strings.Repeat("\x00", 32), 1409105702499743739},
		{api.Head{Epoch: 1, Root: 2, Prev: 3, At: 4}, "\x03\x00\x00\x00\x00\x00\x00\x00\x01\x00\x00\x00\x00\x00\x00\x00\x02\x00\x00\x00\x00\x00\x00\x00\x03\x00\x00\x00\x00\x00\x00\x00\x04", 2006425707083074859},
		{api.Head{Epoch: 1000000, Root: m - 1, Prev: m - 1, At: 1000000000}, "\x03\x00\x00\x00\x00\x00\x0f\x42\x40\x1f\xff\xff\xff\xff\xff\xff\xfe\x1f\xff\xff\xff\xff\xff\xff\xfe\x00\x00\x00\x00\x3b\x9a\xca\x00", 875723673794256934},
	} {
		s, err := head.Said(c.h)
		x, fault := head.Mark(c.h)
		if s != c.said || x != c.mark || err != api.OK || fault != api.OK {
			t.Errorf("%d: %q, %d, %d, %d", i, s, x, err, fault)
		}
	}
}

// P90: a mark is no more than a hash: different heads can have the same.
func TestMarkCollision(t *testing.T) {
	for i, c := range [][2]api.Head{
		{{Root: 0x0007530000000000}, {Root: 0x1c00000f402d2275}},
		{{Epoch: 3, Prev: 0x0007530000000000, At: 9}, {Epoch: 3, Prev: 0x1c00000f402d2275, At: 9}},
	} {
		a, err := head.Mark(c[0])
		b, fault := head.Mark(c[1])
		if a != b || a == 0 || err != api.OK || fault != api.OK {
			t.Error(i, a, b, err, fault)
		}
		one, _ := head.Next(c[0], 1, 9)
		two, _ := head.Next(c[1], 1, 9)
		if one != two {
			t.Error(i, one, two)
		}
	}
}

// P90: whatever is not a preimage, down to a wrong byte.
func TestReadForm(t *testing.T) {
	s := said(api.Head{Epoch: 1, Root: 2, Prev: 3, At: 4})
	l := []string{"", "\x03", s[1:], s + "\x00", "\x00" + s, s + s, s[:17], s[:25], strings.Repeat("\x00", 33), strings.Repeat("\xff", 33), strings.Repeat("\x03", 33), strings.Repeat("\x03", 700)}
	for n := range len(s) {
		l = append(l, s[:n])
	}
	for kind := range 256 {
		if kind != 3 {
			l = append(l, string([]byte{byte(kind)})+s[1:])
		}
	}
	// The sign of a number, and its highest byte.
	for i := range 4 {
		at := 1 + 8*i
		l = append(l, s[:at]+"\x80"+s[at+1:], s[:at]+"\xff"+s[at+1:], s[:at]+strings.Repeat("\xff", 8)+s[at+8:])
	}
	for _, x := range l {
		if h, err := head.Read(x); h != (api.Head{}) || err != api.ErrForm {
			t.Errorf("Read(%.40q) = %v, %d", x, h, err)
		}
	}
}

// P90: of the strings that differ from a preimage in one byte, those of valid heads are read, and no other.
func TestReadInverse(t *testing.T) {
	for _, h := range []api.Head{{}, {Root: 5, At: 7}, {Epoch: 1, Root: 2, Prev: 3, At: 4}, {Epoch: 1000000, Root: m - 1, Prev: m - 1, At: 1000000000}} {
		s := said(h)
		for i := range len(s) {
			for c := range 256 {
				x := s[:i] + string([]byte{byte(c)}) + s[i+1:]
				got, err := head.Read(x)
				if err == api.OK && (said(got) != x || head.Check(got) != api.OK) || err != api.OK && (got != api.Head{} || err != api.ErrForm) {
					t.Errorf("Read(%q) = %v, %d", x, got, err)
				}
			}
		}
	}
}

// P91: the first head.
func TestFirst(t *testing.T) {
	for _, root := range roots() {
		for _, at := range times() {
			if h, err := head.First(root, at); h != (api.Head{Root: root, At: at}) || err != api.OK {
				t.Error(root, at, h, err)
			}
		}
	}
}

// P91: a root or a time out of its range.
func TestFirstRange(t *testing.T) {
	check := func(root uint64, at int64) {
		t.Helper()
		if h, err := head.First(root, at); h != (api.Head{}) || err != api.ErrRange {
			t.Error(root, at, h, err)
		}
	}
	for _, root := range badRoots() {
		check(root, 0)
		for _, at := range badTimes() {
			check(root, at)
		}
	}
	for _, at := range badTimes() {
		for _, root := range roots() {
			check(root, at)
		}
	}
}

// P91: the successor of a head, down to the same time and up to the last epoch; a time before it is out of range.
func TestNext(t *testing.T) {
	for _, h := range good() {
		if h.Epoch == 1000000 {
			continue
		}
		for _, root := range roots() {
			for _, at := range append(times(), h.At-1, h.At, h.At+1) {
				want, fault := api.Head{Epoch: h.Epoch + 1, Root: root, Prev: slow(said(h)), At: at}, api.OK
				if at < h.At || at > 1000000000 {
					want, fault = api.Head{}, api.ErrRange
				}
				if x, err := head.Next(h, root, at); x != want || err != fault {
					t.Fatal(h, root, at, x, err)
				}
			}
		}
	}
}

// P91: the example: after a head with time 5 no time is before 5.
func TestNextExample(t *testing.T) {
	h, _ := head.First(1, 5)
	for at := range int64(9) {
		x, err := head.Next(h, 2, at)
		if at < 5 && (x != api.Head{} || err != api.ErrRange) || at >= 5 && (x.Epoch != 1 || x.At != at || err != api.OK) {
			t.Error(at, x, err)
		}
	}
}

// P91: a root or a time out of its range, if the head has a successor at all.
func TestNextErrors(t *testing.T) {
	for _, epoch := range []int64{1, 999999, 1000000} {
		want := api.ErrRange
		if epoch == 1000000 {
			want = api.ErrFull
		}
		h := api.Head{Epoch: epoch, Root: 5, Prev: 6, At: 7}
		check := func(root uint64, at int64) {
			t.Helper()
			if x, err := head.Next(h, root, at); x != (api.Head{}) || err != want {
				t.Error(epoch, root, at, x, err)
			}
		}
		for _, root := range badRoots() {
			check(root, 7)
			check(root, 6)
		}
		for _, at := range append(badTimes(), 0, 6) {
			check(5, at)
			check(m, at)
		}
	}
	h := api.Head{Epoch: 1000000, Root: 5, Prev: 6, At: 7}
	if x, err := head.Next(h, 5, 7); x != (api.Head{}) || err != api.ErrFull {
		t.Error(x, err)
	}
	h.Epoch--
	if x, err := head.Next(h, 5, 7); x.Epoch != 1000000 || err != api.OK {
		t.Error(x, err)
	}
}

// P91: heads one behind the other: each names the one before it, and is valid and can be read.
func TestNextChain(t *testing.T) {
	h, err := head.First(7, 0)
	for i := int64(1); i < 50; i++ {
		x, fault := head.Next(h, uint64(i*i), i/3)
		if x.Epoch != i || x.Prev != slow(said(h)) || head.Check(x) != api.OK || err != api.OK || fault != api.OK {
			t.Fatal(i, x, err, fault)
		}
		if again, fault := head.Read(said(x)); again != x || fault != api.OK {
			t.Fatal(i, again, fault)
		}
		h = x
	}
}
