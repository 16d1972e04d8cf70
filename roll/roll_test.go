package roll_test

import (
	"math"
	"math/bits"
	"slices"
	"strings"
	"testing"

	"tallyroll/api"
	"tallyroll/roll"
)

const m61 = 1<<61 - 1

// Two numbers whose eight bytes, in one place, lead to the same hash.
const (
	twin  = 0x0007530000000000
	other = 0x1c00000f402d2275
)

// plain computes the hash of s as chapter 2 describes it, with the remainder of a full product.
func plain(s string) uint64 {
	h := uint64(1)
	for i := range len(s) {
		high, low := bits.Mul64(h, 1099511628211)
		h = (bits.Rem64(high, low, m61) + uint64(s[i]) + 1) % m61
	}
	return h
}

// eight writes n in eight bytes, most significant first.
func eight(n uint64) string {
	var b []byte
	for i := 56; i >= 0; i -= 8 {
		b = append(b, byte(n>>i))
	}
	return string(b)
}

func one(text string) uint64 { return plain("\x04" + text) }

func two(a, b uint64) uint64 { return plain("\x05" + eight(a) + eight(b)) }

// levels computes the hashes from the strings up: neighbours are combined, and a last one without a neighbour goes up as it is.
func levels(l []string) [][]uint64 {
	var row []uint64
	for _, s := range l {
		row = append(row, one(s))
	}
	all := [][]uint64{row}
	for len(row) > 1 {
		var up []uint64
		for i := 0; i+1 < len(row); i += 2 {
			up = append(up, two(row[i], row[i+1]))
		}
		if len(row)%2 == 1 {
			up = append(up, row[len(row)-1])
		}
		row = up
		all = append(all, row)
	}
	return all
}

func rootOf(l []string) uint64 {
	all := levels(l)
	return all[len(all)-1][0]
}

// besides returns the neighbours on the way up from the hash i of a row.
func besides(all [][]uint64, row, i int) []uint64 {
	var p []uint64
	for ; row < len(all); row++ {
		if i^1 < len(all[row]) {
			p = append(p, all[row][i^1])
		}
		i /= 2
	}
	return p
}

// between returns the consistency proof: the way up from the widest hash that ends with the old strings, unless the verifier has that hash.
func between(l []string, m int) []uint64 {
	if m == len(l) {
		return nil
	}
	all := levels(l)
	row, i := 0, m-1
	for i%2 == 1 {
		row, i = row+1, i/2
	}
	if i == 0 {
		return besides(all, row, i)
	}
	return append([]uint64{all[row][i]}, besides(all, row, i)...)
}

// shift moves one step up until the hash i of its row is a right one, or the first.
func shift(i, end int) (int, int) {
	for i%2 == 0 && i != 0 {
		i, end = i/2, end/2
	}
	return i, end
}

// leads reports whether the inclusion proof p leads from the string i of n to the root, step by step from below.
func leads(root uint64, n, i int, text string, p []uint64) bool {
	end, h := n-1, one(text)
	for _, c := range p {
		if end == 0 {
			return false
		}
		if i%2 == 1 || i == end {
			h = two(c, h)
			i, end = shift(i, end)
		} else {
			h = two(h, c)
		}
		i, end = i/2, end/2
	}
	return end == 0 && h == root
}

// joins reports whether the consistency proof p leads to both hashes, step by step from below.
func joins(a uint64, m int, b uint64, n int, p []uint64) bool {
	if m == n {
		return a == b && len(p) == 0
	}
	i, end := m-1, n-1
	for i%2 == 1 {
		i, end = i/2, end/2
	}
	before, after := a, a
	if i != 0 {
		if len(p) == 0 {
			return false
		}
		before, after, p = p[0], p[0], p[1:]
	}
	for _, c := range p {
		if end == 0 {
			return false
		}
		if i%2 == 1 || i == end {
			before, after = two(c, before), two(c, after)
			i, end = shift(i, end)
		} else {
			after = two(after, c)
		}
		i, end = i/2, end/2
	}
	return end == 0 && before == a && after == b
}

// texts returns a log of n strings, no two of which are the same: empty, short, as long as possible, and of any bytes.
func texts(n int) []string {
	l := []string{"a", "", strings.Repeat("x", 40), "\xff\xfe", "\x00", strings.Repeat("\x00", 40), "\x04", "\x05" + eight(1) + eight(2)}
	for i := range max(0, n-len(l)) {
		l = append(l, strings.Repeat(string([]byte{byte(7*i + 17)}), 1+i%40))
	}
	return l[:n]
}

// alike returns a log of n strings that are all the same.
func alike(n int) []string { return slices.Repeat([]string{"same"}, n) }

// sizes returns numbers of strings around the powers of two.
func sizes() []int { return []int{1, 2, 3, 4, 5, 6, 7, 8, 9, 11, 15, 16, 17, 24, 31, 32, 33, 39, 40} }

// wrong is a list of strings that is no log, with its error.
type wrong struct {
	l    []string
	want api.Errno
}

// faulty returns lists that are no logs.
func faulty() []wrong {
	long := strings.Repeat("x", 41)
	l := []wrong{
		{nil, api.ErrNone}, {[]string{}, api.ErrNone},
		{texts(41), api.ErrLarge}, {make([]string, 41), api.ErrLarge}, {make([]string, 70000), api.ErrLarge},
		{slices.Repeat([]string{long}, 41), api.ErrLarge},
		{[]string{long}, api.ErrLarge}, {[]string{strings.Repeat("\x00", 70000)}, api.ErrLarge},
		{[]string{strings.Repeat("\u00e9", 21)}, api.ErrLarge},
	}
	for _, i := range []int{0, 1, 3, 4} {
		x := texts(5)
		x[i] = long
		l = append(l, wrong{x, api.ErrLarge})
	}
	x := texts(40)
	x[39] = long
	return append(l, wrong{x, api.ErrLarge})
}

// P110: numbers that were worked out apart from the program.
func TestRootKnown(t *testing.T) {
	var numbers []string
	for i := range 40 {
		numbers = append(numbers, string([]byte{byte(i)}))
	}
	for i, c := range []struct {
		l    []string
		want uint64
	}{
		{[]string{""}, 1099511628216},
		{[]string{"a"}, 962072675019786},
		{[]string{"a", "b"}, 569278059485896799},
		{[]string{"a", "b", "c"}, 2140429323136383899},
		{[]string{"a", "b", "c", "d", "e"}, 1070859859410221830},
		{slices.Repeat([]string{strings.Repeat("\xff", 40)}, 40), 269222020855152806},
		{numbers, 1607842444651928789},
	} {
		if r, err := roll.Root(c.l); r != c.want || err != api.OK {
			t.Error(i, r, err)
		}
	}
}

// P110: logs of every size.
func TestRoot(t *testing.T) {
	for n := 1; n <= 40; n++ {
		for _, l := range [][]string{texts(n), alike(n), make([]string, n)} {
			if r, err := roll.Root(l); r != rootOf(l) || r >= m61 || err != api.OK {
				t.Error(n, r, err)
			}
		}
	}
}

// P110: every string and the order count, and so does their number.
func TestRootDiffers(t *testing.T) {
	seen := map[uint64]int{}
	for n := 1; n <= 40; n++ {
		r, _ := roll.Root(alike(n))
		if at, is := seen[r]; is {
			t.Error(n, at)
		}
		seen[r] = n
		l := texts(n)
		all, _ := roll.Root(l)
		for i := range n {
			x := slices.Clone(l)
			x[i] += "!"
			x[i] = x[i][max(0, len(x[i])-40):]
			if r, err := roll.Root(x); r == all || err != api.OK {
				t.Error(n, i, err)
			}
			x = slices.Clone(l)
			x[i], x[0] = x[0], x[i]
			if r, err := roll.Root(x); (r == all) != (i == 0) || err != api.OK {
				t.Error(n, i, err)
			}
		}
	}
}

// P110: a hash is no more than a hash: strings that collide lead to the same root, and the proof of one is that of the other.
func TestRootCollision(t *testing.T) {
	for _, n := range sizes() {
		for i := range n {
			l, x := texts(n), texts(n)
			l[i], x[i] = eight(twin), eight(other)
			a, err := roll.Root(l)
			b, fault := roll.Root(x)
			if a != b || err != api.OK || fault != api.OK {
				t.Error(n, i, a, b, err, fault)
			}
			p, _ := roll.In(l, i)
			if is, err := roll.IsIn(a, n, i, x[i], p); !is || err != api.OK {
				t.Error(n, i, is, err)
			}
		}
	}
}

// P110, P111, P112: lists that are no logs, whatever the other arguments are.
func TestFaulty(t *testing.T) {
	for i, c := range faulty() {
		if r, err := roll.Root(c.l); r != 0 || err != c.want {
			t.Error("Root", i, r, err)
		}
		for _, n := range []int{math.MinInt, -1, 0, 1, 4, 5, 40, 41, math.MaxInt} {
			if p, err := roll.In(c.l, n); len(p) != 0 || err != c.want {
				t.Error("In", i, n, p, err)
			}
			if p, err := roll.Grew(c.l, n); len(p) != 0 || err != c.want {
				t.Error("Grew", i, n, p, err)
			}
		}
	}
}

// outside returns numbers that are not from least to most.
func outside(least, most int) []int {
	return []int{math.MinInt, math.MinInt + 1, -1 << 32, least - 256, least - 40, least - 2, least - 1, most + 1, most + 2, most + 40, most + 256, 1 << 32, 1<<32 + 1, math.MaxInt - 1, math.MaxInt}
}

// P111: the hashes beside the way from a string to the root, for every string of logs of every size.
func TestIn(t *testing.T) {
	for n := 1; n <= 40; n++ {
		for _, l := range [][]string{texts(n), alike(n)} {
			all := levels(l)
			for i := range n {
				want := besides(all, 0, i)
				if p, err := roll.In(l, i); !slices.Equal(p, want) || err != api.OK {
					t.Error(n, i, p, err)
				}
				if is, err := roll.IsIn(rootOf(l), n, i, l[i], want); !is || err != api.OK {
					t.Error(n, i, is, err)
				}
			}
		}
	}
}

// P111: the example, and the proofs of a log of one string and of the last string of five.
func TestInExample(t *testing.T) {
	for i, c := range []struct {
		l    []string
		i    int
		want []uint64
	}{
		{[]string{"a"}, 0, nil},
		{[]string{"a", "b"}, 0, []uint64{one("b")}},
		{[]string{"a", "b"}, 1, []uint64{one("a")}},
		{[]string{"a", "b", "c"}, 0, []uint64{one("b"), one("c")}},
		{[]string{"a", "b", "c"}, 2, []uint64{two(one("a"), one("b"))}},
		{[]string{"a", "b", "c", "d", "e"}, 4, []uint64{two(two(one("a"), one("b")), two(one("c"), one("d")))}},
	} {
		if p, err := roll.In(c.l, c.i); !slices.Equal(p, c.want) || err != api.OK {
			t.Error(i, p, err)
		}
	}
}

// P111: an index at which there is no string.
func TestInRange(t *testing.T) {
	for n := 1; n <= 40; n++ {
		for _, i := range outside(0, n-1) {
			if p, err := roll.In(texts(n), i); len(p) != 0 || err != api.ErrRange {
				t.Error(n, i, p, err)
			}
		}
	}
}

// spoiled returns proofs that are like p but for one hash too few, one too many, a changed one, or two in the other order.
func spoiled(p []uint64) [][]uint64 {
	l := [][]uint64{
		append(slices.Clone(p), 0), append(slices.Clone(p), 1, 2), append([]uint64{7}, p...), append(slices.Clone(p), p...),
		append(slices.Clone(p), make([]uint64, 70)...), make([]uint64, 1000),
	}
	if len(p) == 0 {
		return slices.Delete(l, 3, 4)
	}
	l = append(l, nil, p[1:], p[:len(p)-1], make([]uint64, len(p)))
	for i := range p {
		for _, x := range []uint64{p[i] + 1, p[i] - 1, p[i] + m61, p[i] ^ 1<<63, 0, math.MaxUint64} {
			q := slices.Clone(p)
			q[i] = x
			l = append(l, q)
		}
		if i > 0 && p[i] != p[i-1] {
			q := slices.Clone(p)
			q[i], q[i-1] = q[i-1], q[i]
			l = append(l, q)
		}
	}
	return l
}

// P111: another proof, text or root.
func TestIsInWrong(t *testing.T) {
	for _, n := range sizes() {
		l := texts(n)
		root := rootOf(l)
		check := func(root uint64, i int, text string, p []uint64) {
			t.Helper()
			if is, err := roll.IsIn(root, n, i, text, p); is || err != api.OK {
				t.Error(n, i, is, err)
			}
		}
		for i := range n {
			p, _ := roll.In(l, i)
			for _, q := range spoiled(p) {
				check(root, i, l[i], q)
			}
			for _, x := range []uint64{0, root + 1, root - 1, root + m61, root ^ 1<<63, one(l[i]) + 1, math.MaxUint64} {
				check(x, i, l[i], p)
			}
			for _, text := range []string{"other", l[(i+1)%n] + "?", "\x04" + l[i]} {
				if len(text) <= 40 {
					check(root, i, text, p)
				}
			}
			for k := range n {
				if k != i {
					check(root, i, l[k], p)
				}
			}
		}
	}
}

// P111: every claim about the number and the index: some are right also for another number, if the same hashes are combined.
func TestIsInClaims(t *testing.T) {
	right := 0
	for _, n := range sizes() {
		l := texts(n)
		root := rootOf(l)
		for i := range n {
			p, _ := roll.In(l, i)
			for _, size := range sizes() {
				for k := range size {
					want := leads(root, size, k, l[i], p)
					if want && size != n {
						right++
					}
					if is, err := roll.IsIn(root, size, k, l[i], p); is != want || err != api.OK {
						t.Error(n, i, size, k, is, err)
					}
				}
			}
		}
	}
	if right == 0 {
		t.Error("no proof is right for two numbers")
	}
}

// P111: hashes of a proof that are no hashes of strings are combined as they are.
func TestIsInAnyHashes(t *testing.T) {
	l := []uint64{0, 1, twin, other, m61 - 1, m61, m61 + 1, 1 << 63, math.MaxUint64}
	for _, x := range l {
		if is, err := roll.IsIn(two(one("a"), x), 2, 0, "a", []uint64{x}); !is || err != api.OK {
			t.Error(x, is, err)
		}
		if is, err := roll.IsIn(two(x, one("a")), 2, 1, "a", []uint64{x}); !is || err != api.OK {
			t.Error(x, is, err)
		}
	}
	if is, err := roll.IsIn(two(one("a"), twin), 2, 0, "a", []uint64{other}); !is || err != api.OK {
		t.Error(is, err)
	}
}

// P111: a number or an index out of its range, and only then a text that is too long.
func TestIsInErrors(t *testing.T) {
	for _, text := range []string{"a", strings.Repeat("x", 40), strings.Repeat("x", 41), strings.Repeat("\u00e9", 21), strings.Repeat("\x00", 70000)} {
		root := one(text)
		check := func(n, i int, want api.Errno) {
			t.Helper()
			for _, p := range [][]uint64{nil, {1}, make([]uint64, 50)} {
				if is, err := roll.IsIn(root, n, i, text, p); is || err != want {
					t.Error(len(text), n, i, is, err)
				}
			}
		}
		for _, n := range outside(1, 40) {
			for _, i := range []int{math.MinInt, -1, 0, 1, n - 1, n, math.MaxInt} {
				check(n, i, api.ErrRange)
			}
		}
		for n := 1; n <= 40; n++ {
			for _, i := range outside(0, n-1) {
				check(n, i, api.ErrRange)
			}
			for i := 0; i < n && len(text) > 40; i++ {
				check(n, i, api.ErrLarge)
			}
		}
	}
}

// P112: the proof between every log and every beginning of it.
func TestGrew(t *testing.T) {
	for n := 1; n <= 40; n++ {
		for _, l := range [][]string{texts(n), alike(n)} {
			for m := 1; m <= n; m++ {
				want := between(l, m)
				if p, err := roll.Grew(l, m); !slices.Equal(p, want) || err != api.OK {
					t.Error(n, m, p, err)
				}
				if is, err := roll.IsGrown(rootOf(l[:m]), m, rootOf(l), n, want); !is || err != api.OK {
					t.Error(n, m, is, err)
				}
			}
		}
	}
}

// P112: the example, and every case of the definition: all is old, the range is not the whole log, the old ones end on the left and on the right.
func TestGrewExample(t *testing.T) {
	a, b, c, d, e, f, g := one("a"), one("b"), one("c"), one("d"), one("e"), one("f"), one("g")
	l := []string{"a", "b", "c", "d", "e", "f", "g"}
	for i, x := range []struct {
		n, m int
		want []uint64
	}{
		{1, 1, nil},
		{2, 1, []uint64{b}},
		{2, 2, nil},
		{3, 1, []uint64{b, c}},
		{3, 2, []uint64{c}},
		{3, 3, nil},
		{4, 3, []uint64{c, d, two(a, b)}},
		{7, 3, []uint64{c, d, two(a, b), two(two(e, f), g)}},
		{7, 4, []uint64{two(two(e, f), g)}},
		{7, 5, []uint64{e, f, g, two(two(a, b), two(c, d))}},
		{7, 6, []uint64{two(e, f), g, two(two(a, b), two(c, d))}},
		{7, 7, nil},
	} {
		if p, err := roll.Grew(l[:x.n], x.m); !slices.Equal(p, x.want) || err != api.OK {
			t.Error(i, p, err)
		}
	}
}

// P112: a number of old strings that the log cannot have.
func TestGrewRange(t *testing.T) {
	for n := 1; n <= 40; n++ {
		for _, m := range outside(1, n) {
			if p, err := roll.Grew(texts(n), m); len(p) != 0 || err != api.ErrRange {
				t.Error(n, m, p, err)
			}
		}
	}
}

// P112: another proof, or another hash of the old strings or of all.
func TestIsGrownWrong(t *testing.T) {
	for _, n := range sizes() {
		l := texts(n)
		b := rootOf(l)
		for m := 1; m <= n; m++ {
			check := func(a, b uint64, p []uint64) {
				t.Helper()
				if is, err := roll.IsGrown(a, m, b, n, p); is || err != api.OK {
					t.Error(n, m, is, err)
				}
			}
			a := rootOf(l[:m])
			p, _ := roll.Grew(l, m)
			for _, q := range spoiled(p) {
				check(a, b, q)
			}
			for _, x := range []uint64{1, m61, 1 << 63, math.MaxUint64} {
				check(a+x, b, p)
				check(a, b+x, p)
			}
			if m < n {
				check(b, a, p)
				check(a, a, p)
				check(b, b, p)
			}
			// A log in which an old string was changed does not begin with the old ones.
			x := texts(n)
			x[m-1] = "changed"
			q, _ := roll.Grew(x, m)
			check(a, rootOf(x), q)
			check(rootOf(x[:m]), b, p)
		}
	}
}

// P112: every claim about the numbers: some are right also for others, if the same hashes are combined.
func TestIsGrownClaims(t *testing.T) {
	right := 0
	for _, n := range sizes() {
		l := texts(n)
		b := rootOf(l)
		for m := 1; m <= n; m++ {
			a := rootOf(l[:m])
			p, _ := roll.Grew(l, m)
			for _, size := range sizes() {
				for k := 1; k <= size; k++ {
					want := joins(a, k, b, size, p)
					if want && size != n {
						right++
					}
					if is, err := roll.IsGrown(a, k, b, size, p); is != want || err != api.OK {
						t.Error(n, m, size, k, is, err)
					}
				}
			}
		}
	}
	if right == 0 {
		t.Error("no proof is right for two numbers")
	}
}

// P112: the proof leads to both hashes: one that gives only the hash of all strings, or only that of the old ones, proves nothing.
func TestIsGrownBoth(t *testing.T) {
	a, b, c, d := one("a"), one("b"), one("c"), one("d")
	ab, cd, abc := two(a, b), two(c, d), two(two(a, b), c)
	p := []uint64{c, d, ab}
	for i, x := range []struct {
		a, b uint64
		p    []uint64
		want bool
	}{
		{abc, two(ab, cd), p, true},
		{abc, two(ab, two(c, 9)), p, false},
		{abc, two(ab, two(c, 9)), []uint64{c, 9, ab}, true},
		{two(ab, 9), two(ab, cd), p, false},
		{two(ab, 9), two(ab, cd), []uint64{9, d, ab}, false},
		{two(9, c), two(ab, cd), p, false},
		{two(twin, c), two(twin, cd), []uint64{c, d, twin}, true},
		{two(twin, c), two(twin, cd), []uint64{c, d, other}, true},
		{two(math.MaxUint64, c), two(math.MaxUint64, cd), []uint64{c, d, math.MaxUint64}, true},
	} {
		if is, err := roll.IsGrown(x.a, 3, x.b, 4, x.p); is != x.want || err != api.OK {
			t.Error(i, is, err)
		}
	}
}

// P112: nothing was added: the hash is the same, and there is nothing to prove.
func TestIsGrownSame(t *testing.T) {
	for n := 1; n <= 40; n++ {
		r := rootOf(texts(n))
		for i, x := range []struct {
			a, b uint64
			p    []uint64
			want bool
		}{
			{r, r, nil, true}, {r, r, []uint64{}, true}, {r, r + 1, nil, false}, {r - 1, r, nil, false}, {0, r, nil, false},
			{r, r, []uint64{r}, false}, {r, r, []uint64{0}, false}, {r, r, make([]uint64, 40), false},
		} {
			if is, err := roll.IsGrown(x.a, n, x.b, n, x.p); is != x.want || err != api.OK {
				t.Error(n, i, is, err)
			}
		}
	}
}

// P112: numbers out of their range.
func TestIsGrownRange(t *testing.T) {
	check := func(m, n int) {
		t.Helper()
		for _, p := range [][]uint64{nil, {1}, make([]uint64, 50)} {
			if is, err := roll.IsGrown(1, m, 1, n, p); is || err != api.ErrRange {
				t.Error(m, n, is, err)
			}
		}
	}
	for _, n := range outside(1, 40) {
		for _, m := range []int{math.MinInt, -1, 0, 1, 40, n - 1, n, math.MaxInt} {
			check(m, n)
		}
	}
	for n := 1; n <= 40; n++ {
		for _, m := range outside(1, n) {
			check(m, n)
		}
	}
}
