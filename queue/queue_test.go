package queue_test

import (
	"math"
	"slices"
	"strings"
	"testing"

	"tallyroll/api"
	"tallyroll/queue"
)

func goodNames() []string {
	return []string{"a", "z", "0", "9", "zoe", "k9", "zzzzzzzzzzzz", "000000000000"}
}

func badNames() []string {
	return []string{"", "A", "a ", " a", "zoE", "a-b", "a\x00", "\x00", "\xe9", "\u00e9", "`", "{", "/", ":", "aaaaaaaaaaaaa", strings.Repeat("a", 700)}
}

func goodValues() []string {
	return []string{"", "red", "\x00", "\xff\xfe", "Any byte at all: \u00e9!", strings.Repeat("v", 19), strings.Repeat("v", 20), strings.Repeat("\xff", 20)}
}

func badValues() []string {
	return []string{strings.Repeat("v", 21), strings.Repeat("\x00", 21), strings.Repeat("\u00e9", 11), strings.Repeat("v", 276), strings.Repeat("v", 70000)}
}

// asks returns n valid requests, no two of which are the same, though some have the same name, value or number.
func asks(n int) []api.Ask {
	var l []api.Ask
	for i := range n {
		l = append(l, api.Ask{
			Name:  goodNames()[i%len(goodNames())],
			Value: goodValues()[i*3%len(goodValues())],
			N:     uint64(i/2) << 60,
			Tag:   math.MaxUint64 - uint64(i),
		})
	}
	return l
}

// outside returns numbers that are not from least to most.
func outside(least, most int) []int {
	return []int{math.MinInt, math.MinInt + 1, -1 << 32, least - 256, least - 30, least - 2, least - 1, most + 1, most + 2, most + 30, most + 256, 1 << 32, 1<<32 + 1, math.MaxInt - 1, math.MaxInt}
}

// wrong is a queue that is not valid, with its error.
type wrong struct {
	q    api.Queue
	want api.Errno
}

// faulty returns queues that are not valid.
func faulty() []wrong {
	form, large := api.Ask{Name: "A"}, api.Ask{Name: "a", Value: badValues()[0]}
	both := api.Ask{Name: "A", Value: badValues()[0]}
	var l []wrong
	for _, most := range outside(1, 30) {
		for _, wait := range [][]api.Ask{nil, asks(1), asks(30), asks(31), {form}, {large}, make([]api.Ask, 300)} {
			l = append(l, wrong{api.Queue{Most: most, Wait: wait}, api.ErrRange})
		}
	}
	for most := 1; most <= 30; most++ {
		for _, wait := range [][]api.Ask{asks(most + 1), make([]api.Ask, most+1), slices.Repeat([]api.Ask{large}, most+1), asks(256 + most), asks(5000)} {
			l = append(l, wrong{api.Queue{Most: most, Wait: wait}, api.ErrFull})
		}
	}
	for i := range 30 {
		for _, c := range []struct {
			a    api.Ask
			want api.Errno
		}{{form, api.ErrForm}, {large, api.ErrLarge}, {both, api.ErrForm}} {
			wait := asks(30)
			wait[i] = c.a
			l = append(l, wrong{api.Queue{Most: 30, Wait: wait}, c.want}, wrong{api.Queue{Most: i + 1, Wait: wait[:i+1]}, c.want})
		}
	}
	return append(l,
		wrong{api.Queue{Most: 3, Wait: []api.Ask{form, large}}, api.ErrForm},
		wrong{api.Queue{Most: 3, Wait: []api.Ask{large, form}}, api.ErrLarge},
		wrong{api.Queue{Most: 3, Wait: []api.Ask{{Name: "a"}, large, form}}, api.ErrLarge},
		wrong{api.Queue{Most: 3, Wait: []api.Ask{{Name: "a"}, form, large}}, api.ErrForm})
}

// isZero reports whether nothing is left in a queue that comes with an error.
func isZero(q api.Queue) bool { return q.Most == 0 && len(q.Wait) == 0 }

// same reports whether q has the capacity and the requests.
func same(q api.Queue, most int, wait []api.Ask) bool {
	return q.Most == most && slices.Equal(q.Wait, wait)
}

// P120: every capacity, with every number of requests that it holds.
func TestCheck(t *testing.T) {
	for most := 1; most <= 30; most++ {
		for n := range most + 1 {
			if err := queue.Check(api.Queue{Most: most, Wait: asks(n)}); err != api.OK {
				t.Error(most, n, err)
			}
		}
	}
}

// P120: a request may be anything that has a name and a short value; its number and its tag are not looked at, and it may be there twice.
func TestCheckAsks(t *testing.T) {
	for _, n := range []uint64{0, 1, 1<<61 - 1, 1 << 63, math.MaxUint64} {
		for _, name := range append(goodNames(), badNames()...) {
			for _, value := range append(goodValues(), badValues()...) {
				want := api.OK
				if slices.Contains(badValues(), value) {
					want = api.ErrLarge
				}
				if slices.Contains(badNames(), name) {
					want = api.ErrForm
				}
				a := api.Ask{Name: name, Value: value, N: n, Tag: ^n}
				x, ahead, err := queue.Put(api.Queue{Most: 2, Wait: asks(1)}, a)
				if got := queue.Check(api.Queue{Most: 2, Wait: []api.Ask{a, a}}); got != want || err != want {
					t.Errorf("%.20q, %.20q: %d, %d", name, value, got, err)
				}
				if want == api.OK && (ahead != 1 || !same(x, 2, append(asks(1), a))) || want != api.OK && (ahead != 0 || !isZero(x)) {
					t.Errorf("%.20q, %.20q: %v, %d", name, value, x, ahead)
				}
			}
		}
	}
}

// P120: queues that are not valid, whatever the other arguments are.
func TestFaulty(t *testing.T) {
	for i, c := range faulty() {
		if err := queue.Check(c.q); err != c.want {
			t.Error("Check", i, err)
		}
		for _, a := range []api.Ask{{}, {Name: "a"}, {Name: "A", Value: badValues()[0]}, {Name: "a", Value: badValues()[0]}} {
			if x, n, err := queue.Put(c.q, a); !isZero(x) || n != 0 || err != c.want {
				t.Error("Put", i, x, n, err)
			}
		}
		for _, n := range []int{math.MinInt, -1, 0, 1, 30, math.MaxInt} {
			if x, l, err := queue.Take(c.q, n); !isZero(x) || len(l) != 0 || err != c.want {
				t.Error("Take", i, n, x, l, err)
			}
		}
	}
}

// P120: a request goes behind all others, whole, and as many as there were are before it.
func TestPut(t *testing.T) {
	for most := 1; most <= 30; most++ {
		q := api.Queue{Most: most}
		for i, a := range asks(most) {
			x, ahead, err := queue.Put(q, a)
			if !same(x, most, asks(i+1)) || ahead != i || err != api.OK || !same(q, most, asks(i)) {
				t.Error(most, i, x, ahead, err)
			}
			q = x
		}
		if x, ahead, err := queue.Put(q, asks(1)[0]); !isZero(x) || ahead != 0 || err != api.ErrFull {
			t.Error(most, x, ahead, err)
		}
	}
}

// P120: one request many times over is many requests.
func TestPutTwice(t *testing.T) {
	a := api.Ask{Name: "zoe", Value: "red", N: 2, Tag: 7}
	q := api.Queue{Most: 30}
	for i := range 30 {
		x, ahead, err := queue.Put(q, a)
		if !same(x, 30, slices.Repeat([]api.Ask{a}, i+1)) || ahead != i || err != api.OK {
			t.Error(i, x, ahead, err)
		}
		q = x
	}
	x, l, err := queue.Take(q, 29)
	if !same(x, 30, []api.Ask{a}) || !slices.Equal(l, slices.Repeat([]api.Ask{a}, 29)) || err != api.OK {
		t.Error(x, l, err)
	}
}

// P120: what is wrong with a request comes before a lack of room for it.
func TestPutErrors(t *testing.T) {
	for most := 1; most <= 30; most++ {
		for n := range most + 1 {
			q := api.Queue{Most: most, Wait: asks(n)}
			check := func(a api.Ask, want api.Errno) {
				t.Helper()
				if x, ahead, err := queue.Put(q, a); !isZero(x) || ahead != 0 || err != want {
					t.Error(most, n, x, ahead, err)
				}
			}
			check(api.Ask{}, api.ErrForm)
			check(api.Ask{Name: "A", Value: "red"}, api.ErrForm)
			check(api.Ask{Name: "A", Value: badValues()[0]}, api.ErrForm)
			check(api.Ask{Name: "a", Value: badValues()[0]}, api.ErrLarge)
			if n == most {
				check(api.Ask{Name: "a", Value: "red"}, api.ErrFull)
			}
		}
	}
}

// P120: the first ones, in their order, or all there are.
func TestTake(t *testing.T) {
	for _, most := range []int{1, 2, 3, 29, 30} {
		for n := range most + 1 {
			l := asks(n)
			q := api.Queue{Most: most, Wait: asks(n)}
			for _, k := range append([]int{31, 32, 256, 1 << 32, 1<<32 + 1, math.MaxInt - 1, math.MaxInt}, upTo(30)...) {
				x, got, err := queue.Take(q, k)
				k = min(k, n)
				if !same(x, most, l[k:]) || !slices.Equal(got, l[:k]) || err != api.OK || !same(q, most, l) {
					t.Error(most, n, k, x, got, err)
				}
			}
			for _, k := range []int{math.MinInt, math.MinInt + 1, -1 << 32, -256, -30, -2, -1} {
				if x, got, err := queue.Take(q, k); !isZero(x) || len(got) != 0 || err != api.ErrRange {
					t.Error(most, n, k, x, got, err)
				}
			}
		}
	}
}

// upTo returns the numbers from 0 to n.
func upTo(n int) []int {
	var l []int
	for i := range n + 1 {
		l = append(l, i)
	}
	return l
}

// P120: requests leave in the order in which they came, however Put and Take alternate.
func TestOrder(t *testing.T) {
	for _, step := range [][2]int{{1, 1}, {2, 1}, {3, 2}, {5, 4}, {1, 3}, {7, 7}} {
		q := api.Queue{Most: 10}
		var in, out []api.Ask
		for i, a := range asks(30) {
			x, ahead, err := queue.Put(q, a)
			if full := len(in)-len(out) == 10; full {
				if !isZero(x) || ahead != 0 || err != api.ErrFull {
					t.Error(step, i, x, ahead, err)
				}
			} else {
				if ahead != len(in)-len(out) || err != api.OK {
					t.Error(step, i, ahead, err)
				}
				q, in = x, append(in, a)
			}
			if i%step[0] == 0 {
				rest, l, err := queue.Take(q, step[1])
				if err != api.OK {
					t.Error(step, i, err)
				}
				q, out = rest, append(out, l...)
			}
			if !same(q, 10, in[len(out):]) || !slices.Equal(out, in[:len(out)]) {
				t.Error(step, i, q, out)
			}
		}
	}
}

// waited counts the time until a request is taken that has so many ahead, batch by batch.
func waited(ahead, batch, every int) int {
	time := every
	for ahead >= batch {
		ahead -= batch
		time += every
	}
	return time
}

// P121: every number of requests and every batch.
func TestWait(t *testing.T) {
	for ahead := range 31 {
		for batch := 1; batch <= 30; batch++ {
			for _, every := range []int{1, 2, 5, 10, 255, 256, 500, 999, 1000} {
				if n, err := queue.Wait(ahead, batch, every); n != waited(ahead, batch, every) || err != api.OK {
					t.Error(ahead, batch, every, n, err)
				}
			}
		}
	}
}

// P121: the examples, and the first and the last request of a batch.
func TestWaitExample(t *testing.T) {
	for _, c := range [][4]int{
		{5, 2, 10, 30}, {3, 3, 5, 10}, {0, 1, 1, 1}, {0, 30, 1000, 1000}, {29, 30, 7, 7}, {30, 30, 7, 14},
		{2, 3, 5, 5}, {5, 3, 5, 10}, {6, 3, 5, 15}, {30, 1, 1, 31}, {30, 1, 1000, 31000}, {30, 29, 1000, 2000},
	} {
		if n, err := queue.Wait(c[0], c[1], c[2]); n != c[3] || err != api.OK {
			t.Error(c, n, err)
		}
	}
}

// P121: what Put returns is what Wait takes, and so many batches later the request is taken.
func TestWaitIsKept(t *testing.T) {
	for batch := 1; batch <= 30; batch++ {
		for n := range 30 {
			q, ahead, err := queue.Put(api.Queue{Most: 30, Wait: asks(n)}, api.Ask{Name: "me"})
			if err != api.OK {
				t.Fatal(batch, n, err)
			}
			time, err := queue.Wait(ahead, batch, 1)
			if err != api.OK {
				t.Fatal(batch, n, err)
			}
			for i := 1; i <= time; i++ {
				rest, l, err := queue.Take(q, batch)
				if slices.Contains(l, api.Ask{Name: "me"}) != (i == time) || err != api.OK {
					t.Error(batch, n, i, time, l, err)
				}
				q = rest
			}
		}
	}
}

// P121: numbers out of their range, one, two or all three of them.
func TestWaitRange(t *testing.T) {
	check := func(ahead, batch, every int) {
		t.Helper()
		if n, err := queue.Wait(ahead, batch, every); n != 0 || err != api.ErrRange {
			t.Error(ahead, batch, every, n, err)
		}
	}
	for _, far := range outside(0, 30) {
		for _, batch := range []int{1, 2, 30} {
			for _, every := range []int{1, 5, 1000} {
				check(far, batch, every)
			}
		}
	}
	for _, far := range outside(1, 30) {
		for _, ahead := range []int{0, 1, 30} {
			for _, every := range []int{1, 5, 1000} {
				check(ahead, far, every)
			}
		}
	}
	for _, far := range outside(1, 1000) {
		for _, ahead := range []int{0, 1, 30} {
			for _, batch := range []int{1, 2, 30} {
				check(ahead, batch, far)
			}
		}
	}
	for _, a := range []int{math.MinInt, -1, 0, 31, math.MaxInt} {
		for _, b := range []int{math.MinInt, -1, 0, 31, math.MaxInt} {
			for _, c := range []int{math.MinInt, -1, 0, 1001, math.MaxInt} {
				check(a, b, c)
			}
		}
	}
}
