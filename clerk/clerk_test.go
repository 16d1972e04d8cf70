package clerk_test

import (
	"fmt"
	"math"
	"slices"
	"strings"
	"testing"

	"tallyroll/api"
	"tallyroll/clerk"
	"tallyroll/head"
	"tallyroll/path"
	"tallyroll/tree"
)

const (
	mostTime = 1000000000
	m        = 1<<61 - 1
	// Values of one name with the same hash of their leaf.
	like      = "abcdefghijklmnopqrst"
	alsoAlike = "cfdfodilddpokdmpqrss"
)

// plain is a server that keeps its books as maps, and what is needed to write out the whole server.
type plain struct {
	most, batch, every int
	now                int64
	wait               []api.Ask
	books              []map[string]string
	ats                []int64
}

func newPlain(most, batch, every int) *plain {
	return &plain{most: most, batch: batch, every: every, books: []map[string]string{{}}, ats: []int64{0}}
}

func (p *plain) closed() bool {
	return len(p.books) == 40 || p.now+1 > mostTime
}

// names counts the names in the last book, those of the requests, and one more.
func (p *plain) names(more string) int {
	l := []string{more}
	for name := range p.books[len(p.books)-1] {
		l = append(l, name)
	}
	for _, a := range p.wait {
		l = append(l, a.Name)
	}
	slices.Sort(l)
	return len(slices.Compact(l))
}

// due goes through the times to come until a request with so many ahead is taken.
func (p *plain) due(ahead int) int64 {
	for at := p.now + 1; ; at++ {
		if at%int64(p.every) == 0 {
			if ahead -= p.batch; ahead < 0 {
				return at
			}
		}
	}
}

func (p *plain) ask(a api.Ask) (int64, api.Errno) {
	switch {
	case !path.Name(a.Name):
		return 0, api.ErrForm
	case len(a.Value) > 20:
		return 0, api.ErrLarge
	case p.closed():
		return 0, api.ErrState
	case len(p.wait) == p.most || p.names(a.Name) > 24:
		return 0, api.ErrFull
	}
	due := p.due(len(p.wait))
	p.wait = append(p.wait, a)
	return due, api.OK
}

func (p *plain) tick() bool {
	if p.closed() {
		return false
	}
	p.now++
	if p.now%int64(p.every) != 0 {
		return false
	}
	book := map[string]string{}
	for name, value := range p.books[len(p.books)-1] {
		book[name] = value
	}
	for range p.batch {
		if len(p.wait) > 0 {
			book[p.wait[0].Name] = p.wait[0].Value
			p.wait = p.wait[1:]
		}
	}
	p.books, p.ats = append(p.books, book), append(p.ats, p.now)
	return true
}

// sorted returns the entries of a book in their order.
func sorted(t *testing.T, book map[string]string) []api.Entry {
	t.Helper()
	var names []string
	for name := range book {
		names = append(names, name)
	}
	names, err := path.Sort(names)
	if err != api.OK {
		t.Fatal(names, err)
	}
	var l []api.Entry
	for _, name := range names {
		l = append(l, api.Entry{Name: name, Value: book[name]})
	}
	return l
}

// server writes out the whole server.
func (p *plain) server(t *testing.T) api.Clerk {
	t.Helper()
	c := api.Clerk{Queue: api.Queue{Most: p.most, Wait: slices.Clone(p.wait)}, Batch: p.batch, Every: p.every, Now: p.now}
	for i, b := range p.books {
		book := sorted(t, b)
		root, err := tree.Root(book)
		h := api.Head{Epoch: int64(i), Root: root, At: p.ats[i]}
		if err == api.OK && i > 0 {
			h.Prev, err = head.Mark(c.Heads[i-1])
		}
		if err != api.OK {
			t.Fatal(i, err)
		}
		c.Heads, c.Books = append(c.Heads, h), append(c.Books, book)
	}
	return c
}

// same reports whether two servers are the same, be their empty slices nil or not.
func same(c, d api.Clerk) bool {
	return c.Queue.Most == d.Queue.Most && slices.Equal(c.Queue.Wait, d.Queue.Wait) &&
		c.Batch == d.Batch && c.Every == d.Every && c.Now == d.Now &&
		slices.Equal(c.Heads, d.Heads) && slices.EqualFunc(c.Books, d.Books, slices.Equal[[]api.Entry])
}

// isZero reports whether nothing is left in a server that comes with an error.
func isZero(c api.Clerk) bool { return same(c, api.Clerk{}) }

// deep returns a copy of c that shares nothing with it.
func deep(c api.Clerk) api.Clerk {
	c.Queue.Wait, c.Heads = slices.Clone(c.Queue.Wait), slices.Clone(c.Heads)
	books := [][]api.Entry{}
	for _, b := range c.Books {
		books = append(books, slices.Clone(b))
	}
	c.Books = books
	return c
}

// outside returns numbers that are not from least to most.
func outside(least, most int) []int {
	return []int{math.MinInt, math.MinInt + 1, -1 << 32, least - 256, least - 2, least - 1, most + 1, most + 2, most + 256, 1 << 32, 1<<32 + 1, math.MaxInt - 1, math.MaxInt}
}

// made returns a server.
func made(t *testing.T, most, batch, every int) api.Clerk {
	t.Helper()
	c, err := clerk.New(most, batch, every)
	if err != api.OK {
		t.Fatal(most, batch, every, err)
	}
	return c
}

// asked returns the server c with requests to map each name of the list to the value that follows it.
func asked(t *testing.T, c api.Clerk, l ...string) api.Clerk {
	t.Helper()
	for i := 0; i < len(l); i += 2 {
		x, _, err := clerk.Ask(c, api.Ask{Name: l[i], Value: l[i+1]})
		if err != api.OK {
			t.Fatal(l[i], err)
		}
		c = x
	}
	return c
}

// ticked returns the server c after n ticks.
func ticked(t *testing.T, c api.Clerk, n int) api.Clerk {
	t.Helper()
	for i := range n {
		x, _, err := clerk.Tick(c)
		if err != api.OK {
			t.Fatal(i, err)
		}
		c = x
	}
	return c
}

// many returns n names, each followed by a value.
func many(from, n int) []string {
	var l []string
	for i := range n {
		l = append(l, fmt.Sprintf("n%d", from+i), fmt.Sprintf("v%d", i))
	}
	return l
}

// built returns a valid server at time now with the given requests, whose books have the given times.
func built(t *testing.T, now int64, wait []api.Ask, ats []int64, books ...map[string]string) api.Clerk {
	t.Helper()
	p := &plain{most: 30, batch: 2, every: 5, now: now, wait: wait, books: books, ats: ats}
	return p.server(t)
}

// P130: a new server, with all numbers in their ranges.
func TestNew(t *testing.T) {
	for most := 1; most <= 30; most++ {
		for batch := 1; batch <= 30; batch++ {
			for _, every := range []int{1, 2, 5, 999, 1000} {
				c, err := clerk.New(most, batch, every)
				if !same(c, newPlain(most, batch, every).server(t)) || err != api.OK || clerk.Check(c) != api.OK {
					t.Error(most, batch, every, c, err)
				}
			}
		}
	}
	c := made(t, 3, 2, 5)
	if len(c.Queue.Wait) != 0 || c.Now != 0 || len(c.Books) != 1 || len(c.Books[0]) != 0 || !slices.Equal(c.Heads, []api.Head{{Root: 1099511628212}}) {
		t.Error(c)
	}
}

// P130: numbers out of their range, one, two or all three of them.
func TestNewRange(t *testing.T) {
	check := func(most, batch, every int) {
		t.Helper()
		if c, err := clerk.New(most, batch, every); !isZero(c) || err != api.ErrRange {
			t.Error(most, batch, every, c, err)
		}
	}
	for _, far := range outside(1, 30) {
		for _, near := range []int{1, 2, 30} {
			for _, every := range []int{1, 5, 1000} {
				check(far, near, every)
				check(near, far, every)
				check(far, far, every)
			}
		}
	}
	for _, far := range outside(1, 1000) {
		for _, most := range []int{0, 1, 30, 31} {
			for _, batch := range []int{0, 1, 30, 31} {
				check(most, batch, far)
			}
		}
	}
}

// fault is what is wrong with a server, with its error.
type fault struct {
	spoil func(c *api.Clerk)
	want  api.Errno
}

// queueFaults returns what can be wrong with the queue.
func queueFaults() []fault {
	long := strings.Repeat("v", 21)
	return []fault{
		{func(c *api.Clerk) { c.Queue.Most = 0 }, api.ErrRange},
		{func(c *api.Clerk) { c.Queue.Most = 31 }, api.ErrRange},
		{func(c *api.Clerk) { c.Queue.Most = math.MinInt }, api.ErrRange},
		{func(c *api.Clerk) { c.Queue.Most = len(c.Queue.Wait) - 1 }, api.ErrFull},
		{func(c *api.Clerk) { c.Queue.Wait[1].Name = "" }, api.ErrForm},
		{func(c *api.Clerk) { c.Queue.Wait[0].Name = "A" }, api.ErrForm},
		{func(c *api.Clerk) { c.Queue.Wait[1].Value = long }, api.ErrLarge},
	}
}

// numberFaults returns what can be wrong with the numbers.
func numberFaults() []fault {
	var l []fault
	for _, n := range outside(1, 30) {
		l = append(l, fault{func(c *api.Clerk) { c.Batch = n }, api.ErrRange})
	}
	for _, n := range outside(1, 1000) {
		l = append(l, fault{func(c *api.Clerk) { c.Every = n }, api.ErrRange})
	}
	for _, n := range []int64{math.MinInt64, -mostTime, -1, mostTime + 1, 1 << 32, math.MaxInt64} {
		l = append(l, fault{func(c *api.Clerk) { c.Now = n }, api.ErrRange})
	}
	return l
}

// chainFaults returns what can be wrong with the heads alone.
func chainFaults() []fault {
	return []fault{
		{func(c *api.Clerk) { c.Heads = nil }, api.ErrNone},
		{func(c *api.Clerk) { c.Heads = []api.Head{} }, api.ErrNone},
		{func(c *api.Clerk) { c.Heads = make([]api.Head, 41) }, api.ErrLarge},
		{func(c *api.Clerk) { c.Heads[2].Root = m }, api.ErrRange},
		{func(c *api.Clerk) { c.Heads[0].Prev = 1 }, api.ErrForm},
		{func(c *api.Clerk) { c.Heads[2].At = mostTime + 1 }, api.ErrRange},
		{func(c *api.Clerk) { c.Heads[1].Prev++ }, api.ErrMark},
		{func(c *api.Clerk) { c.Heads[1].Root++ }, api.ErrMark},
		{func(c *api.Clerk) { c.Heads[2].At = 0 }, api.ErrMark},
		{func(c *api.Clerk) { c.Heads = slices.Delete(c.Heads, 1, 2) }, api.ErrMark},
	}
}

// cutFaults returns what can be wrong with the part of a chain that the heads are.
func cutFaults() []fault {
	return []fault{
		{func(c *api.Clerk) { c.Heads, c.Books = c.Heads[1:], c.Books[1:] }, api.ErrForm},
		{func(c *api.Clerk) { c.Heads, c.Books = c.Heads[2:], c.Books[2:] }, api.ErrForm},
		{func(c *api.Clerk) { c.Heads = c.Heads[1:] }, api.ErrForm},
		{func(c *api.Clerk) { c.Heads = c.Heads[:2] }, api.ErrForm},
	}
}

// shapeFaults returns what else can be wrong between the heads, the books and the time.
func shapeFaults() []fault {
	return []fault{
		{func(c *api.Clerk) { c.Books = nil }, api.ErrForm},
		{func(c *api.Clerk) { c.Books = c.Books[1:] }, api.ErrForm},
		{func(c *api.Clerk) { c.Books = c.Books[:2] }, api.ErrForm},
		{func(c *api.Clerk) { c.Books = append(c.Books, nil) }, api.ErrForm},
		{func(c *api.Clerk) { c.Books = make([][]api.Entry, 5000) }, api.ErrForm},
		{func(c *api.Clerk) { c.Now = 9 }, api.ErrForm},
		{func(c *api.Clerk) { c.Now = 0 }, api.ErrForm},
	}
}

// bookFaults returns what can be wrong with the books, from the first one on.
func bookFaults() []fault {
	long := strings.Repeat("v", 21)
	return []fault{
		{func(c *api.Clerk) { c.Books[0] = make([]api.Entry, 25) }, api.ErrLarge},
		{func(c *api.Clerk) { c.Books[0] = []api.Entry{{Name: "A"}} }, api.ErrForm},
		{func(c *api.Clerk) { c.Books[0] = []api.Entry{{Name: "a"}} }, api.ErrMark},
		{func(c *api.Clerk) { c.Books[1] = nil }, api.ErrMark},
		{func(c *api.Clerk) { c.Books[1] = append(c.Books[1], c.Books[1]...) }, api.ErrForm},
		{func(c *api.Clerk) { c.Books[1][0].Value = long }, api.ErrLarge},
		{func(c *api.Clerk) { c.Books[1][0].Value += "x" }, api.ErrMark},
		{func(c *api.Clerk) { c.Books[2][1].Name = "" }, api.ErrForm},
		{func(c *api.Clerk) { slices.Reverse(c.Books[2]) }, api.ErrForm},
		{func(c *api.Clerk) { c.Books[2] = c.Books[2][:1] }, api.ErrMark},
		{func(c *api.Clerk) { c.Books[2] = c.Books[1] }, api.ErrMark},
	}
}

// nameFaults returns the one thing that can be wrong with the number of names.
func nameFaults() []fault {
	return []fault{{func(c *api.Clerk) {
		for i := range 21 {
			c.Queue.Wait = append(c.Queue.Wait, api.Ask{Name: fmt.Sprintf("more%d", i)})
		}
	}, api.ErrFull}}
}

// sound returns a valid server with three books of none, two and three names, and two requests, one of which has another name.
func sound(t *testing.T) api.Clerk {
	t.Helper()
	c := ticked(t, asked(t, made(t, 30, 2, 5), "a", "1", "b", "2", "c", "3", "a", "4"), 12)
	c = asked(t, c, "b", "5", "d", "6")
	if len(c.Books) != 3 || len(c.Books[1]) != 2 || len(c.Books[2]) != 3 || len(c.Queue.Wait) != 2 || c.Now != 12 || clerk.Check(c) != api.OK {
		t.Fatal(c)
	}
	return c
}

// checkRefused requires that all functions return the error for the server c, whatever the other arguments are.
func checkRefused(t *testing.T, c api.Clerk, want api.Errno) {
	t.Helper()
	if err := clerk.Check(c); err != want {
		t.Errorf("Check: %d, want %d", err, want)
	}
	for _, a := range []api.Ask{{}, {Name: "a"}, {Name: "a", Value: strings.Repeat("v", 21)}} {
		if x, due, err := clerk.Ask(c, a); !isZero(x) || due != 0 || err != want {
			t.Errorf("Ask: %v, %d, %d, want %d", x, due, err, want)
		}
	}
	if x, more, err := clerk.Tick(c); !isZero(x) || more || err != want {
		t.Errorf("Tick: %v, %t, %d, want %d", x, more, err, want)
	}
	for _, epoch := range []int64{-1, 0, 1, 3, math.MaxInt64} {
		if l, err := clerk.Book(c, epoch); len(l) != 0 || err != want {
			t.Errorf("Book: %v, %d, want %d", l, err, want)
		}
	}
}

// P130: servers that are not valid.
func TestFaulty(t *testing.T) {
	for i, l := range [][]fault{queueFaults(), numberFaults(), chainFaults(), cutFaults(), shapeFaults(), bookFaults(), nameFaults()} {
		for k, f := range l {
			t.Run(fmt.Sprint(i, "/", k), func(t *testing.T) {
				c := sound(t)
				f.spoil(&c)
				checkRefused(t, c, f.want)
			})
		}
	}
	checkRefused(t, api.Clerk{}, api.ErrRange)
}

// checkBoth requires that a server with both a fault of each list has the error of the first one.
func checkBoth(t *testing.T, first, second []fault) {
	t.Helper()
	start := sound(t)
	for i, f := range first {
		for k, g := range second {
			c := deep(start)
			// The first fault goes on top of the second, so that it is there for certain.
			g.spoil(&c)
			f.spoil(&c)
			if err := clerk.Check(c); err != f.want {
				t.Errorf("%d and %d: %d, want %d", i, k, err, f.want)
			}
		}
	}
}

// P130: of two faults, the one that is listed first.
func TestFaultyTwice(t *testing.T) {
	kinds := [][]fault{queueFaults(), numberFaults(), chainFaults(), shapeFaults(), bookFaults(), nameFaults()}
	for i, first := range kinds {
		for _, second := range kinds[i+1:] {
			checkBoth(t, first, second)
		}
	}
	checkBoth(t, queueFaults(), cutFaults())
	checkBoth(t, numberFaults(), cutFaults())
	checkBoth(t, cutFaults(), bookFaults())
	checkBoth(t, cutFaults(), nameFaults())
	c := sound(t)
	c.Heads, c.Books = c.Heads[1:], c.Books[1:]
	c.Heads[1].Prev++
	checkRefused(t, c, api.ErrMark)
	c.Heads[1].At = -1
	checkRefused(t, c, api.ErrRange)
}

// P130: the books are checked one after the other, each first by itself and then against its head.
func TestBookOrder(t *testing.T) {
	form := []api.Entry{{Name: "A"}}
	large := make([]api.Entry, 25)
	mark := []api.Entry{{Name: "zz"}}
	for i, c := range []struct {
		books [3][]api.Entry
		want  api.Errno
	}{
		{[3][]api.Entry{mark, form, large}, api.ErrMark},
		{[3][]api.Entry{mark, large, form}, api.ErrMark},
		{[3][]api.Entry{form, mark, large}, api.ErrForm},
		{[3][]api.Entry{form, large, mark}, api.ErrForm},
		{[3][]api.Entry{large, form, mark}, api.ErrLarge},
		{[3][]api.Entry{large, mark, form}, api.ErrLarge},
		{[3][]api.Entry{nil, mark, form}, api.ErrMark},
		{[3][]api.Entry{nil, form, mark}, api.ErrForm},
		{[3][]api.Entry{nil, large, mark}, api.ErrLarge},
		{[3][]api.Entry{nil, mark, large}, api.ErrMark},
	} {
		x := sound(t)
		copy(x.Books, c.books[:])
		if err := clerk.Check(x); err != c.want {
			t.Error(i, err)
		}
		checkRefused(t, x, c.want)
	}
}

// P130: servers that New, Ask and Tick do not make can be valid too.
func TestCheckOthers(t *testing.T) {
	ask := []api.Ask{{Name: "a", N: math.MaxUint64, Tag: math.MaxUint64}, {Name: "a", N: math.MaxUint64, Tag: math.MaxUint64}}
	full := map[string]string{}
	for i := range 24 {
		full[fmt.Sprint("n", i)] = strings.Repeat("\xff", 20)
	}
	for i, c := range []api.Clerk{
		// The first book need not be empty, and its time need not be 0.
		built(t, 9, nil, []int64{9}, map[string]string{"a": "1"}),
		built(t, mostTime, ask, []int64{mostTime}, map[string]string{}),
		// Times need not be multiples of the interval, and none need be there.
		built(t, 3, ask, []int64{3, 3, 3}, map[string]string{}, map[string]string{"b": ""}, map[string]string{"b": ""}),
		built(t, 4000, nil, []int64{1, 2, 999}, map[string]string{}, map[string]string{}, map[string]string{}),
		// A book need not come from the one before it, and only the names of the last one count.
		built(t, 7, ask, []int64{1, 2}, full, map[string]string{"b": "2"}),
		built(t, 7, ask, []int64{1, 2, 3}, full, map[string]string{"b": "2"}, map[string]string{"c": "2"}),
		built(t, 7, nil, []int64{1, 2, 3}, map[string]string{"a": "1"}, full, full),
	} {
		if err := clerk.Check(c); err != api.OK {
			t.Error(i, err)
		}
		for k, want := range c.Books {
			if l, err := clerk.Book(c, int64(k)); !slices.Equal(l, want) || err != api.OK {
				t.Error(i, k, l, err)
			}
		}
	}
}

// P130: a head has the root of a book, and so has another book whose hashes collide.
func TestCheckCollision(t *testing.T) {
	c := ticked(t, asked(t, made(t, 3, 2, 1), "a", like), 2)
	for i := 1; i <= 2; i++ {
		x := deep(c)
		x.Books[i][0].Value = alsoAlike
		if err := clerk.Check(x); err != api.OK {
			t.Error(i, err)
		}
		if l, err := clerk.Book(x, int64(i)); !slices.Equal(l, []api.Entry{{Name: "a", Value: alsoAlike}}) || err != api.OK {
			t.Error(i, l, err)
		}
		y, more, err := clerk.Tick(x)
		if !more || err != api.OK || !slices.Equal(y.Books[3], x.Books[2]) {
			t.Error(i, y, more, err)
		}
	}
}

// crowd returns a server whose last book has so many names, and whose queue has so many others, and some of both once more.
func crowd(t *testing.T, in, waiting, again int) api.Clerk {
	t.Helper()
	book := map[string]string{}
	for i := range in {
		book[fmt.Sprint("n", i)] = "1"
	}
	var wait []api.Ask
	for i := range waiting {
		wait = append(wait, api.Ask{Name: fmt.Sprint("w", i)})
	}
	for i := range again {
		if i%2 == 0 && waiting > 0 || in == 0 {
			wait = append(wait, api.Ask{Name: fmt.Sprint("w", i%waiting)})
		} else {
			wait = append(wait, api.Ask{Name: fmt.Sprint("n", i%in)})
		}
	}
	return built(t, 7, wait, []int64{0, 5}, map[string]string{}, book)
}

// P130: distinct names count, in the last book and among the requests.
func TestCheckNames(t *testing.T) {
	for in := range 25 {
		for waiting := range 31 {
			for _, again := range []int{0, 1, 2, 5} {
				if waiting+again > 30 || in+waiting == 0 {
					continue
				}
				want := api.OK
				if in+waiting > 24 {
					want = api.ErrFull
				}
				if err := clerk.Check(crowd(t, in, waiting, again)); err != want {
					t.Error(in, waiting, again, err)
				}
			}
		}
	}
}

// P131: the name of the request counts too, unless it is there.
func TestAskNames(t *testing.T) {
	for in := range 25 {
		for waiting := 0; waiting+in <= 24; waiting++ {
			for _, again := range []int{0, 2, 5} {
				if in+waiting == 0 {
					continue
				}
				c := crowd(t, in, waiting, again)
				check := func(name string, want api.Errno) {
					t.Helper()
					x, due, err := clerk.Ask(c, api.Ask{Name: name})
					if err != want || isZero(x) != (err != api.OK) || (due == 0) != (err != api.OK) {
						t.Error(in, waiting, again, name, x, due, err)
					}
				}
				if in > 0 {
					check(fmt.Sprint("n", in-1), api.OK)
				}
				if waiting > 0 {
					check(fmt.Sprint("w", waiting-1), api.OK)
				}
				if in+waiting < 24 {
					check("new", api.OK)
				} else {
					check("new", api.ErrFull)
				}
			}
		}
	}
}

// P131: a request goes behind all others, whole, and nothing else changes.
func TestAsk(t *testing.T) {
	for _, c := range []api.Clerk{made(t, 30, 2, 5), sound(t), crowd(t, 20, 3, 4)} {
		for _, a := range []api.Ask{{Name: "a"}, {Name: "zzzzzzzzzzzz", Value: strings.Repeat("\xff", 20), N: math.MaxUint64, Tag: 7}, {Name: "0", N: 1, Tag: math.MaxUint64}} {
			want := deep(c)
			want.Queue.Wait = append(want.Queue.Wait, a)
			if x, _, err := clerk.Ask(c, a); !same(x, want) || err != api.OK {
				t.Error(x, err)
			}
		}
	}
}

// P131: the time is the same as goes by until the request is taken, at every time and with every number of requests before it.
func TestDue(t *testing.T) {
	for _, most := range []int{1, 7, 30} {
		for _, batch := range []int{1, 2, 3, 7, 29, 30} {
			for _, every := range []int{1, 2, 5, 7} {
				c := made(t, most, batch, every)
				p := newPlain(most, batch, every)
				for range 2*every + 2 {
					x := c
					for ahead := range most {
						y, due, err := clerk.Ask(x, api.Ask{Name: "a", N: uint64(ahead)})
						if due != p.due(ahead) || err != api.OK {
							t.Error(most, batch, every, c.Now, ahead, due, err)
						}
						x = y
					}
					c = ticked(t, c, 1)
					p.tick()
				}
			}
		}
	}
}

// P131: the times of the examples, and times at which the interval begins and ends.
func TestDueExample(t *testing.T) {
	for i, c := range []struct {
		batch, every int
		now          int64
		ahead        int
		want         int64
	}{
		{1, 5, 0, 0, 5}, {2, 5, 0, 1, 5}, {2, 5, 0, 2, 10}, {3, 5, 0, 3, 10}, {2, 10, 0, 5, 30},
		{1, 5, 1, 0, 5}, {1, 5, 4, 0, 5}, {1, 5, 5, 0, 10}, {1, 5, 6, 0, 10}, {1, 5, 4, 1, 10}, {1, 5, 5, 1, 15},
		{1, 1, 0, 0, 1}, {1, 1, 38, 0, 39}, {1, 1000, 999, 0, 1000}, {1, 1000, 1000, 29, 31000},
		// The time is not held against the greatest time, nor against the number of heads.
		{1, 1000, mostTime - 1, 0, mostTime}, {1, 1000, mostTime - 1, 1, mostTime + 1000}, {1, 7, mostTime - 1, 2, 1000000015},
		{1, 1000, mostTime - 1001, 1, mostTime},
	} {
		x := made(t, 30, c.batch, c.every)
		x.Now = c.now
		for range c.ahead {
			x = asked(t, x, "b", "")
		}
		if _, due, err := clerk.Ask(x, api.Ask{Name: "a"}); due != c.want || err != api.OK {
			t.Error(i, due, err)
		}
	}
	// Any time that a chain of 39 heads can still wait for, and beyond.
	x := ticked(t, made(t, 30, 1, 1), 38)
	for i := range 30 {
		y, due, err := clerk.Ask(x, api.Ask{Name: "a"})
		if len(x.Heads) != 39 || due != int64(39+i) || err != api.OK {
			t.Error(i, due, err)
		}
		x = y
	}
}

// P131: what is accepted is in a book at the time that Ask tells, and not before.
func TestDueIsKept(t *testing.T) {
	for _, batch := range []int{1, 2, 3, 30} {
		for _, every := range []int{1, 2, 5} {
			c := made(t, 30, batch, every)
			promised := map[string]int64{}
			for i := range 18 * every {
				if i%3 != 0 && len(promised) < 24 {
					name := fmt.Sprint("n", i)
					x, due, err := clerk.Ask(c, api.Ask{Name: name, Value: name})
					if err != api.OK {
						t.Fatal(batch, every, i, err)
					}
					c, promised[name] = x, due
				}
				c = ticked(t, c, 1)
				for name, due := range promised {
					value, there, err := tree.Get(c.Books[len(c.Books)-1], name)
					if there != (due <= c.Now) || there && value != name || err != api.OK {
						t.Error(batch, every, i, name, due, c.Now, there, value, err)
					}
				}
			}
		}
	}
}

// P131: what is wrong with a request comes first, then the state of the server, then a lack of room.
func TestAskErrors(t *testing.T) {
	long := strings.Repeat("v", 21)
	full := made(t, 3, 1, 1)
	full = asked(t, full, "a", "1", "b", "2", "a", "3")
	open := asked(t, made(t, 3, 1, 1), "a", "1")
	crowded := crowd(t, 20, 4, 0)
	shut := func(c api.Clerk) api.Clerk {
		c.Now = mostTime
		return c
	}
	ended := ticked(t, open, 39)
	endedFull := deep(ended)
	endedFull.Queue = full.Queue
	for i, c := range []struct {
		c    api.Clerk
		want api.Errno
	}{
		{open, api.OK}, {full, api.ErrFull}, {crowded, api.ErrFull},
		{shut(open), api.ErrState}, {shut(full), api.ErrState}, {shut(crowded), api.ErrState},
		{ended, api.ErrState}, {endedFull, api.ErrState},
	} {
		for _, name := range []string{"", "A", "a b", strings.Repeat("a", 13), "\xff"} {
			for _, value := range []string{"", long} {
				if x, due, err := clerk.Ask(c.c, api.Ask{Name: name, Value: value}); !isZero(x) || due != 0 || err != api.ErrForm {
					t.Errorf("%d: %q: %v, %d, %d", i, name, x, due, err)
				}
			}
		}
		for _, name := range []string{"a", "new"} {
			if x, due, err := clerk.Ask(c.c, api.Ask{Name: name, Value: long}); !isZero(x) || due != 0 || err != api.ErrLarge {
				t.Error(i, name, x, due, err)
			}
		}
		x, due, err := clerk.Ask(c.c, api.Ask{Name: "new"})
		if err != c.want || isZero(x) != (err != api.OK) || (due == 0) != (err != api.OK) {
			t.Error(i, x, due, err)
		}
	}
	if x, due, err := clerk.Ask(full, api.Ask{Name: "a"}); !isZero(x) || due != 0 || err != api.ErrFull {
		t.Error(x, due, err)
	}
}

// P132: the second tick with an interval of two publishes the first book.
func TestTickExample(t *testing.T) {
	c := asked(t, made(t, 3, 2, 2), "a", "1")
	x, more, err := clerk.Tick(c)
	if more || len(x.Heads) != 1 || len(x.Queue.Wait) != 1 || x.Now != 1 || err != api.OK {
		t.Error(x, more, err)
	}
	x, more, err = clerk.Tick(x)
	if !more || len(x.Heads) != 2 || x.Heads[1].Epoch != 1 || x.Heads[1].At != 2 || len(x.Queue.Wait) != 0 || x.Now != 2 || err != api.OK {
		t.Error(x, more, err)
	}
	if l, err := clerk.Book(x, 1); !slices.Equal(l, []api.Entry{{Name: "a", Value: "1"}}) || err != api.OK {
		t.Error(l, err)
	}
	if l, err := clerk.Book(x, 0); len(l) != 0 || err != api.OK {
		t.Error(l, err)
	}
}

// P132: of requests for one name in one batch, the last one stays; in two batches, each has its book.
func TestTickOrder(t *testing.T) {
	c := asked(t, made(t, 30, 3, 1), "a", "1", "b", "1", "a", "2", "a", "3", "b", "4")
	for i, want := range [][2]string{{"2", "1"}, {"3", "4"}, {"3", "4"}} {
		c = ticked(t, c, 1)
		a, _, _ := tree.Get(c.Books[i+1], "a")
		b, _, _ := tree.Get(c.Books[i+1], "b")
		if a != want[0] || b != want[1] || len(c.Queue.Wait) != []int{2, 0, 0}[i] {
			t.Error(i, a, b, c.Queue)
		}
	}
}

// walk takes a server through asks and ticks, chosen by seed, and compares it with a plain one after each.
func walk(t *testing.T, most, batch, every int, seed uint32) {
	t.Helper()
	c, p := made(t, most, batch, every), newPlain(most, batch, every)
	next := func(n uint32) uint32 {
		seed = seed*1664525 + 1013904223
		return seed >> 8 % n
	}
	for i := range 42 * every {
		for range next(uint32(2 + batch)) {
			a := api.Ask{Name: fmt.Sprint("n", next(30)), Value: strings.Repeat("v", int(next(22))), N: uint64(next(3)), Tag: uint64(i)}
			if next(20) == 0 {
				a.Name = "A"
			}
			due, want := p.ask(a)
			x, got, err := clerk.Ask(c, a)
			if err != want || got != due || err != api.OK && !isZero(x) {
				t.Fatal(most, batch, every, i, a, got, due, err, want)
			}
			if err == api.OK {
				c = x
			}
		}
		before := deep(c)
		x, more, err := clerk.Tick(c)
		if more != p.tick() || err != api.OK || !same(x, p.server(t)) || !same(c, before) || clerk.Check(x) != api.OK {
			t.Fatal(most, batch, every, i, more, err)
		}
		c = x
	}
	for k := range c.Books {
		if l, err := clerk.Book(c, int64(k)); !slices.Equal(l, sorted(t, p.books[k])) || err != api.OK {
			t.Error(most, batch, every, k, l, err)
		}
	}
	if len(c.Heads) != 40 || c.Now != int64(39*every) {
		t.Error(most, batch, every, len(c.Heads), c.Now)
	}
}

// P130 to P132: servers from their beginning until they are closed.
func TestWalk(t *testing.T) {
	for i, c := range [][3]int{{1, 1, 1}, {3, 1, 1}, {30, 1, 1}, {30, 30, 1}, {2, 30, 2}, {10, 3, 2}, {10, 3, 5}, {30, 7, 3}} {
		walk(t, c[0], c[1], c[2], uint32(i)*7919+1)
	}
}

// P132: after the last head nothing changes, whatever waits.
func TestClosedByHeads(t *testing.T) {
	c := ticked(t, asked(t, made(t, 30, 1, 2), "a", "1"), 77)
	if len(c.Heads) != 39 || c.Now != 77 {
		t.Fatal(len(c.Heads), c.Now)
	}
	c = asked(t, c, "b", "1", "c", "1", "d", "1")
	c, more, err := clerk.Tick(c)
	if len(c.Heads) != 40 || len(c.Books) != 40 || c.Now != 78 || !more || err != api.OK || len(c.Queue.Wait) != 2 {
		t.Fatal(len(c.Heads), c.Now, more, err)
	}
	checkClosed(t, c)
	// The time does not matter then, be it before or at the next multiple.
	for _, now := range []int64{79, 80, 81, mostTime - 1, mostTime} {
		c.Now = now
		checkClosed(t, c)
	}
}

// checkClosed requires that the server c is closed.
func checkClosed(t *testing.T, c api.Clerk) {
	t.Helper()
	if err := clerk.Check(c); err != api.OK {
		t.Error(err)
	}
	for range 3 {
		x, more, err := clerk.Tick(c)
		if !same(x, c) || more || err != api.OK {
			t.Error(x.Now, len(x.Heads), more, err)
		}
	}
	if x, due, err := clerk.Ask(c, api.Ask{Name: "a"}); !isZero(x) || due != 0 || err != api.ErrState {
		t.Error(x, due, err)
	}
	last := len(c.Books) - 1
	if l, err := clerk.Book(c, int64(last)); !slices.Equal(l, c.Books[last]) || err != api.OK {
		t.Error(l, err)
	}
}

// P132: the greatest time is reached, with or without a book, and nothing changes after it.
func TestClosedByTime(t *testing.T) {
	for _, c := range []struct {
		every int
		more  bool
	}{{1, true}, {2, true}, {3, false}, {5, true}, {7, false}, {999, false}, {1000, true}} {
		x := asked(t, made(t, 30, 2, c.every), "a", "1", "b", "2", "c", "3")
		x.Now = mostTime - 2
		x = ticked(t, x, 1)
		heads := len(x.Heads)
		if y, _, err := clerk.Ask(x, api.Ask{Name: "d"}); isZero(y) || err != api.OK {
			t.Error(c, y, err)
		}
		y, more, err := clerk.Tick(x)
		if y.Now != mostTime || more != c.more || (len(y.Heads) == heads+1) != c.more || err != api.OK {
			t.Error(c, y, more, err)
		}
		if h := y.Heads[len(y.Heads)-1]; c.more && h.At != mostTime {
			t.Error(c, h)
		}
		checkClosed(t, y)
	}
	x := made(t, 1, 1, 1)
	x.Now = mostTime
	checkClosed(t, x)
}

// P132: every epoch that there is, and others.
func TestBook(t *testing.T) {
	c := ticked(t, asked(t, made(t, 30, 1, 1), many(0, 24)...), 30)
	for k := range int64(31) {
		want := map[string]string{}
		l := many(0, 24)
		for i := range min(int(k), 24) {
			want[l[2*i]] = l[2*i+1]
		}
		if got, err := clerk.Book(c, k); !slices.Equal(got, sorted(t, want)) || err != api.OK {
			t.Error(k, got, err)
		}
	}
	for _, k := range []int64{math.MinInt64, -1 << 32, -256, -1, 31, 32, 40, 256, 1 << 32, 1<<32 + 1, math.MaxInt64} {
		if l, err := clerk.Book(c, k); len(l) != 0 || err != api.ErrRange {
			t.Error(k, l, err)
		}
	}
}
