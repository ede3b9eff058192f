package cache

import (
	"math"
	"math/rand"
	"slices"
	"testing"

	"tidewrack/row"
	"tidewrack/spans"
)

// of is glyphs of a text.
func of(s string) []row.Glyph {
	var l []row.Glyph
	for _, x := range s {
		l = append(l, row.Glyph{Rune: x, Style: len(s)})
	}
	return l
}

// put is Put, whose answer must be this.
func put(t *testing.T, c *Cache, i int, s string, went int, ok bool) {
	t.Helper()
	if w, o := c.Put(i, of(s)); w != went || o != ok {
		t.Fatalf("Put %d: %d, %t, want %d, %t", i, w, o, went, ok)
	}
}

// plain is a cache as the chapter tells it: lines, the eldest one first.
type plain struct {
	most  int
	lines []numbered
}

type numbered struct {
	i      int
	glyphs []row.Glyph
}

func (p *plain) at(i int) int {
	return slices.IndexFunc(p.lines, func(l numbered) bool { return l.i == i })
}

func (p *plain) put(i int, l []row.Glyph) (int, bool) {
	if i < 0 || i > 1152921504606846976 {
		return 0, false
	}
	p.lines = slices.DeleteFunc(p.lines, func(x numbered) bool { return x.i == i })
	p.lines = append(p.lines, numbered{i, slices.Clone(l)})
	if len(p.lines) <= p.most {
		return 0, false
	}
	went := p.lines[0].i
	p.lines = p.lines[1:]
	return went, true
}

func (p *plain) get(i int) {
	if at := p.at(i); at >= 0 {
		l := p.lines[at]
		p.lines = append(slices.Delete(p.lines, at, at+1), l)
	}
}

func (p *plain) clone() *plain {
	return &plain{p.most, slices.Clone(p.lines)}
}

// order is all numbers, the eldest one first.
func (p *plain) order() []int {
	var l []int
	for _, x := range p.lines {
		l = append(l, x.i)
	}
	return l
}

// spans are those of all numbers, of which the last one that may be is in none.
func (p *plain) spans() []spans.Span {
	var l []spans.Span
	for _, i := range slices.Sorted(slices.Values(p.order())) {
		switch k := len(l); {
		case i == 1152921504606846976:
		case k > 0 && l[k-1].To == i:
			l[k-1].To++
		default:
			l = append(l, spans.Span{From: i, To: i + 1})
		}
	}
	return l
}

// peeked is Peek's answer, or Get's.
func (p *plain) peeked(t *testing.T, i int, l []row.Glyph, ok bool) {
	t.Helper()
	at := p.at(i)
	if ok != (at >= 0) || !ok && l != nil || ok && !slices.Equal(l, p.lines[at].glyphs) {
		t.Fatalf("line %d: %v, %t; there are %v", i, l, ok, p.lines)
	}
}

// check: P14.2, and all that is told.
func (p *plain) check(t *testing.T, c *Cache) {
	t.Helper()
	if got := c.Order(); !slices.Equal(got, p.order()) || c.Len() != len(p.lines) || c.Len() > p.most {
		t.Fatalf("%d of at most %d, in the order %d, want %d", c.Len(), p.most, got, p.order())
	}
	if got := c.Spans(); !slices.Equal(got, p.spans()) {
		t.Fatalf("%d: %d, want %d", p.order(), got, p.spans())
	}
	for _, x := range p.lines {
		l, ok := c.Peek(x.i)
		p.peeked(t, x.i, l, ok)
	}
}

// The chapter's example.
func TestExample(t *testing.T) {
	c := New(2)
	put(t, c, 1, "one", 0, false)
	put(t, c, 2, "two", 0, false)
	if l, ok := c.Get(1); !ok || !slices.Equal(l, of("one")) {
		t.Errorf("%v, %t", l, ok)
	}
	put(t, c, 3, "three", 2, true)
	if !slices.Equal(c.Order(), []int{1, 3}) || c.Len() != 2 {
		t.Errorf("%d", c.Order())
	}
}

func TestNew(t *testing.T) {
	for _, most := range []int{math.MinInt, -1, 0, 1, 2, 65536, math.MaxInt} {
		c := New(most)
		(&plain{most: 1}).check(t, c)
		if l, ok := c.Get(0); ok || l != nil {
			t.Errorf("%v", l)
		}
		c.Clear()
		(&plain{most: 1}).check(t, c.Clone())
	}
}

// At most so many lines are at hand as may be, counted as the nearest of 1 to 2^16; the eldest one goes.
func TestMost(t *testing.T) {
	for _, x := range []struct{ most, want int }{
		{math.MinInt, 1}, {-65536, 1}, {-1, 1}, {0, 1}, {1, 1}, {2, 2}, {3, 3}, {100, 100}, {65535, 65535}, {65536, 65536}, {65537, 65536}, {1 << 20, 65536}, {1 << 32, 65536}, {1<<32 + 1, 65536}, {math.MaxInt, 65536},
	} {
		c := New(x.most)
		for i := range x.want {
			put(t, c, i*3, "x", 0, false)
		}
		d := c.Clone()
		for _, c := range []*Cache{c, d} {
			if c.Len() != x.want {
				t.Fatalf("%d: %d", x.most, c.Len())
			}
			for i := range min(x.want, 50) {
				put(t, c, i*3+1, "y", i*3, true)
				if c.Len() != x.want {
					t.Fatalf("%d: %d", x.most, c.Len())
				}
			}
			if x.want < 50 && !slices.Equal(c.Order(), slices.DeleteFunc(upTo(3*x.want), func(i int) bool { return i%3 != 1 })) {
				t.Errorf("%d: %d", x.most, c.Order())
			}
		}
		// Behind Clear as many may be as were.
		c.Clear()
		for i := range x.want {
			put(t, c, i, "z", 0, false)
		}
		put(t, c, x.want, "z", 0, true)
	}
}

// upTo are the numbers from 0 up to ahead of n.
func upTo(n int) []int {
	var l []int
	for i := range n {
		l = append(l, i)
	}
	return l
}

// Put of numbers that may be, and that may not: nothing is put, and nothing goes.
func TestNumbers(t *testing.T) {
	const last = 1152921504606846976
	c, p := New(2), &plain{most: 2}
	for _, i := range []int{math.MinInt, math.MinInt + 1, -last, -1, last + 1, last + 2, math.MaxInt - 1, math.MaxInt} {
		put(t, c, i, "no", 0, false)
		for _, ask := range []func(int) ([]row.Glyph, bool){c.Get, c.Peek} {
			if l, ok := ask(i); ok || l != nil {
				t.Errorf("%d: %v", i, l)
			}
		}
		p.check(t, c)
	}
	for _, i := range []int{0, last, 1, last - 1, last, math.MaxInt, 0, -1, last - 2, last + 1, last - 1, last} {
		l := of(string(rune('a' + i&7)))
		went, ok := c.Put(i, l)
		if w, o := p.put(i, l); w != went || o != ok {
			t.Errorf("Put %d: %d, %t, want %d, %t", i, went, ok, w, o)
		}
		p.check(t, c)
	}
	// Layer 13 has numbers up to 2^60 - 1.
	c = New(5)
	put(t, c, last, "last", 0, false)
	if c.Len() != 1 || c.Spans() != nil || !slices.Equal(c.Order(), []int{last}) {
		t.Errorf("%d, %d", c.Spans(), c.Order())
	}
	put(t, c, last-1, "ahead of it", 0, false)
	put(t, c, 0, "first", 0, false)
	if got := c.Spans(); c.Len() != 3 || !slices.Equal(got, []spans.Span{{From: 0, To: 1}, {From: last - 1, To: last}}) || !slices.Equal(c.Order(), []int{last, last - 1, 0}) {
		t.Errorf("%d, %d", got, c.Order())
	}
	if l, ok := c.Get(last); !ok || !slices.Equal(l, of("last")) {
		t.Errorf("%v, %t", l, ok)
	}
}

// Put of a line that is at hand: that one is it from now on, is the newest one, and none goes.
func TestPutAgain(t *testing.T) {
	c, p := New(3), &plain{most: 3}
	for k, i := range []int{5, 6, 7, 5, 6, 6, 7, 5, 8, 7, 6, 9, 9, 8, 8, 5} {
		l := of(string(rune('a' + k)))
		went, ok := c.Put(i, l)
		if w, o := p.put(i, l); w != went || o != ok {
			t.Errorf("Put %d: %d, %t, want %d, %t", i, went, ok, w, o)
		}
		p.check(t, c)
	}
	one := New(1)
	put(t, one, 4, "a", 0, false)
	put(t, one, 4, "b", 0, false)
	put(t, one, 5, "c", 4, true)
	put(t, one, 0, "d", 5, true)
	put(t, one, 1, "e", 0, true)
	if l, ok := one.Peek(1); !ok || !slices.Equal(l, of("e")) || one.Len() != 1 {
		t.Errorf("%v", l)
	}
}

// Lines of no glyphs are at hand as others are; lines may have any glyphs, and as many as they like.
func TestLines(t *testing.T) {
	long := slices.Repeat(of("abc"), 2000)
	odd := []row.Glyph{{Rune: math.MinInt32, Style: math.MinInt}, {Rune: math.MaxInt32, Style: math.MaxInt}, {}}
	c := New(9)
	for i, l := range [][]row.Glyph{nil, {}, long[:0], long, odd} {
		c.Put(i, l)
		for _, ask := range []func(int) ([]row.Glyph, bool){c.Get, c.Peek, c.Clone().Get, c.Clone().Peek} {
			if got, ok := ask(i); !ok || !slices.Equal(got, l) {
				t.Errorf("%d: %d glyphs, %t", i, len(got), ok)
			}
		}
	}
	if c.Len() != 5 || !slices.Equal(c.Spans(), []spans.Span{{From: 0, To: 5}}) {
		t.Errorf("%d", c.Spans())
	}
	c.Put(3, nil)
	if got, ok := c.Peek(3); !ok || len(got) > 0 || c.Len() != 5 {
		t.Errorf("%v, %t", got, ok)
	}
}

// Get makes a line the newest one, Peek doesn't: which one goes then. Of one that isn't at hand neither changes anything.
func TestGetPeek(t *testing.T) {
	for _, x := range []struct {
		get, peek []int
		want      []int
	}{
		{nil, nil, []int{0, 1, 2}}, {nil, []int{0}, []int{0, 1, 2}}, {nil, []int{2, 1, 0, 0}, []int{0, 1, 2}},
		{[]int{0}, nil, []int{1, 2, 0}}, {[]int{1}, nil, []int{0, 2, 1}}, {[]int{2}, nil, []int{0, 1, 2}}, {[]int{0, 0}, nil, []int{1, 2, 0}}, {[]int{0, 1}, nil, []int{2, 0, 1}}, {[]int{1, 0}, []int{2}, []int{2, 1, 0}}, {[]int{2, 1, 0}, []int{1, 2}, []int{2, 1, 0}}, {[]int{0, 1, 2}, nil, []int{0, 1, 2}},
		{[]int{3}, []int{-1}, []int{0, 1, 2}}, {[]int{-1, math.MinInt, math.MaxInt, 1 << 60}, nil, []int{0, 1, 2}}, {[]int{0, 7, 2, -1}, []int{1}, []int{1, 0, 2}},
	} {
		c := New(3)
		for i := range 3 {
			put(t, c, i, string(rune('a'+i)), 0, false)
		}
		for k, i := range slices.Concat(x.get, x.peek) {
			ask := c.Peek
			if k < len(x.get) {
				ask = c.Get
			}
			l, ok := ask(i)
			if has := i >= 0 && i < 3; ok != has || has && !slices.Equal(l, of(string(rune('a'+i)))) || !has && l != nil {
				t.Errorf("%d: %v, %t", i, l, ok)
			}
		}
		if !slices.Equal(c.Order(), x.want) {
			t.Errorf("Get %d, Peek %d: %d, want %d", x.get, x.peek, c.Order(), x.want)
		}
		for k, i := range x.want {
			put(t, c, 10+k, "z", i, true)
		}
	}
}

// A line that went isn't at hand any more, and may come again.
func TestWent(t *testing.T) {
	c := New(2)
	put(t, c, 1, "a", 0, false)
	put(t, c, 2, "b", 0, false)
	put(t, c, 3, "c", 1, true)
	for _, ask := range []func(int) ([]row.Glyph, bool){c.Get, c.Peek} {
		if l, ok := ask(1); ok || l != nil {
			t.Errorf("%v", l)
		}
	}
	put(t, c, 1, "d", 2, true)
	if l, ok := c.Peek(1); !ok || !slices.Equal(l, of("d")) || !slices.Equal(c.Order(), []int{3, 1}) {
		t.Errorf("%v, %d", l, c.Order())
	}
}

// Clear, and what comes behind it.
func TestClear(t *testing.T) {
	for _, n := range []int{0, 1, 2, 3, 4} {
		c, p := New(3), &plain{most: 3}
		for i := range n {
			c.Put(i, of("a"))
		}
		d := c.Clone()
		c.Clear()
		p.check(t, c)
		for i := range n {
			if l, ok := c.Get(i); ok || l != nil {
				t.Errorf("%v", l)
			}
		}
		c.Clear()
		p.check(t, c)
		for _, i := range []int{2, 9, 2, 0, 5, 6} {
			went, ok := c.Put(i, of("b"))
			if w, o := p.put(i, of("b")); w != went || o != ok {
				t.Errorf("Put %d: %d, %t, want %d, %t", i, went, ok, w, o)
			}
			p.check(t, c)
		}
		if d.Len() != min(n, 3) {
			t.Errorf("the Clone has %d", d.Len())
		}
	}
}

// do is one of the calls, upon a cache and what the chapter tells.
func do(t *testing.T, c *Cache, p *plain, call, i int, l []row.Glyph) {
	t.Helper()
	switch call {
	case 0:
		went, ok := c.Put(i, l)
		if w, o := p.put(i, l); w != went || o != ok {
			t.Fatalf("Put %d: %d, %t, want %d, %t", i, went, ok, w, o)
		}
	case 1:
		got, ok := c.Get(i)
		p.peeked(t, i, got, ok)
		p.get(i)
	case 2:
		got, ok := c.Peek(i)
		p.peeked(t, i, got, ok)
	case 3:
		c.Clear()
		p.lines = nil
	}
}

// P14.1, P14.2: all orders of five calls upon four lines, of caches of one to three.
func TestAllCalls(t *testing.T) {
	var calls [][2]int
	for i := range 4 {
		calls = append(calls, [2]int{0, i}, [2]int{1, i})
	}
	calls = append(calls, [2]int{2, 0}, [2]int{3, 0})
	for most := 1; most <= 3; most++ {
		for order := range 100000 {
			c, p := New(most), &plain{most: most}
			for k, left := 0, order; k < 5; k++ {
				x := calls[left%10]
				left /= 10
				do(t, c, p, x[0], x[1], []row.Glyph{{Rune: rune(k), Style: x[1]}})
			}
			p.check(t, c)
		}
	}
}

// P14.1, P14.2: each call, behind any calls; a Clone goes its own way.
func TestAnyCalls(t *testing.T) {
	random := rand.New(rand.NewSource(14))
	numbers := []int{-1, 0, 1, 2, 3, 4, 5, 6, 7, 8, 100, 101, 1<<60 - 2, 1<<60 - 1, 1 << 60, 1<<60 + 1, math.MinInt, math.MaxInt}
	for range 400 {
		most := random.Intn(9) - 1
		caches, models := []*Cache{New(most)}, []*plain{{most: max(most, 1)}}
		for step := range 120 {
			k := random.Intn(len(caches))
			i := numbers[random.Intn(len(numbers))]
			switch call := random.Intn(40); {
			case call == 0 && len(caches) < 4:
				caches, models = append(caches, caches[k].Clone()), append(models, models[k].clone())
			case call == 1:
				do(t, caches[k], models[k], 3, 0, nil)
			default:
				l := slices.Repeat([]row.Glyph{{Rune: rune(step), Style: k}}, random.Intn(4))
				do(t, caches[k], models[k], call%3, i, l)
			}
			for j := range caches {
				models[j].check(t, caches[j])
			}
		}
	}
}

// Of as many lines as may be, those go that weren't asked for longest.
func TestMany(t *testing.T) {
	const n = 65536
	c := New(n)
	random := rand.New(rand.NewSource(15))
	order := random.Perm(n)
	for _, i := range order {
		put(t, c, 2*i, "x", 0, false)
	}
	if got := c.Spans(); len(got) != n || got[n-1] != (spans.Span{From: 2*n - 2, To: 2*n - 1}) || c.Len() != n {
		t.Errorf("%d spans", len(got))
	}
	// The first half is asked for: the second one is the elder then.
	for _, i := range order[:n/2] {
		if _, ok := c.Get(2 * i); !ok {
			t.Fatalf("line %d isn't there", 2*i)
		}
	}
	for k, i := range append(slices.Clone(order[n/2:]), order[:n/2]...) {
		put(t, c, 2*k+1, "y", 2*i, true)
	}
	if got := c.Spans(); len(got) != n || got[0] != (spans.Span{From: 1, To: 2}) {
		t.Errorf("%d spans", len(got))
	}
	for i := range n {
		c.Put(i, nil)
	}
	if got := c.Spans(); !slices.Equal(got, []spans.Span{{From: 0, To: n}}) || !slices.Equal(c.Order(), upTo(n)) {
		t.Errorf("%d spans", len(got))
	}
}

// spoil changes a line, its spare room too.
func spoil(l []row.Glyph) {
	l = l[:cap(l)]
	for i := range l {
		l[i] = row.Glyph{Rune: 'Z', Style: 99}
	}
}

// What is handed in stays, its spare room too, and isn't kept.
func TestHandedIn(t *testing.T) {
	l := append(make([]row.Glyph, 0, 8), of("abcd")...)
	c := New(3)
	c.Put(1, l[:2])
	c.Put(2, l[1:3])
	c.Put(3, l[:0])
	c.Get(1)
	c.Put(1, l[:2])
	if !slices.Equal(l[:8], append(of("abcd"), make([]row.Glyph, 4)...)) {
		t.Errorf("%v", l[:8])
	}
	spoil(l)
	for i, want := range map[int][]row.Glyph{1: of("abcd")[:2], 2: of("abcd")[1:3], 3: nil} {
		if got, ok := c.Peek(i); !ok || !slices.Equal(got, want) {
			t.Errorf("%d: %v", i, got)
		}
	}
}

// What is answered shares no memory with a cache, a Clone, or another answer.
func TestAnswersAreNew(t *testing.T) {
	c := New(4)
	for i := range 3 {
		put(t, c, 2*i, "abc", 0, false)
	}
	d := c.Clone()
	for range 2 {
		for _, ask := range []func(int) ([]row.Glyph, bool){c.Get, c.Peek, d.Get, d.Peek} {
			first, _ := ask(2)
			second, _ := ask(2)
			spoil(first)
			if !slices.Equal(second, of("abc")) {
				t.Errorf("%v", second)
			}
		}
		where, order := c.Spans(), c.Order()
		again, orderAgain := c.Spans(), c.Order()
		for i := range where {
			where[i] = spans.Span{From: 7, To: 9}
		}
		for i := range order {
			order[i] = 77
		}
		if want := []spans.Span{{From: 0, To: 1}, {From: 2, To: 3}, {From: 4, To: 5}}; !slices.Equal(again, want) || !slices.Equal(c.Spans(), want) {
			t.Errorf("%d, %d", again, c.Spans())
		}
		if want := []int{0, 4, 2}; !slices.Equal(orderAgain, want) || !slices.Equal(c.Order(), want) || !slices.Equal(d.Order(), want) {
			t.Errorf("%d, %d, %d", orderAgain, c.Order(), d.Order())
		}
	}
	// What is answered stays, whatever comes then.
	l, _ := c.Peek(2)
	c.Put(2, of("other"))
	c.Clear()
	if !slices.Equal(l, of("abc")) {
		t.Errorf("%v", l)
	}
}

// A Clone is like it, and goes its own way, whichever of both is changed.
func TestClone(t *testing.T) {
	c := New(3)
	for i, s := range []string{"a", "b", "c"} {
		put(t, c, i, s, 0, false)
	}
	c.Get(0)
	d := c.Clone()
	put(t, c, 9, "x", 1, true)
	put(t, d, 2, "y", 0, false)
	e := d.Clone()
	put(t, d, 8, "z", 1, true)
	c.Clear()
	put(t, c, 7, "w", 0, false)
	(&plain{3, []numbered{{7, of("w")}}}).check(t, c)
	(&plain{3, []numbered{{0, of("a")}, {2, of("y")}, {8, of("z")}}}).check(t, d)
	(&plain{3, []numbered{{1, of("b")}, {0, of("a")}, {2, of("y")}}}).check(t, e)
}
