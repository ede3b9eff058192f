package spans

import (
	"cmp"
	"math"
	"math/rand"
	"slices"
	"testing"
)

// of is spans, each of two numbers.
func of(nums ...int) []Span {
	var l []Span
	for pair := range slices.Chunk(nums, 2) {
		l = append(l, Span{pair[0], pair[1]})
	}
	return l
}

func set(l ...Span) *Set {
	s := &Set{}
	s.Add(l...)
	return s
}

// few: these are as few as can be, and rising: none is without numbers, and no two touch.
func few(l []Span) bool {
	for i, x := range l {
		if x.From >= x.To || i > 0 && l[i-1].To >= x.From {
			return false
		}
	}
	return true
}

func checkSpans(t *testing.T, what string, got, want []Span) {
	t.Helper()
	if !slices.Equal(got, want) || !few(got) {
		t.Fatalf("%s: %d, want %d", what, got, want)
	}
}

// The chapter's example.
func TestExample(t *testing.T) {
	var s Set
	s.Add(Span{2, 5})
	s.Add(Span{5, 7})
	s.Cut(Span{3, 4})
	checkSpans(t, "the example", s.Spans(), of(2, 3, 4, 7))
}

func TestZeroSet(t *testing.T) {
	var s Set
	for _, n := range []int{math.MinInt, -1, 0, 1, math.MaxInt} {
		if s.Has(n) {
			t.Errorf("it has %d", n)
		}
	}
	checkSpans(t, "all", s.Spans(), nil)
	checkSpans(t, "In", s.In(Span{-9, 9}), nil)
	checkSpans(t, "Missing", s.Missing(Span{-9, 9}), of(-9, 9))
	s.Cut()
	s.Add()
	s.Cut(of(1, 2, 4, 3, math.MinInt, math.MaxInt)...)
	if c := s.Clone(); s.Len() != 0 || c.Len() != 0 || c.Spans() != nil {
		t.Errorf("%d, %d", s.Spans(), c.Spans())
	}
}

// P13.1: Add of spans apart, that touch, overlap, lie within one another, are equal, empty, the other way round; in both orders, and one by one.
func TestAdd(t *testing.T) {
	for _, c := range []struct {
		has, add, want []Span
	}{
		{nil, nil, nil},
		{of(1, 3), nil, of(1, 3)},
		{nil, of(5, 5), nil}, {nil, of(6, 5), nil}, {nil, of(math.MaxInt, math.MinInt), nil},
		{of(1, 9), of(5, 5), of(1, 9)}, {of(1, 9), of(6, 4), of(1, 9)}, {of(1, 3, 6, 9), of(4, 4), of(1, 3, 6, 9)}, {of(1, 3, 6, 9), of(7, 2), of(1, 3, 6, 9)}, {of(1, 3), of(3, 3), of(1, 3)}, {of(1, 3, 4, 6), of(4, 3), of(1, 3, 4, 6)},
		{nil, of(4, 5), of(4, 5)},
		{of(4, 6), of(4, 6), of(4, 6)},
		{of(4, 6), of(7, 9), of(4, 6, 7, 9)}, {of(4, 6), of(1, 3), of(1, 3, 4, 6)},
		{of(4, 6), of(6, 9), of(4, 9)}, {of(4, 6), of(1, 4), of(1, 6)},
		{of(4, 6), of(5, 9), of(4, 9)}, {of(4, 6), of(1, 5), of(1, 6)},
		{of(2, 9), of(4, 6), of(2, 9)}, {of(4, 6), of(2, 9), of(2, 9)}, {of(2, 9), of(2, 4), of(2, 9)}, {of(2, 9), of(7, 9), of(2, 9)}, {of(2, 4), of(2, 9), of(2, 9)}, {of(7, 9), of(2, 9), of(2, 9)},
		{of(1, 3, 6, 9), of(4, 5), of(1, 3, 4, 5, 6, 9)}, {of(1, 3, 6, 9), of(3, 5), of(1, 5, 6, 9)}, {of(1, 3, 6, 9), of(4, 6), of(1, 3, 4, 9)}, {of(1, 3, 6, 9), of(3, 6), of(1, 9)}, {of(1, 3, 6, 9), of(2, 7), of(1, 9)},
		{of(1, 3, 5, 7, 9, 11), of(3, 9), of(1, 11)}, {of(1, 3, 5, 7, 9, 11), of(2, 6), of(1, 7, 9, 11)}, {of(1, 3, 5, 7, 9, 11), of(6, 10), of(1, 3, 5, 11)}, {of(1, 3, 5, 7, 9, 11), of(0, 20), of(0, 20)}, {of(1, 3, 5, 7, 9, 11), of(4, 8), of(1, 3, 4, 8, 9, 11)},
		{nil, of(7, 9, 1, 3, 4, 5), of(1, 3, 4, 5, 7, 9)}, {nil, of(1, 3, 5, 7, 3, 5), of(1, 7)}, {nil, of(5, 7, 9, 2, 1, 6), of(1, 7)}, {nil, of(3, 3, 8, 9, 2, 1, 5, 6), of(5, 6, 8, 9)}, {of(10, 12), of(1, 2, 20, 21, 11, 13), of(1, 2, 10, 13, 20, 21)},
		{nil, of(-3, 0), of(-3, 0)}, {of(-3, -1), of(-1, 2), of(-3, 2)},
	} {
		backwards := slices.Clone(c.add)
		slices.Reverse(backwards)
		for _, add := range [][]Span{c.add, backwards} {
			all, each := set(c.has...), set(c.has...)
			all.Add(add...)
			for _, x := range add {
				each.Add(x)
			}
			checkSpans(t, "all at once", all.Spans(), c.want)
			checkSpans(t, "each on its own", each.Spans(), c.want)
		}
	}
}

// P13.1: Cut that splits a span, takes one's beginning, its end, all of it, of several at once, of none.
func TestCut(t *testing.T) {
	three := of(1, 4, 6, 9, 11, 14)
	for _, c := range []struct {
		has, cut, want []Span
	}{
		{three, nil, three}, {nil, of(1, 9), nil},
		{three, of(7, 7), three}, {three, of(8, 7), three}, {three, of(14, 1), three}, {three, of(5, 5, 1, 1, 4, 4, 9, 6), three},
		{three, of(7, 8), of(1, 4, 6, 7, 8, 9, 11, 14)},
		{three, of(6, 8), of(1, 4, 8, 9, 11, 14)}, {three, of(5, 8), of(1, 4, 8, 9, 11, 14)}, {three, of(4, 8), of(1, 4, 8, 9, 11, 14)},
		{three, of(7, 9), of(1, 4, 6, 7, 11, 14)}, {three, of(7, 10), of(1, 4, 6, 7, 11, 14)}, {three, of(7, 11), of(1, 4, 6, 7, 11, 14)},
		{three, of(6, 9), of(1, 4, 11, 14)}, {three, of(5, 10), of(1, 4, 11, 14)}, {three, of(4, 11), of(1, 4, 11, 14)},
		{three, of(4, 6), three}, {three, of(-5, 1), three}, {three, of(14, 99), three}, {three, of(9, 11), three},
		{three, of(1, 4), of(6, 9, 11, 14)}, {three, of(11, 14), of(1, 4, 6, 9)},
		{three, of(2, 8), of(1, 2, 8, 9, 11, 14)}, {three, of(3, 12), of(1, 3, 12, 14)}, {three, of(1, 13), of(13, 14)}, {three, of(2, 14), of(1, 2)}, {three, of(1, 14), nil}, {three, of(-9, 99), nil}, {three, of(math.MinInt, math.MaxInt), nil},
		{three, of(2, 3, 12, 13), of(1, 2, 3, 4, 6, 9, 11, 12, 13, 14)}, {three, of(7, 8, 6, 7, 8, 9), of(1, 4, 11, 14)}, {three, of(3, 7, 2, 8, 9, 9, 13, 12), of(1, 2, 8, 9, 11, 14)}, {three, of(7, 8, 7, 8), of(1, 4, 6, 7, 8, 9, 11, 14)},
	} {
		backwards := slices.Clone(c.cut)
		slices.Reverse(backwards)
		for _, cut := range [][]Span{c.cut, backwards} {
			all, each := set(c.has...), set(c.has...)
			all.Cut(cut...)
			for _, x := range cut {
				each.Cut(x)
			}
			checkSpans(t, "all at once", all.Spans(), c.want)
			checkSpans(t, "each on its own", each.Spans(), c.want)
		}
	}
}

// In and Missing of spans of all kinds.
func TestInMissing(t *testing.T) {
	three := of(1, 4, 6, 9, 11, 14)
	for _, c := range []struct {
		x           Span
		in, missing []Span
	}{
		{Span{0, 20}, three, of(0, 1, 4, 6, 9, 11, 14, 20)}, {Span{1, 14}, three, of(4, 6, 9, 11)}, {Span{2, 13}, of(2, 4, 6, 9, 11, 13), of(4, 6, 9, 11)},
		{Span{6, 9}, of(6, 9), nil}, {Span{7, 8}, of(7, 8), nil}, {Span{5, 10}, of(6, 9), of(5, 6, 9, 10)}, {Span{4, 11}, of(6, 9), of(4, 6, 9, 11)},
		{Span{4, 6}, nil, of(4, 6)}, {Span{5, 6}, nil, of(5, 6)}, {Span{-4, 1}, nil, of(-4, 1)}, {Span{14, 15}, nil, of(14, 15)},
		{Span{3, 7}, of(3, 4, 6, 7), of(4, 6)}, {Span{8, 12}, of(8, 9, 11, 12), of(9, 11)},
		{Span{7, 7}, nil, nil}, {Span{5, 5}, nil, nil}, {Span{8, 7}, nil, nil}, {Span{20, 0}, nil, nil}, {Span{math.MaxInt, math.MinInt}, nil, nil},
		{Span{math.MinInt, 2}, of(1, 2), of(-1<<60, 1)}, {Span{13, math.MaxInt}, of(13, 14), of(14, 1<<60)}, {Span{math.MinInt, math.MaxInt}, three, of(-1<<60, 1, 4, 6, 9, 11, 14, 1<<60)},
	} {
		s := set(three...)
		checkSpans(t, "In", s.In(c.x), c.in)
		checkSpans(t, "Missing", s.Missing(c.x), c.missing)
		checkSpans(t, "all", s.Spans(), three)
	}
}

// Numbers below -2^60 and above 2^60 count as the nearest, as From and as To; none of them is ever in a set.
func TestFarNumbers(t *testing.T) {
	const low, high = -1 << 60, 1 << 60
	for _, c := range []struct{ x, want Span }{
		{Span{math.MinInt, math.MaxInt}, Span{low, high}}, {Span{low, high}, Span{low, high}}, {Span{low - 1, high + 1}, Span{low, high}}, {Span{low + 1, high - 1}, Span{low + 1, high - 1}},
		{Span{math.MinInt, low + 1}, Span{low, low + 1}}, {Span{low - 1, low + 1}, Span{low, low + 1}}, {Span{low, low + 1}, Span{low, low + 1}}, {Span{math.MinInt, 7}, Span{low, 7}},
		{Span{high - 1, math.MaxInt}, Span{high - 1, high}}, {Span{high - 1, high + 1}, Span{high - 1, high}}, {Span{high - 1, high}, Span{high - 1, high}}, {Span{7, math.MaxInt}, Span{7, high}},
		{Span{math.MinInt, low}, Span{}}, {Span{low - 5, low - 3}, Span{}}, {Span{low - 1, low}, Span{}}, {Span{math.MinInt, low - 1}, Span{}}, {Span{low, low}, Span{}}, {Span{math.MinInt, math.MinInt}, Span{}}, {Span{math.MinInt, math.MinInt + 1}, Span{}},
		{Span{high, math.MaxInt}, Span{}}, {Span{high + 3, high + 5}, Span{}}, {Span{high, high + 1}, Span{}}, {Span{high + 1, math.MaxInt}, Span{}}, {Span{high, high}, Span{}}, {Span{math.MaxInt - 1, math.MaxInt}, Span{}}, {Span{math.MaxInt, math.MinInt}, Span{}}, {Span{high, low}, Span{}},
	} {
		var want, stay []Span
		if c.want != (Span{}) {
			want = []Span{c.want}
		}
		for _, x := range []Span{{low, c.want.From}, {c.want.To, high}} {
			if x.From < x.To && want != nil {
				stay = append(stay, x)
			}
		}
		if want == nil {
			stay = of(low, high)
		}
		s, all := set(c.x), set(Span{low, high})
		checkSpans(t, "Add", s.Spans(), want)
		if n := c.want.To - c.want.From; s.Len() != n || all.Len() != 1<<61 {
			t.Errorf("%d: Len %d, want %d", c.x, s.Len(), n)
		}
		checkSpans(t, "In", all.In(c.x), want)
		checkSpans(t, "Missing", (&Set{}).Missing(c.x), want)
		checkSpans(t, "Missing of all", all.Missing(c.x), nil)
		for _, n := range []int{math.MinInt, math.MinInt + 1, low - 5, low - 1, low, low + 1, 7, high - 1, high, high + 1, math.MaxInt - 1, math.MaxInt} {
			if got, want := s.Has(n), c.want.From <= n && n < c.want.To; got != want {
				t.Errorf("%d has %d: %t", c.x, n, got)
			}
			if got, want := all.Has(n), low <= n && n < high; got != want {
				t.Errorf("all have %d: %t", n, got)
			}
		}
		all.Cut(c.x)
		checkSpans(t, "Cut", all.Spans(), stay)
	}
}

// window is some numbers from a base on: 1, if it is in the set.
type window struct {
	base int
	has  [9]int
}

// put makes the window's numbers that are in x that; the chapter's ends are held against each number.
func (w *window) put(x Span, what int) {
	for i := range w.has {
		if w.within(i, x) {
			w.has[i] = what
		}
	}
}

func (w *window) within(i int, x Span) bool {
	n := w.base + i
	return x.From <= n && n < x.To && -1<<60 <= n && n < 1<<60
}

// spans are those of the window's numbers that lie in x, and are in the set or aren't.
func (w *window) spans(x Span, what int) []Span {
	var l []Span
	for i, has := range w.has {
		n := w.base + i
		if has != what || !w.within(i, x) {
			continue
		}
		if k := len(l); k > 0 && l[k-1].To == n {
			l[k-1].To++
			continue
		}
		l = append(l, Span{n, n + 1})
	}
	return l
}

// all is a span with all numbers of the window.
func (w *window) all() Span {
	return Span{w.base, w.base + len(w.has)}
}

func (w *window) check(t *testing.T, s *Set) {
	t.Helper()
	want := w.spans(w.all(), 1)
	checkSpans(t, "all", s.Spans(), want)
	n := 0
	for i, has := range w.has {
		n += has
		if s.Has(w.base+i) != (has == 1) {
			t.Fatalf("%d: has %d: %t", want, w.base+i, s.Has(w.base+i))
		}
	}
	if s.Len() != n || s.Has(w.base-1) || s.Has(w.base+len(w.has)) {
		t.Fatalf("%d: Len %d, want %d", want, s.Len(), n)
	}
}

// windows are where sets are tried: between the ends that may be, and at both of them.
var windows = []int{-4, 0, -1 << 60, -1<<60 - 3, -1<<60 - 1, 1<<60 - 5, 1<<60 - 9}

// tried are all spans whose ends lie in a window, or right at it; the other way round, too.
func (w *window) tried() []Span {
	var l []Span
	for from := range 8 {
		for to := range 8 {
			l = append(l, Span{w.base + from, w.base + to})
		}
	}
	return l
}

// P13.1, P13.2: of all sets of six numbers, and all spans: Add, Cut, In, Missing.
func TestAllSmall(t *testing.T) {
	for _, base := range windows {
		for bits := range 64 {
			w := &window{base: base}
			s := &Set{}
			for i := range 6 {
				if x := (Span{base + 1 + i, base + 2 + i}); bits>>i&1 == 1 {
					w.put(x, 1)
					s.Add(x)
				}
			}
			w.check(t, s)
			for _, x := range w.tried() {
				checkSpans(t, "In", s.In(x), w.spans(x, 1))
				checkSpans(t, "Missing", s.Missing(x), w.spans(x, 0))
				a, wa := s.Clone(), *w
				a.Add(x)
				wa.put(x, 1)
				wa.check(t, a)
				b, wb := s.Clone(), *w
				b.Cut(x)
				wb.put(x, 0)
				wb.check(t, b)
			}
			w.check(t, s)
		}
	}
}

// P13.1: each call, behind any calls, with several spans at once; a Clone goes its own way.
func TestAnyCalls(t *testing.T) {
	random := rand.New(rand.NewSource(13))
	for round := range 3000 {
		w := &window{base: windows[round%len(windows)]}
		sets, models := []*Set{{}}, []window{*w}
		all := w.tried()
		for range 40 {
			k := random.Intn(len(sets))
			var l []Span
			for range random.Intn(4) {
				l = append(l, all[random.Intn(len(all))])
			}
			switch random.Intn(5) {
			case 0:
				if len(sets) < 4 {
					sets, models = append(sets, sets[k].Clone()), append(models, models[k])
				}
			case 1, 2:
				sets[k].Add(l...)
				for _, x := range l {
					models[k].put(x, 1)
				}
			default:
				sets[k].Cut(l...)
				for _, x := range l {
					models[k].put(x, 0)
				}
			}
			for i := range sets {
				models[i].check(t, sets[i])
			}
		}
	}
}

// ends are numbers that are far from one another: what lies between two of them, that follow one another, is in a set as one.
var ends = []int{
	math.MinInt, math.MinInt + 1, -1<<60 - 2, -1<<60 - 1, -1 << 60, -1<<60 + 1, -1 << 40, -1000, -2, -1, 0, 1, 2, 3, 900, 1 << 31, 1 << 32, 1 << 59, 1<<60 - 1, 1 << 60, 1<<60 + 1, math.MaxInt - 1, math.MaxInt,
}

// pieces are the spans between the ends that may be.
func pieces() []Span {
	var l []Span
	for i, n := range ends[1:] {
		if ends[i] >= -1<<60 && n <= 1<<60 {
			l = append(l, Span{ends[i], n})
		}
	}
	return l
}

// joined are those pieces that are in the set, or aren't, and lie in x: as few as can be.
func joined(has map[Span]int, what int, x Span) []Span {
	var l []Span
	for _, p := range pieces() {
		if has[p] != what || p.From < x.From || p.To > x.To {
			continue
		}
		if k := len(l); k > 0 && l[k-1].To == p.From {
			l[k-1].To = p.To
			continue
		}
		l = append(l, p)
	}
	return l
}

// P13.1, P13.2: spans of any ends, however far.
func TestAnyEnds(t *testing.T) {
	random := rand.New(rand.NewSource(14))
	end := func() int { return ends[random.Intn(len(ends))] }
	for range 2000 {
		s, has := &Set{}, map[Span]int{}
		for range 25 {
			x, what := Span{end(), end()}, random.Intn(2)
			for _, p := range pieces() {
				if x.From <= p.From && p.To <= x.To {
					has[p] = what
				}
			}
			if what == 1 {
				s.Add(x)
			} else {
				s.Cut(x)
			}
			n := 0
			for _, p := range pieces() {
				n += has[p] * (p.To - p.From)
				if got := s.Has(p.From); got != (has[p] == 1) || s.Has(p.To-1) != got {
					t.Fatalf("%d of %d: %t", p, s.Spans(), got)
				}
			}
			all := Span{math.MinInt, math.MaxInt}
			checkSpans(t, "all", s.Spans(), joined(has, 1, all))
			if s.Len() != n {
				t.Fatalf("%d: Len %d, want %d", s.Spans(), s.Len(), n)
			}
			y := Span{end(), end()}
			checkSpans(t, "In", s.In(y), joined(has, 1, y))
			checkSpans(t, "Missing", s.Missing(y), joined(has, 0, y))
		}
	}
}

// P13.2: what is in a span's set, and what is missing, are that span, and nothing twice.
func TestInOrMissing(t *testing.T) {
	random := rand.New(rand.NewSource(15))
	for range 3000 {
		s := &Set{}
		for range random.Intn(30) {
			from := random.Intn(200)
			s.Add(Span{from, from + random.Intn(9)})
		}
		x := Span{random.Intn(220) - 10, random.Intn(220) - 10}
		in, missing := s.In(x), s.Missing(x)
		parts := slices.Concat(in, missing)
		slices.SortFunc(parts, func(a, b Span) int { return cmp.Compare(a.From, b.From) })
		at := x.From
		for _, p := range parts {
			if p.From != at || p.To <= at {
				t.Fatalf("%d: In %d, Missing %d", x, in, missing)
			}
			at = p.To
		}
		if at != max(x.From, x.To) && x.From < x.To || x.From >= x.To && parts != nil || !few(in) || !few(missing) {
			t.Fatalf("%d: In %d, Missing %d", x, in, missing)
		}
		for n := x.From; n < x.To; n++ {
			has := func(l []Span) bool {
				return slices.ContainsFunc(l, func(p Span) bool { return p.From <= n && n < p.To })
			}
			if s.Has(n) != has(in) || s.Has(n) == has(missing) {
				t.Fatalf("%d of %d: In %d, Missing %d", n, s.Spans(), in, missing)
			}
		}
	}
}

// Sets of very many spans, in any order.
func TestMany(t *testing.T) {
	const n = 60000
	random := rand.New(rand.NewSource(16))
	s := &Set{}
	var want []Span
	for _, i := range random.Perm(n) {
		s.Add(Span{2 * i, 2*i + 1})
	}
	for i := range n {
		want = append(want, Span{2 * i, 2*i + 1})
	}
	checkSpans(t, "every second one", s.Spans(), want)
	if s.Len() != n || s.Has(2*n-1) || !s.Has(2*n-2) {
		t.Errorf("Len %d", s.Len())
	}
	odd := s.Missing(Span{0, 2 * n})
	for _, i := range random.Perm(n) {
		s.Add(odd[i])
	}
	checkSpans(t, "all", s.Spans(), of(0, 2*n))
	s.Cut(odd...)
	checkSpans(t, "every second one again", s.Spans(), want)
	s.Cut(want...)
	checkSpans(t, "none", s.Spans(), nil)
}

// A Clone is like it, and goes its own way.
func TestClone(t *testing.T) {
	s := set(of(1, 3, 5, 7, 9, 11)...)
	s.Cut(Span{9, 11})
	a, b := s.Clone(), s.Clone()
	s.Add(Span{20, 22})
	a.Add(Span{30, 33})
	b.Cut(Span{2, 6})
	c := b.Clone()
	b.Add(Span{0, 1})
	checkSpans(t, "it", s.Spans(), of(1, 3, 5, 7, 20, 22))
	checkSpans(t, "one", a.Spans(), of(1, 3, 5, 7, 30, 33))
	checkSpans(t, "another one", b.Spans(), of(0, 2, 6, 7))
	checkSpans(t, "its Clone", c.Spans(), of(1, 2, 6, 7))
}

// What is handed in stays, its spare room too, and isn't kept.
func TestHandedIn(t *testing.T) {
	want := of(7, 9, 1, 3, 2, 1, math.MinInt, -5, 3, 4)
	l := slices.Clone(want)
	s := &Set{}
	s.Add(l[:2]...)
	s.Add(l...)
	s.Cut(l[3:4]...)
	s.Cut(l[2:4]...)
	s.In(l[0])
	s.Missing(l[1])
	if !slices.Equal(l, want) {
		t.Fatalf("%d, want %d", l, want)
	}
	for i := range l {
		l[i] = Span{100, 200}
	}
	checkSpans(t, "all", s.Spans(), of(1, 4, 7, 9))
	one := of(5, 6, 8, 9)
	s = set(one[:1]...)
	s.Add(Span{7, 8})
	one[0] = Span{0, 99}
	checkSpans(t, "behind one", s.Spans(), of(5, 6, 7, 8))
	if one[1] != (Span{8, 9}) {
		t.Errorf("%d", one)
	}
}

// spoil changes a list, its spare room too.
func spoil(l []Span) {
	l = l[:cap(l)]
	for i := range l {
		l[i] = Span{-77, -70}
	}
}

// What is answered shares no memory with a set, nor with another answer.
func TestAnswersAreNew(t *testing.T) {
	want := of(1, 3, 5, 7, 9, 11)
	s := set(of(1, 3, 5, 7, 9, 11, 13, 15)...)
	s.Cut(Span{13, 15})
	x := Span{0, 12}
	ask := func() [][]Span {
		return [][]Span{s.Spans(), s.In(x), s.Missing(x), s.In(Span{5, 7}), s.Missing(Span{3, 5})}
	}
	was := [][]Span{want, want, of(0, 1, 3, 5, 7, 9, 11, 12), of(5, 7), of(3, 5)}
	for i := range was {
		first, second := ask(), ask()
		spoil(first[i])
		for k := range was {
			checkSpans(t, "another answer", second[k], was[k])
			if k != i {
				checkSpans(t, "an answer beside it", first[k], was[k])
			}
		}
		for k, l := range ask() {
			checkSpans(t, "a later answer", l, was[k])
		}
	}
	// What is answered stays, whatever the set does.
	first := ask()
	s.Cut(Span{2, 10})
	s.Add(of(2, 3, 8, 9, 20, 30)...)
	for k, l := range first {
		checkSpans(t, "an earlier answer", l, was[k])
	}
}

// In, Missing, Has, Len and Spans change nothing.
func TestAskingChangesNothing(t *testing.T) {
	s := set(of(1, 3, 5, 7)...)
	for range 3 {
		s.In(Span{2, 6})
		s.Missing(Span{0, 9})
		s.Has(2)
		s.Has(4)
		s.Len()
		s.Clone()
		checkSpans(t, "all", s.Spans(), of(1, 3, 5, 7))
	}
}

// Whoever goes through what is left may leave at any span.
func TestLeftEarly(t *testing.T) {
	for _, c := range []struct{ without, all []Span }{
		{nil, of(0, 4, 6, 9)}, {of(1, 2), of(0, 1, 2, 4, 6, 9)}, {of(1, 2, 3, 7), of(0, 1, 2, 3, 7, 9)}, {of(7, 8), of(0, 4, 6, 7, 8, 9)},
	} {
		for stop := range 5 {
			var got []Span
			for x := range left(of(0, 4, 6, 9), c.without...) {
				got = append(got, x)
				if len(got) > stop {
					break
				}
			}
			if !slices.Equal(got, c.all[:min(stop+1, len(c.all))]) {
				t.Errorf("without %d: %d", c.without, got)
			}
		}
	}
}

// Spans can be compared.
func TestCompared(t *testing.T) {
	s := set(of(1, 3)...)
	if s.Spans()[0] != (Span{1, 3}) || s.Spans()[0] == (Span{1, 4}) || s.In(Span{2, 9})[0] != (Span{2, 3}) {
		t.Errorf("%d", s.Spans())
	}
}
