package style

import (
	"math"
	"math/rand"
	"slices"
	"testing"

	"tidewrack/api"
)

// everyOne is all styles that may be, by the chapter's number.
func everyOne() []Style {
	var l []Style
	for flags := range 8 {
		for back := range 9 {
			for fore := range 9 {
				l = append(l, Style{fore, back, flags&1 != 0, flags&2 != 0, flags&4 != 0})
			}
		}
	}
	return l
}

// strange are styles that may not be.
func strange() []Style {
	var l []Style
	for _, n := range []int{-1, 9, 10, -9, 81, 255, math.MinInt, math.MaxInt} {
		for _, m := range []int{0, 5, 8, n} {
			l = append(l, Style{Fore: n, Back: m}, Style{Fore: m, Back: n}, Style{n, m, true, true, true}, Style{m, n, true, false, true})
		}
	}
	return l
}

// some are styles of each kind, those that may not be as well.
func some() []Style {
	return []Style{
		{}, {Fore: 2}, {Back: 8}, {Bold: true}, {Under: true}, {Inverse: true}, {8, 1, true, true, true}, {3, 4, false, true, false},
		{Fore: 99, Back: -5, Bold: true}, {Fore: math.MinInt, Back: math.MaxInt, Inverse: true},
	}
}

// The chapter's example.
func TestExample(t *testing.T) {
	s := Style{}.Set(1, 31)
	if s != (Style{Fore: 2, Bold: true}) || s.Num() != 83 {
		t.Errorf("%+v, %d", s, s.Num())
	}
}

// Each number that sets something, written out.
func TestEachNumber(t *testing.T) {
	s := Style{Fore: 5, Back: 6, Bold: true, Under: true, Inverse: true}
	zero := Style{}
	for _, c := range []struct {
		n          int
		full, bare Style
	}{
		{0, zero, zero},
		{1, s, Style{Bold: true}}, {4, s, Style{Under: true}}, {7, s, Style{Inverse: true}},
		{22, Style{5, 6, false, true, true}, zero}, {24, Style{5, 6, true, false, true}, zero}, {27, Style{5, 6, true, true, false}, zero},
		{30, Style{1, 6, true, true, true}, Style{Fore: 1}}, {31, Style{2, 6, true, true, true}, Style{Fore: 2}},
		{32, Style{3, 6, true, true, true}, Style{Fore: 3}}, {33, Style{4, 6, true, true, true}, Style{Fore: 4}},
		{34, s, Style{Fore: 5}}, {35, Style{6, 6, true, true, true}, Style{Fore: 6}},
		{36, Style{7, 6, true, true, true}, Style{Fore: 7}}, {37, Style{8, 6, true, true, true}, Style{Fore: 8}},
		{38, s, zero}, {39, Style{0, 6, true, true, true}, zero},
		{40, Style{5, 1, true, true, true}, Style{Back: 1}}, {41, Style{5, 2, true, true, true}, Style{Back: 2}},
		{42, Style{5, 3, true, true, true}, Style{Back: 3}}, {43, Style{5, 4, true, true, true}, Style{Back: 4}},
		{44, Style{5, 5, true, true, true}, Style{Back: 5}}, {45, s, Style{Back: 6}},
		{46, Style{5, 7, true, true, true}, Style{Back: 7}}, {47, Style{5, 8, true, true, true}, Style{Back: 8}},
		{48, s, zero}, {49, Style{5, 0, true, true, true}, zero},
	} {
		if got := s.Set(c.n); got != c.full {
			t.Errorf("%d: %+v", c.n, got)
		}
		if got := zero.Set(c.n); got != c.bare {
			t.Errorf("%d, of the zero one: %+v", c.n, got)
		}
	}
	if got := s.Set(); got != zero {
		t.Errorf("none: %+v", got)
	}
	if got := s.Set([]int{}...); got != zero {
		t.Errorf("an empty list: %+v", got)
	}
}

// All others don't count, whatever they are.
func TestOtherNumbers(t *testing.T) {
	counts := []int{0, 1, 4, 7, 22, 24, 27, 30, 31, 32, 33, 34, 35, 36, 37, 39, 40, 41, 42, 43, 44, 45, 46, 47, 49}
	others := []int{math.MinInt, math.MinInt + 30, math.MaxInt, math.MaxInt - 30, 9999, 1 << 32, 1<<32 + 1, -1 << 32, 286, 287}
	for n := -300; n <= 300; n++ {
		if !slices.Contains(counts, n) {
			others = append(others, n)
		}
	}
	for _, s := range append(some(), everyOne()...) {
		for _, n := range others {
			if got := s.Set(n); got != s {
				t.Fatalf("%+v, %d: %+v", s, n, got)
			}
		}
	}
}

// What belongs to 38 and to 48 doesn't count, whole and cut off; of another number only they don't.
func TestBelonging(t *testing.T) {
	start := Style{Fore: 5, Under: true}
	for _, c := range []struct {
		nums []int
		want Style
	}{
		// A 5, and one more.
		{[]int{5}, start}, {[]int{5, 0}, start}, {[]int{5, 1}, start}, {[]int{5, 31}, start}, {[]int{5, 38}, start}, {[]int{5, 48}, start},
		{[]int{5, 1, 1}, Style{Fore: 5, Under: true, Bold: true}}, {[]int{5, 0, 7}, Style{Fore: 5, Under: true, Inverse: true}},
		{[]int{5, 200, 0}, Style{}}, {[]int{5, 38, 31}, Style{Fore: 2, Under: true}}, {[]int{5, 5, 1}, Style{Fore: 5, Under: true, Bold: true}},
		{[]int{5, -1, 41}, Style{Fore: 5, Back: 2, Under: true}},
		// A 2, and three more.
		{[]int{2}, start}, {[]int{2, 0}, start}, {[]int{2, 1, 0}, start}, {[]int{2, 31, 0, 1}, start}, {[]int{2, 0, 0, 0}, start}, {[]int{2, 38, 48, 38}, start},
		{[]int{2, 0, 0, 0, 1}, Style{Fore: 5, Under: true, Bold: true}}, {[]int{2, 1, 1, 1, 24}, Style{Fore: 5}}, {[]int{2, 0, 0, 0, 0}, Style{}},
		{[]int{2, 2, 5, 38, 41}, Style{Fore: 5, Back: 2, Under: true}},
		// Another one counts for itself.
		{nil, start}, {[]int{0}, Style{}}, {[]int{1}, Style{Fore: 5, Under: true, Bold: true}}, {[]int{31}, Style{Fore: 2, Under: true}}, {[]int{3, 0}, Style{}},
		{[]int{4, 1}, Style{Fore: 5, Under: true, Bold: true}}, {[]int{6, 1}, Style{Fore: 5, Under: true, Bold: true}}, {[]int{-5, 7}, Style{Fore: 5, Under: true, Inverse: true}},
		{[]int{38}, start}, {[]int{48, 1}, Style{Fore: 5, Under: true, Bold: true}}, {[]int{38, 5, 1}, start}, {[]int{48, 2, 1, 0, 7}, start},
		// One behind the other.
		{[]int{5, 1, 38, 5, 0}, start}, {[]int{5, 1, 48, 2, 0, 0, 0, 1}, Style{Fore: 5, Under: true, Bold: true}}, {[]int{2, 0, 0, 0, 48, 5}, start},
	} {
		for _, first := range []int{38, 48} {
			nums := append([]int{first}, c.nums...)
			if got := start.Set(nums...); got != c.want {
				t.Errorf("%d: %+v, want %+v", nums, got, c.want)
			}
			ahead := append([]int{0, 34, 4}, nums...)
			if got := (Style{8, 8, true, true, true}).Set(ahead...); got != c.want {
				t.Errorf("%d: %+v, want %+v", ahead, got, c.want)
			}
		}
	}
}

// plain is Set in another way: what doesn't count is taken out first.
func plain(s Style, nums []int) Style {
	l := slices.Clone(nums)
	if len(l) == 0 {
		l = []int{0}
	}
	var counts []int
	for len(l) > 0 {
		n := 1
		if special := l[0] == 38 || l[0] == 48; special && len(l) > 1 && l[1] == 5 {
			n = 3
		} else if special && len(l) > 1 && l[1] == 2 {
			n = 5
		} else {
			counts = append(counts, l[0])
		}
		l = l[min(n, len(l)):]
	}
	for _, n := range counts {
		switch {
		case n == 0:
			s = Style{}
		case n == 1 || n == 22:
			s.Bold = n < 20
		case n == 4 || n == 24:
			s.Under = n < 20
		case n == 7 || n == 27:
			s.Inverse = n < 20
		case n >= 30 && n <= 37:
			s.Fore = n - 29
		case n >= 40 && n <= 47:
			s.Back = n - 39
		case n == 39:
			s.Fore = 0
		case n == 49:
			s.Back = 0
		}
	}
	return s
}

// P8.1: all lists of two numbers, and many longer ones, of any style.
func TestLists(t *testing.T) {
	for _, s := range some() {
		for a := -2; a <= 60; a++ {
			for b := -2; b <= 60; b++ {
				if got := s.Set(a, b); got != plain(s, []int{a, b}) {
					t.Fatalf("%+v, %d, %d: %+v", s, a, b, got)
				}
			}
		}
	}
	from := rand.New(rand.NewSource(18))
	few := []int{0, 1, 2, 3, 4, 5, 7, 22, 24, 27, 31, 37, 38, 39, 44, 48, 49, 38, 48, 5, 2, -1, 50, math.MinInt, math.MaxInt}
	styles := append(some(), everyOne()...)
	for range 200000 {
		l := make([]int, from.Intn(14))
		for i := range l {
			l[i] = few[from.Intn(len(few))]
		}
		s := styles[from.Intn(len(styles))]
		if got := s.Set(l...); got != plain(s, l) {
			t.Fatalf("%+v, %d: %+v, want %+v", s, l, got, plain(s, l))
		}
	}
	long := slices.Repeat([]int{1, 38, 5, 0, 48, 2, 0, 0, 0, 22, 35}, 1<<16)
	if got := (Style{Under: true}).Set(long...); got != (Style{Fore: 6, Under: true}) {
		t.Errorf("%+v", got)
	}
}

// P8.2: each style that may be has its number, the one of the chapter, and comes of it.
func TestNumbers(t *testing.T) {
	for n, s := range everyOne() {
		if got := s.Num(); got != n {
			t.Errorf("%+v: %d, want %d", s, got, n)
		}
		if got, e := Of(n); got != s || e != api.OK {
			t.Errorf("%d: %+v, %d", n, got, e)
		}
	}
	for s, want := range map[Style]int{
		{}: 0, {Fore: 1}: 1, {Fore: 8}: 8, {Back: 1}: 9, {Fore: 8, Back: 8}: 80, {Bold: true}: 81, {Under: true}: 162, {Inverse: true}: 324, {8, 8, true, true, true}: 647,
	} {
		if got := s.Num(); got != want {
			t.Errorf("%+v: %d", s, got)
		}
	}
}

// Of a style that may not be the number is 0; of a number that no style has there is an error.
func TestNoNumbers(t *testing.T) {
	for _, s := range strange() {
		if got := s.Num(); got != 0 {
			t.Errorf("%+v: %d", s, got)
		}
	}
	for _, n := range []int{-1, -2, -81, -324, -648, math.MinInt, 648, 649, 729, 1296, 1 << 32, 1<<32 + 5, math.MaxInt} {
		if got, e := Of(n); got != (Style{}) || e != api.ErrForm {
			t.Errorf("%d: %+v, %d", n, got, e)
		}
	}
}

// The numbers of Order, in their order.
func TestOrder(t *testing.T) {
	full := Style{8, 3, true, true, true}
	for _, c := range []struct {
		s, from Style
		want    []int
	}{
		{Style{}, Style{}, nil}, {full, full, nil}, {Style{Fore: 2}, Style{Fore: 2}, nil},
		{Style{}, full, []int{0}}, {Style{}, Style{Fore: 99}, []int{0}}, {full, Style{}, []int{0, 1, 4, 7, 37, 42}},
		{Style{Bold: true}, Style{}, []int{0, 1}}, {Style{Under: true}, full, []int{0, 4}}, {Style{Inverse: true}, Style{Bold: true}, []int{0, 7}},
		{Style{Fore: 1}, Style{}, []int{0, 30}}, {Style{Back: 8}, Style{Back: 7}, []int{0, 47}}, {Style{Fore: 4, Back: 1, Under: true}, full, []int{0, 4, 33, 40}},
		// What is there already is told nevertheless.
		{Style{Fore: 1, Bold: true}, Style{Bold: true}, []int{0, 1, 30}}, {full, Style{8, 3, true, true, false}, []int{0, 1, 4, 7, 37, 42}},
		{full, Style{Fore: -1, Back: 10}, []int{0, 1, 4, 7, 37, 42}},
	} {
		if got := c.s.Order(c.from); !slices.Equal(got, c.want) {
			t.Errorf("%+v from %+v: %d, want %d", c.s, c.from, got, c.want)
		}
	}
}

// P8.2: with the numbers of Order each style is made of each; where there are none, it is that one.
func TestOrderThereAndBack(t *testing.T) {
	styles := everyOne()
	for _, from := range append(some(), styles...) {
		for _, s := range styles {
			l := s.Order(from)
			if (len(l) == 0) != (s == from) || len(l) > 0 && (l[0] != 0 || from.Set(l...) != s) {
				t.Fatalf("%+v from %+v: %d", s, from, l)
			}
		}
		for _, s := range append(strange(), from) {
			if l := s.Order(from); len(l) > 0 {
				t.Fatalf("%+v from %+v: %d", s, from, l)
			}
		}
	}
}

// A list that is handed in stays as it is, its spare room too; answers are new memory; a Style that was asked is as it was.
func TestMemory(t *testing.T) {
	room := []int{1, 38, 2, 9, 9, 9}
	s := Style{Fore: 3}
	if got := s.Set(room[:3]...); got != (Style{Fore: 3, Bold: true}) || s != (Style{Fore: 3}) || !slices.Equal(room, []int{1, 38, 2, 9, 9, 9}) {
		t.Errorf("%+v, %+v, %d", got, s, room)
	}
	a, b := s.Order(Style{}), s.Order(Style{})
	if clear(a); !slices.Equal(b, []int{0, 32}) || !slices.Equal(s.Order(Style{}), []int{0, 32}) {
		t.Errorf("%d", b)
	}
}
