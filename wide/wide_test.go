package wide

import (
	"math"
	"math/rand"
	"slices"
	"strconv"
	"strings"
	"testing"
)

// The ranges, in the chapter's own words and order.
const (
	ofTwo  = "1100 115f, 2e80 303e, 3041 33ff, 3400 4dbf, 4e00 9fff, a000 a4cf, ac00 d7a3, f900 faff, fe30 fe6f, ff00 ff60, ffe0 ffe6, 1f300 1f64f, 1f900 1f9ff, 20000 3fffd"
	ofNone = "-80000000 -1, 0 1f, 7f 9f, 300 36f, 1ab0 1aff, 1dc0 1dff, 200b 200f, 20d0 20ff, d800 dfff, fe00 fe0f, fe20 fe2f, feff feff, e0100 e01ef, 110000 7fffffff"
)

type bounds struct{ from, to rune }

// read is a list of ranges as the chapter tells it.
func read(s string) []bounds {
	var l []bounds
	for _, one := range strings.Split(s, ", ") {
		from, to, _ := strings.Cut(one, " ")
		a, _ := strconv.ParseInt(from, 16, 32)
		b, _ := strconv.ParseInt(to, 16, 32)
		l = append(l, bounds{rune(a), rune(b)})
	}
	return l
}

func within(l []bounds, r rune) bool {
	return slices.ContainsFunc(l, func(b bounds) bool { return b.from <= r && r <= b.to })
}

// plain is how many columns a rune has by the chapter.
func plain(two, none []bounds, r rune) int {
	if within(two, r) {
		return 2
	}
	if within(none, r) {
		return 0
	}
	return 1
}

// some are runes at each edge of the chapter's ranges, next to it, and beyond the ends of all runes.
func some() []rune {
	l := []rune{math.MinInt32, math.MinInt32 + 1, -0x4e2d, 'a', '~', 0xa0, 0xe9, 0xfffd, 0x10ffff, math.MaxInt32 - 1, math.MaxInt32}
	for _, b := range append(read(ofTwo), read(ofNone)...) {
		// Beyond the least and the greatest number it goes round, which is an edge as well.
		l = append(l, b.from-1, b.from, b.from+1, b.to-1, b.to, b.to+1)
	}
	return l
}

// The chapter's examples, and the edges that it names in words.
func TestOf(t *testing.T) {
	for r, want := range map[rune]int{
		'a': 1, 0x4e2d: 2, 0x301: 0,
		math.MinInt32: 0, -1: 0, 0: 0, 0x1b: 0, 0x1f: 0, 0x20: 1, 0x7e: 1, 0x7f: 0, 0x9f: 0, 0xa0: 1,
		0x2ff: 1, 0x300: 0, 0x36f: 0, 0x370: 1, 0x10ff: 1, 0x1100: 2, 0x115f: 2, 0x1160: 1,
		0x303e: 2, 0x303f: 1, 0x3040: 1, 0x3041: 2, 0x33ff: 2, 0x3400: 2, 0x4dbf: 2, 0x4dc0: 1, 0x4dff: 1, 0x4e00: 2,
		0x9fff: 2, 0xa000: 2, 0xd7a3: 2, 0xd7a4: 1, 0xd7ff: 1, 0xd800: 0, 0xdfff: 0, 0xe000: 1,
		0xfe0f: 0, 0xfe10: 1, 0xfe1f: 1, 0xfe20: 0, 0xfe2f: 0, 0xfe30: 2, 0xfe6f: 2, 0xfe70: 1,
		0xfefe: 1, 0xfeff: 0, 0xff00: 2, 0xff60: 2, 0xff61: 1, 0xfffd: 1,
		0x1f2ff: 1, 0x1f300: 2, 0x1f64f: 2, 0x1f650: 1, 0x1ffff: 1, 0x20000: 2, 0x3fffd: 2, 0x3fffe: 1,
		0xe00ff: 1, 0xe0100: 0, 0xe01ef: 0, 0xe01f0: 1, 0x10ffff: 1, 0x110000: 0, math.MaxInt32: 0,
	} {
		if got := Of(r); got != want {
			t.Errorf("%x: %d, want %d", r, got, want)
		}
	}
}

// P6.1: each rune that there may be, and many that are none, has as many columns as the chapter says.
func TestEachRune(t *testing.T) {
	two, none := read(ofTwo), read(ofNone)
	if len(two) != 14 || len(none) != 14 || two[13] != (bounds{0x20000, 0x3fffd}) || none[0] != (bounds{math.MinInt32, -1}) || none[13] != (bounds{0x110000, math.MaxInt32}) {
		t.Fatalf("%x, %x", two, none)
	}
	checkOne := func(r rune) {
		if got, want := Of(r), plain(two, none, r); got != want {
			t.Fatalf("%x: %d, want %d", r, got, want)
		}
	}
	for r := rune(-0x1000); r <= 0x111000; r++ {
		checkOne(r)
	}
	for _, r := range some() {
		checkOne(r)
	}
	random := rand.New(rand.NewSource(15))
	for range 100000 {
		checkOne(rune(random.Uint32()))
	}
}

func TestSum(t *testing.T) {
	for _, c := range []struct {
		l    []rune
		want int
	}{
		{nil, 0}, {[]rune{}, 0}, {[]rune{'a'}, 1}, {[]rune{0x4e2d}, 2}, {[]rune{0x301}, 0},
		{[]rune{'a', 0x301, 0x4e2d}, 3}, {[]rune{0x4e2d, 0x4e2d, 'b', 'c'}, 6},
		{[]rune{-1, math.MinInt32, 0xd800, 0x110000, math.MaxInt32, 0}, 0},
	} {
		if got := Sum(c.l...); got != c.want {
			t.Errorf("%x: %d", c.l, got)
		}
	}
	l := some()
	n := 0
	for _, r := range l {
		n += Of(r)
	}
	if Sum(l...) != n || Sum(slices.Repeat(l, 3)...) != 3*n || Sum() != 0 {
		t.Errorf("%d", n)
	}
}

// What fits, at widths below 0, 0 and above, with runes of no column ahead, between and behind.
func TestFit(t *testing.T) {
	a, w, o := 'a', rune(0x4e2d), rune(0x301)
	for _, c := range []struct {
		w    int
		l    []rune
		want int
	}{
		{2, []rune{a, o, w}, 2},
		{math.MinInt, []rune{o, a}, 0}, {-2, []rune{o}, 0}, {-1, []rune{o, o}, 0}, {-1, []rune{a}, 0}, {-1, nil, 0},
		{0, nil, 0}, {0, []rune{a}, 0}, {0, []rune{w, o}, 0}, {0, []rune{o}, 1}, {0, []rune{o, o, a, o}, 2}, {0, []rune{-1, 0x110000, 0xd800}, 3},
		{1, []rune{a}, 1}, {1, []rune{a, a}, 1}, {1, []rune{a, o, o, a}, 3}, {1, []rune{o, a, o}, 3}, {1, []rune{w}, 0}, {1, []rune{o, w, a}, 1},
		// What is behind one that doesn't fit isn't asked.
		{1, []rune{w, a, o}, 0}, {2, []rune{a, w, a, o}, 1}, {2, []rune{a, w, o}, 1},
		{2, []rune{w}, 1}, {2, []rune{w, o, o}, 3}, {2, []rune{w, o, a}, 2}, {2, []rune{a, a, a}, 2},
		{3, []rune{a, w, o, a}, 3}, {3, []rune{w, w}, 1}, {3, []rune{w, a, o, w}, 3}, {4, []rune{w, w, w}, 2},
		{9, []rune{a, w, o, a}, 4}, {math.MaxInt, []rune{a, w, o}, 3}, {math.MaxInt, nil, 0},
	} {
		if got := Fit(c.w, c.l...); got != c.want {
			t.Errorf("%d, %x: %d, want %d", c.w, c.l, got, c.want)
		}
	}
}

// P6.2: what fits fits, and one with columns more doesn't, nor do more of no column than are counted.
func TestWhatFits(t *testing.T) {
	random := rand.New(rand.NewSource(16))
	edges := some()
	few := []rune{'a', 'b', 0x4e2d, 0x301, 0x302, 0x200b}
	for range 30000 {
		l := make([]rune, random.Intn(12))
		for i := range l {
			l[i] = edges[random.Intn(len(edges))]
			if random.Intn(2) == 0 {
				l[i] = few[random.Intn(len(few))]
			}
		}
		w := random.Intn(16) - 2
		n := Fit(w, l...)
		if w < 0 && n != 0 || n < 0 || n > len(l) {
			t.Fatalf("%d, %x: %d", w, l, n)
		}
		if w < 0 {
			continue
		}
		if Sum(l[:n]...) > w || n < len(l) && Sum(l[:n+1]...) <= w {
			t.Fatalf("%d, %x: %d", w, l, n)
		}
	}
}

// A long list, at widths about what all of it has.
func TestLongList(t *testing.T) {
	l := slices.Repeat([]rune{'a', 0x4e2d, 0x301}, 100000)
	if Sum(l...) != 300000 {
		t.Errorf("%d", Sum(l...))
	}
	for w, want := range map[int]int{299999: 299998, 300000: 300000, 300001: 300000, 299998: 299998, 299997: 299997} {
		if got := Fit(w, l...); got != want {
			t.Errorf("%d: %d", w, got)
		}
	}
}

// A list that is handed in stays as it is, its spare room too.
func TestListsStay(t *testing.T) {
	room := []rune{'a', -1, 0x4e2d, 'b'}
	Sum(room[:2]...)
	Fit(1, room[:2]...)
	Fit(-1, room[:2]...)
	if !slices.Equal(room, []rune{'a', -1, 0x4e2d, 'b'}) {
		t.Errorf("%x", room)
	}
}

// Whoever goes through columns may leave at any of them.
func TestLeftEarly(t *testing.T) {
	n := 0
	for c := range columns([]rune{0x4e2d, 'a', 'b'}) {
		if n++; c != 2 {
			t.Errorf("%d columns", c)
		}
		break
	}
	if n != 1 {
		t.Errorf("%d times", n)
	}
}
