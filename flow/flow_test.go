package flow

import (
	"math"
	"math/rand"
	"slices"
	"strings"
	"testing"

	"tidewrack/row"
	"tidewrack/wide"
)

// widths of all kinds, and as what they count.
var widths = map[int]int{
	math.MinInt: 2, -1000: 2, -1: 2, 0: 2, 1: 2, 2: 2, 3: 3, 4: 4, 5: 5, 7: 7, 80: 80, 999: 999, 1000: 1000, 1001: 1000, 2000: 1000, 1<<32 + 3: 1000, math.MaxInt: 1000,
}

// of is glyphs of a text, no two of which that stand close look alike.
func of(s string) []row.Glyph {
	var l []row.Glyph
	for _, x := range s {
		l = append(l, row.Glyph{Rune: x, Style: len(l)%648 - 3})
	}
	return l
}

func text(l []row.Glyph) string {
	s := ""
	for _, g := range l {
		s += string(g.Rune)
	}
	return s
}

// told is rows in short, with | between.
func told(rows [][]row.Glyph) string {
	var l []string
	for _, r := range rows {
		l = append(l, text(r))
	}
	return strings.Join(l, "|")
}

func columns(l []row.Glyph) int {
	n := 0
	for _, g := range l {
		n += wide.Of(g.Rune)
	}
	return n
}

// plainCut goes glyph by glyph: one for which there is no room begins another row.
func plainCut(l []row.Glyph, w int) [][]row.Glyph {
	rows := [][]row.Glyph{nil}
	for _, g := range l {
		last := len(rows) - 1
		if columns(rows[last])+wide.Of(g.Rune) > w {
			rows = append(rows, nil)
			last++
		}
		rows[last] = append(rows[last], g)
	}
	return rows
}

// checkAt: of each glyph of a line, and of numbers of which there is none.
func checkAt(t *testing.T, l []row.Glyph, w int, rows [][]row.Glyph) {
	t.Helper()
	i := 0
	for y, r := range rows {
		for k := range r {
			if gotY, gotX := At(l, w, i); gotY != y || gotX != columns(r[:k]) {
				t.Fatalf("%q at %d, glyph %d: %d, %d, want %d, %d", text(l), w, i, gotY, gotX, y, columns(r[:k]))
			}
			i++
		}
	}
	for _, i := range []int{math.MinInt, -2, -1, len(l), len(l) + 1, math.MaxInt} {
		if y, x := At(l, w, i); y != 0 || x != 0 {
			t.Fatalf("%q at %d, glyph %d of %d: %d, %d", text(l), w, i, len(l), y, x)
		}
	}
}

// check: P15.2, and all calls alike; w counts as counts.
func check(t *testing.T, l []row.Glyph, w, counts int) {
	t.Helper()
	rows, want := Cut(l, w), plainCut(l, counts)
	if !slices.EqualFunc(rows, want, slices.Equal[[]row.Glyph]) {
		t.Fatalf("%q at %d: %q, want %q", text(l), w, told(rows), told(want))
	}
	if n := Count(l, w); n != len(want) {
		t.Fatalf("%q at %d: %d rows, want %d", text(l), w, n, len(want))
	}
	if joined := Join(rows...); !slices.Equal(joined, l) {
		t.Fatalf("%q at %d: joined %q", text(l), w, text(joined))
	}
	for y, r := range rows {
		if columns(r) > counts || y > 0 && columns(append(slices.Clone(rows[y-1]), r[0])) <= counts {
			t.Fatalf("%q at %d: %q, of which the row %d isn't as long as may be", text(l), w, told(rows), y)
		}
	}
}

// The chapter's example.
func TestExample(t *testing.T) {
	if got := told(Cut(of("ab中"), 3)); got != "ab|中" {
		t.Errorf("%q", got)
	}
}

func TestCut(t *testing.T) {
	for _, c := range []struct {
		line string
		w    int
		want string
	}{
		// Narrow runes.
		{"a", 2, "a"}, {"ab", 2, "ab"}, {"abc", 2, "ab|c"}, {"abcd", 2, "ab|cd"}, {"abcde", 2, "ab|cd|e"}, {"abcdef", 3, "abc|def"}, {"abcdefg", 3, "abc|def|g"}, {"abcdefg", 7, "abcdefg"}, {"abcdefgh", 7, "abcdefg|h"}, {"abc", 1000, "abc"},
		// Widths that count as 2.
		{"abc", 1, "ab|c"}, {"abc", 0, "ab|c"}, {"abc", -1, "ab|c"}, {"a中b", 1, "a|中|b"}, {"abc", math.MinInt, "ab|c"},
		// Wide ones, for which there are two columns, or one alone.
		{"中", 2, "中"}, {"中文", 2, "中|文"}, {"中文", 3, "中|文"}, {"中文", 4, "中文"}, {"中文字", 5, "中文|字"}, {"a中", 2, "a|中"}, {"a中", 3, "a中"}, {"ab中", 3, "ab|中"}, {"a中b", 3, "a中|b"}, {"中a", 2, "中|a"}, {"中ab", 3, "中a|b"}, {"a中文b", 4, "a中|文b"}, {"abc中", 4, "abc|中"},
		// Runes of no columns, at the head of a line, behind a full row, behind one with a column left, and alone.
		{"\u0301", 2, "\u0301"}, {"\u0301\u0301\u0301", 2, "\u0301\u0301\u0301"}, {"\u0301ab", 2, "\u0301ab"}, {"ab\u0301", 2, "ab\u0301"}, {"ab\u0301\u0302", 2, "ab\u0301\u0302"}, {"ab\u0301c", 2, "ab\u0301|c"}, {"ab\u0301c\u0302", 2, "ab\u0301|c\u0302"},
		{"中\u0301\u0302文\u0301", 3, "中\u0301\u0302|文\u0301"}, {"a\u0301中", 2, "a\u0301|中"}, {"a\u0301中\x00b", 2, "a\u0301|中\x00|b"}, {"\u0301中\u0301a\u0301", 2, "\u0301中\u0301|a\u0301"}, {"a\x1bb\x7fc", 2, "a\x1bb\x7f|c"},
	} {
		if got := Cut(of(c.line), c.w); told(got) != c.want || len(got) != strings.Count(c.want, "|")+1 {
			t.Errorf("%q at %d: %q, want %q", c.line, c.w, told(got), c.want)
		}
	}
}

// A line without glyphs is one row without any, at each width.
func TestCutEmpty(t *testing.T) {
	for w := range widths {
		for _, l := range [][]row.Glyph{nil, {}} {
			if rows := Cut(l, w); len(rows) != 1 || len(rows[0]) != 0 || Count(l, w) != 1 {
				t.Errorf("at %d: %d, %d", w, rows, Count(l, w))
			}
			checkAt(t, l, w, [][]row.Glyph{nil})
		}
	}
}

// Widths at 1000, and above, and what is just too long for them.
func TestCutWide(t *testing.T) {
	narrow := func(n int) string { return strings.Repeat("a", n) }
	two := func(n int) string { return strings.Repeat("中", n) }
	for _, c := range []struct {
		line string
		w    int
		want []int
	}{
		{narrow(999), 1000, []int{999}}, {narrow(1000), 1000, []int{1000}}, {narrow(1001), 1000, []int{1000, 1}}, {narrow(2001), 1000, []int{1000, 1000, 1}}, {narrow(1000), 999, []int{999, 1}},
		{narrow(1001), 1001, []int{1000, 1}}, {narrow(1001), math.MaxInt, []int{1000, 1}}, {narrow(1001), 1 << 32, []int{1000, 1}}, {narrow(3), 1<<32 + 2, []int{3}},
		{two(500), 1000, []int{500}}, {two(501), 1000, []int{500, 1}}, {two(501), 5000, []int{500, 1}}, {two(500), 999, []int{499, 1}}, {narrow(999) + two(1), 1000, []int{999, 1}}, {narrow(998) + two(1), 1000, []int{999}},
		{narrow(1000) + strings.Repeat("\u0301", 30) + "b", 1000, []int{1030, 1}}, {strings.Repeat("\u0301", 5000), 1000, []int{5000}},
	} {
		rows := Cut(of(c.line), c.w)
		var got []int
		for _, r := range rows {
			got = append(got, len(r))
		}
		if !slices.Equal(got, c.want) {
			t.Errorf("%d glyphs at %d: %d, want %d", len(of(c.line)), c.w, got, c.want)
		}
		check(t, of(c.line), c.w, min(c.w, 1000))
		checkAt(t, of(c.line), c.w, rows)
	}
}

// all are the lines of up to n of these runes.
func all(n int, of ...rune) [][]row.Glyph {
	lines := [][]row.Glyph{nil}
	from := 0
	for range n {
		to := len(lines)
		for _, l := range lines[from:to] {
			for _, x := range of {
				lines = append(lines, append(slices.Clone(l), row.Glyph{Rune: x, Style: len(l)}))
			}
		}
		from = to
	}
	return lines
}

// P15.2, of all lines of up to eight glyphs of one column, of two, and of none.
func TestAllLines(t *testing.T) {
	for _, l := range all(8, 'a', '中', 0x301) {
		for w := -1; w <= 6; w++ {
			check(t, l, w, max(w, 2))
		}
	}
	for _, l := range all(5, 'b', 0x3fffd, -1, 0x110000, math.MinInt32, math.MaxInt32) {
		check(t, l, 3, 3)
	}
	for _, l := range all(6, 'a', '中', 0x301) {
		for w := 1; w <= 5; w++ {
			checkAt(t, l, w, plainCut(l, max(w, 2)))
		}
	}
}

// randomLine is up to n glyphs of all kinds.
func randomLine(random *rand.Rand, n int) []row.Glyph {
	runes := []rune{'a', 'b', ' ', '中', 0xff00, 0x1f300, 0x301, 0x200b, 7, -1, math.MinInt32, 0xd800, 0x10ffff, 0x110000, math.MaxInt32}
	var l []row.Glyph
	for range random.Intn(n + 1) {
		l = append(l, row.Glyph{Rune: runes[random.Intn(len(runes))], Style: random.Intn(2000) - 1000})
	}
	return l
}

// P15.1: lines of any glyphs, at widths of all kinds.
func TestAnyLines(t *testing.T) {
	random := rand.New(rand.NewSource(15))
	for range 300 {
		l := randomLine(random, 60)
		for w, counts := range widths {
			check(t, l, w, counts)
		}
		w := 2 + random.Intn(12)
		checkAt(t, l, w, plainCut(l, w))
	}
	for range 20 {
		l := randomLine(random, 4000)
		w := 2 + random.Intn(999)
		check(t, l, w, w)
		checkAt(t, l, w, plainCut(l, w))
	}
}

// FLOW: rows at another width, joined, and cut again at the first one, are the same rows.
func TestAnotherWidthAndBack(t *testing.T) {
	random := rand.New(rand.NewSource(16))
	for range 400 {
		l := randomLine(random, 50)
		w := random.Intn(14)
		first := Cut(l, w)
		for _, other := range []int{math.MinInt, 2, 3, random.Intn(20), 1000, math.MaxInt} {
			again := Cut(Join(Cut(Join(first...), other)...), w)
			if !slices.EqualFunc(first, again, slices.Equal[[]row.Glyph]) {
				t.Fatalf("%q at %d, %d and back: %q, want %q", text(l), w, other, told(again), told(first))
			}
		}
	}
}

func TestAt(t *testing.T) {
	l := of("a中\u0301b文\u0302")
	for i, want := range [][2]int{{0, 0}, {0, 1}, {0, 3}, {1, 0}, {1, 1}, {1, 3}} {
		if y, x := At(l, 3, i); y != want[0] || x != want[1] {
			t.Errorf("glyph %d: %d, %d, want %d", i, y, x, want)
		}
	}
	for i, want := range [][2]int{{0, 0}, {1, 0}, {1, 2}, {2, 0}, {3, 0}, {3, 2}} {
		for _, w := range []int{2, 1, 0, -7, math.MinInt} {
			if y, x := At(l, w, i); y != want[0] || x != want[1] {
				t.Errorf("glyph %d at %d: %d, %d, want %d", i, w, y, x, want)
			}
		}
	}
	// Widths above 1000 count as that.
	for i, want := range map[int][2]int{0: {0, 0}, 999: {0, 999}, 1000: {1, 0}, 1001: {1, 1}, 1002: {0, 0}} {
		if y, x := At(of(strings.Repeat("a", 1002)), 1001, i); y != want[0] || x != want[1] {
			t.Errorf("glyph %d: %d, %d, want %d", i, y, x, want)
		}
	}
}

func TestJoin(t *testing.T) {
	for _, c := range []struct {
		rows []string
		want string
	}{
		{nil, ""}, {[]string{""}, ""}, {[]string{"", "", ""}, ""}, {[]string{"ab"}, "ab"}, {[]string{"ab", "c"}, "abc"}, {[]string{"", "ab", "", "c", ""}, "abc"}, {[]string{"b", "a", "b"}, "bab"}, {[]string{"中", "\u0301", "a"}, "中\u0301a"},
	} {
		var rows [][]row.Glyph
		var want []row.Glyph
		for k, s := range c.rows {
			r := of(s)
			for i := range r {
				r[i].Style = 100*k + i
			}
			rows, want = append(rows, r), append(want, r...)
		}
		if got := Join(rows...); text(got) != c.want || !slices.Equal(got, want) {
			t.Errorf("%q: %v, want %v", c.rows, got, want)
		}
	}
	if got := Join(nil, nil); len(got) != 0 {
		t.Errorf("%v", got)
	}
}

func TestText(t *testing.T) {
	if got := Text(); got != "" {
		t.Errorf("%q", got)
	}
	for _, c := range []struct {
		l    []rune
		want string
	}{
		{nil, ""}, {[]rune{'a'}, "a"}, {[]rune{'a', 0x4e2d, 0x301, 0x1f300}, "a\xe4\xb8\xad\xcc\x81\xf0\x9f\x8c\x80"}, {[]rune{0, 0x7f, 0x80, 0x7ff, 0x800, 0xffff, 0x10000, 0x10ffff}, "\x00\x7f\xc2\x80\xdf\xbf\xe0\xa0\x80\xef\xbf\xbf\xf0\x90\x80\x80\xf4\x8f\xbf\xbf"},
		// Those that are none.
		{[]rune{0xd800}, "\xef\xbf\xbd"}, {[]rune{'a', 0xdfff, 'b'}, "a\xef\xbf\xbdb"}, {[]rune{0x110000, -1}, "\xef\xbf\xbd\xef\xbf\xbd"}, {[]rune{math.MinInt32, math.MaxInt32, 'c'}, "\xef\xbf\xbd\xef\xbf\xbdc"}, {[]rune{0xd83c, 0xdf00}, "\xef\xbf\xbd\xef\xbf\xbd"},
	} {
		var l []row.Glyph
		for i, x := range c.l {
			l = append(l, row.Glyph{Rune: x, Style: i - 1})
		}
		if got := Text(l...); got != c.want {
			t.Errorf("%x: %x, want %x", c.l, got, c.want)
		}
	}
}

// spoil changes all there is of a list, its spare room too.
func spoil(l []row.Glyph) {
	l = l[:cap(l)]
	for i := range l {
		l[i] = row.Glyph{Rune: '!', Style: 77}
	}
}

// roomy is a list with spare room, and another one of all that memory.
func roomy(s string) ([]row.Glyph, []row.Glyph) {
	l := append(make([]row.Glyph, 0, 64), of(s)...)
	return l, slices.Clone(l[:cap(l)])
}

// Nothing that is handed in is changed, its spare room neither; and what is done with answers changes nothing else.
func TestMemory(t *testing.T) {
	l, was := roomy("a中b\u0301cd文e")
	stays := func(what string) {
		t.Helper()
		if !slices.Equal(l[:cap(l)], was) {
			t.Fatalf("%s changes what it is handed", what)
		}
	}
	rows, same := Cut(l, 3), Cut(l, 3)
	stays("Cut")
	for i := range rows {
		spoil(rows[i])
		for k := i + 1; k < len(rows); k++ {
			if !slices.Equal(rows[k], same[k]) {
				t.Fatalf("the row %d changes the row %d", i, k)
			}
		}
	}
	stays("a row of Cut")
	Count(l, 3)
	At(l, 3, 4)
	Text(l...)
	stays("Count, At or Text")
	joined := Join(l, of("x"))
	stays("Join")
	spoil(joined)
	stays("what was joined")
	one := Join(l)
	spoil(one)
	stays("one row that was joined")
	// Rows that share memory, as pieces of one list do.
	if got := Join(l[2:4], l[:2]); text(got) != "b\u0301a中" {
		t.Errorf("%q", text(got))
	}
	stays("Join of pieces")
	again := Cut(l, 3)
	spoil(l)
	if !slices.EqualFunc(again, same, slices.Equal[[]row.Glyph]) {
		t.Error("a row keeps what was handed in")
	}
}
