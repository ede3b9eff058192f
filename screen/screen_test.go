package screen

import (
	"math"
	"slices"
	"strconv"
	"strings"
	"testing"

	"tidewrack/row"
	"tidewrack/seq"
	"tidewrack/style"
)

// What is expected is written by these: of each row its cells (of a blank · or, of another style than 0, #; of a Right >, of a Filler _), and + if it is Wrapped, with | between; then the cursor, and ! if it is waiting.

func shown(r row.Row) string {
	s := ""
	for _, c := range r.Cells {
		switch {
		case c.Part == row.Right:
			s += ">"
		case c.Part == row.Filler:
			s += "_"
		case c == row.Cell{Rune: ' '}:
			s += "·"
		case c.Rune == ' ' && c.Part == row.Single:
			s += "#"
		default:
			s += string(c.Rune)
		}
	}
	if r.Wrapped {
		s += "+"
	}
	return s
}

func shownAll(rows []row.Row) string {
	var l []string
	for _, r := range rows {
		l = append(l, shown(r))
	}
	return strings.Join(l, "|")
}

func where(s *Screen) string {
	x, y := s.Cursor()
	told := strconv.Itoa(x) + "," + strconv.Itoa(y)
	if s.Waiting() {
		told += "!"
	}
	return told
}

func told(s *Screen) string {
	return shownAll(s.Grid().Rows()) + " " + where(s)
}

// feed does what a text says, and answers what went off.
func feed(s *Screen, text string) []row.Row {
	var p seq.Parser
	var off []row.Row
	for _, a := range p.Feed(text) {
		off = append(off, s.Do(a)...)
	}
	return off
}

func fed(w, h int, text string) *Screen {
	s := New(w, h)
	feed(s, text)
	return s
}

// command is one that isn't private.
func command(b byte, nums ...int) seq.Action {
	return seq.Action{Kind: seq.Command, Byte: b, Nums: nums}
}

func private(b byte, nums ...int) seq.Action {
	return seq.Action{Kind: seq.Command, Byte: b, Private: true, Nums: nums}
}

// try is a text on a screen of that size: what is seen then, and what went off.
type try struct {
	w, h            int
	text, want, off string
}

func checkAll(t *testing.T, l []try) {
	t.Helper()
	for _, c := range l {
		s := New(c.w, c.h)
		off := feed(s, c.text)
		if got := told(s); got != c.want {
			t.Errorf("%d, %d, %q: %s, want %s", c.w, c.h, c.text, got, c.want)
		}
		if got := shownAll(off); got != c.off {
			t.Errorf("%d, %d, %q: %s is off, want %s", c.w, c.h, c.text, got, c.off)
		}
	}
}

// step is an action on a screen as a text makes it.
type step struct {
	text string
	a    seq.Action
	want string
}

// checkSteps: what is seen behind an action, nothing being off.
func checkSteps(t *testing.T, w, h int, l []step) {
	t.Helper()
	for _, c := range l {
		s := fed(w, h, c.text)
		if off := s.Do(c.a); len(off) > 0 {
			t.Errorf("%q, %+v: %s is off", c.text, c.a, shownAll(off))
		}
		if got := told(s); got != c.want {
			t.Errorf("%q, %+v: %s, want %s", c.text, c.a, got, c.want)
		}
	}
}

// state is all that is told of a screen.
func state(s *Screen) string {
	top, bottom := s.Region()
	l := []string{told(s), s.Title(), strconv.Itoa(s.Style().Num()), strconv.Itoa(top), strconv.Itoa(bottom)}
	for _, r := range s.Grid().Rows() {
		for _, c := range r.Cells {
			l = append(l, strconv.Itoa(c.Style))
		}
	}
	return strings.Join(l, " ")
}

// hidden is what is told of a screen, and what becomes of it by what isn't: wrapping, and what is saved.
func hidden(s *Screen) string {
	c, d := s.Clone(), s.Clone()
	feed(c, "\x1b[999C\x1b[Hxyz\u4e2d\u4e2d\u4e2dxyz")
	feed(d, "\x1b8\x1b[1@")
	return state(s) + " / " + state(c) + " / " + state(d)
}

// The chapter's example.
func TestExample(t *testing.T) {
	s := New(3, 2)
	feed(s, "abcd")
	if got := told(s); got != "abc+|d·· 1,1" {
		t.Error(got)
	}
	line := seq.Action{Kind: seq.Escape, Byte: 'D'}
	if got := shownAll(s.Do(line)); got != "abc+" {
		t.Error(got)
	}
	if got := shownAll(s.Do(line)); got != "d··" {
		t.Error(got)
	}
}

// As many columns and rows as may be; all else is as nothing was done.
func TestNew(t *testing.T) {
	for n, want := range map[int]int{math.MinInt: 1, -1: 1, 0: 1, 1: 1, 2: 2, 999: 999, 1000: 1000, 1001: 1000, math.MaxInt: 1000} {
		for _, s := range []*Screen{New(n, 2), New(2, n)} {
			w, h := s.Grid().Size()
			top, bottom := s.Region()
			if w+h != want+2 || top != 0 || bottom != h-1 || where(s) != "0,0" || s.Style() != (style.Style{}) || s.Title() != "" {
				t.Errorf("%d: %d columns, %d rows, region %d %d, %s, %+v, %q", n, w, h, top, bottom, where(s), s.Style(), s.Title())
			}
			if !s.Grid().Same(New(w, h).Grid()) || strings.Trim(strings.Join(s.Grid().Text(), ""), " ") != "" {
				t.Errorf("%d: it isn't blank", n)
			}
		}
	}
	w, h := New(3, 5).Grid().Size()
	if w != 3 || h != 5 {
		t.Errorf("%d, %d", w, h)
	}
	// It wraps, and nothing is saved.
	checkAll(t, []try{{2, 2, "ab\x1b8", "ab|·· 0,0", ""}, {2, 2, "abc", "ab+|c· 1,1", ""}})
}

const (
	off7 = "\x1b[?7l"
	on7  = "\x1b[?7h"
	mark = "\u0301"
	zh   = "\u4e2d"
)

// Runes of one column, ahead of the last one and at it, waiting and not.
func TestPrintOne(t *testing.T) {
	checkAll(t, []try{
		{3, 2, "a", "a··|··· 1,0", ""}, {3, 2, "ab", "ab·|··· 2,0", ""}, {3, 2, "abc", "abc|··· 2,0!", ""}, {3, 2, "abcd", "abc+|d·· 1,1", ""},
		{3, 2, "abcdef", "abc+|def 2,1!", ""}, {3, 2, "abcdefg", "def+|g·· 1,1", "abc+"}, {3, 2, "abcdefghij", "ghi+|j·· 1,1", "abc+|def+"},
		// At the last column, but not waiting.
		{3, 2, "abc\x1b[3GX", "abX|··· 2,0!", ""}, {3, 2, "\x1b[3GX", "··X|··· 2,0!", ""}, {3, 2, "abc\rXY", "XYc|··· 2,0", ""},
		// On the last row, which isn't the region's lowest, there is no further one.
		{2, 3, "\x1b[1;2r\x1b[3Habcde", "··|··|ed 1,2", ""}, {2, 3, "\x1b[1;2r\x1b[3Habcd", "··|··|cd 1,2!", ""},
		// On the region's lowest row, which isn't the last.
		{2, 3, "\x1b[1;2r\x1b[2Habc", "ab+|c·|·· 1,1", "··"}, {2, 3, "\x1b[2;3r\x1b[3Habc", "··|ab+|c· 1,2", ""},
		// A row that goes on doesn't any more, once something is put there.
		{2, 2, "abc\x1b[Hx", "xb|c· 1,0", ""}, {2, 2, "abc\x1b[H" + mark, "ab+|c· 0,0", ""},
		// What is waiting is the cursor, not the row.
		{2, 2, "ab\x1b[2;2Hc", "ab|·c 1,1!", ""},
		// Without wrapping.
		{3, 2, off7 + "abcd", "abd|··· 2,0!", ""}, {3, 2, off7 + "abcdef", "abf|··· 2,0!", ""}, {3, 1, off7 + "abcdef", "abf 2,0!", ""},
		{3, 2, "abc" + off7 + "d", "abd|··· 2,0!", ""}, {3, 2, off7 + "abc" + on7 + "d", "abc+|d·· 1,1", ""}, {3, 2, "abc" + off7 + on7 + "d", "abc+|d·· 1,1", ""},
		// One column, one row, one of both.
		{1, 3, "a", "a|·|· 0,0!", ""}, {1, 3, "ab", "a+|b|· 0,1!", ""}, {1, 3, "abcde", "c+|d+|e 0,2!", "a+|b+"}, {1, 2, off7 + "abc", "c|· 0,0!", ""},
		{3, 1, "abc", "abc 2,0!", ""}, {3, 1, "abcd", "d·· 1,0", "abc+"}, {3, 1, "abcdefgh", "gh· 2,0", "abc+|def+"},
		{1, 1, "a", "a 0,0!", ""}, {1, 1, "abc", "c 0,0!", "a+|b+"}, {1, 1, off7 + "abc", "c 0,0!", ""},
	})
}

// Runes of two columns; of more than the screen has nothing is put, and it stays as it waits.
func TestPrintTwo(t *testing.T) {
	checkAll(t, []try{
		{4, 2, zh, "中>··|···· 2,0", ""}, {4, 2, zh + zh, "中>中>|···· 3,0!", ""}, {4, 2, zh + zh + zh, "中>中>+|中>·· 2,1", ""}, {4, 2, zh + zh + "a", "中>中>+|a··· 1,1", ""},
		{4, 2, "abc" + zh, "abc_+|中>·· 2,1", ""}, {4, 2, "ab" + zh, "ab中>|···· 3,0!", ""}, {4, 2, "abcd" + zh, "abcd+|中>·· 2,1", ""}, {4, 2, "\x1b[4G" + zh, "···_+|中>·· 2,1", ""},
		{4, 2, "abcd\x1b[4G" + zh, "abc_+|中>·· 2,1", ""}, {4, 2, "ab" + zh + "\x1b[4G" + zh, "ab·_+|中>·· 2,1", ""},
		{4, 2, "\x1b[2;4H" + zh, "···_+|中>·· 2,1", "····"}, {4, 1, "abc" + zh, "中>·· 2,0", "abc_+"}, {4, 1, "abc" + zh + zh + zh, "中>·· 2,0", "abc_+|中>中>+"},
		{2, 2, zh, "中>|·· 1,0!", ""}, {2, 2, "a" + zh, "a_+|中> 1,1!", ""}, {2, 2, zh + zh + zh, "中>+|中> 1,1!", "中>+"}, {2, 1, "a" + zh + "b", "b· 1,0", "a_+|中>+"},
		{3, 2, zh + zh, "中>_+|中>· 2,1", ""}, {3, 2, zh + "ab", "中>a+|b·· 1,1", ""},
		// Over others.
		{4, 1, zh + zh + "\x1b[2G" + zh, "·中>· 3,0", ""}, {4, 1, zh + zh + "\rx", "x·中> 1,0", ""}, {4, 1, zh + zh + "\x1b[2Gx", "·x中> 2,0", ""},
		// On the last row, which isn't the region's lowest.
		{3, 3, "\x1b[1;2r\x1b[3;3H" + zh, "···|···|中>_ 2,2", ""},
		// Without wrapping it stands in the last two columns.
		{4, 2, off7 + "abc" + zh, "ab中>|···· 3,0!", ""}, {4, 2, off7 + "abcd" + zh, "ab中>|···· 3,0!", ""}, {4, 2, off7 + zh + zh + zh, "中>中>|···· 3,0!", ""},
		{2, 2, off7 + "a" + zh, "中>|·· 1,0!", ""}, {2, 1, off7 + zh + zh, "中> 1,0!", ""}, {3, 1, off7 + zh + zh, "·中> 2,0!", ""},
		// Of one column.
		{1, 2, zh, "·|· 0,0", ""}, {1, 2, "a" + zh, "a|· 0,0!", ""}, {1, 2, "a" + zh + "b", "a+|b 0,1!", ""}, {1, 2, off7 + "a" + zh, "a|· 0,0!", ""}, {1, 1, zh + zh, "· 0,0", ""},
	})
}

// Of no column nothing is put, waiting or not; nor of numbers that are no runes, or none that is printed.
func TestPrintNone(t *testing.T) {
	for _, x := range []rune{0x301, 0x200b, 0xfeff, 0, 7, 10, 0x1b, 0x1f, 0x7f, 0x9f, 0xd800, 0xdfff, 0x110000, -1, math.MinInt32, math.MaxInt32} {
		for _, text := range []string{"", "ab", "abc", "abcdef", off7 + "abc", "\x1b[31mabc\x1b[2;2H"} {
			s := fed(3, 2, text)
			before := hidden(s)
			if off := s.Do(seq.Action{Kind: seq.Print, Rune: x}); len(off) > 0 || hidden(s) != before {
				t.Errorf("%q, %x: %s, %d are off", text, x, told(s), len(off))
			}
		}
	}
	// A rune that isn't one is Bad by then, which has a column; the least and greatest of those that are printed have one, too.
	for _, x := range []rune{0xfffd, ' ', '~', 0xa0, 0x10ffff} {
		s := New(2, 1)
		s.Do(seq.Action{Kind: seq.Print, Rune: x})
		if c := s.Grid().Row(0).Cells[0]; c != (row.Cell{Rune: x}) || where(s) != "1,0" {
			t.Errorf("%x: %+v, %s", x, c, where(s))
		}
	}
}

// What is put, left over, and comes new looks as the style is.
func TestPrintStyle(t *testing.T) {
	s := fed(3, 1, "\x1b[1;31mab\x1b[42m"+zh)
	cells := s.Grid().Row(0).Cells
	if want := []row.Cell{{Rune: 0x4e2d, Style: 110, Part: row.Left}, {Rune: 0x4e2d, Style: 110, Part: row.Right}, {Rune: ' ', Style: 110}}; !slices.Equal(cells, want) {
		t.Errorf("%+v", cells)
	}
	s = fed(3, 2, "\x1b[1;31mab\x1b[42m"+zh)
	cells = s.Grid().Row(0).Cells
	if want := []row.Cell{{Rune: 'a', Style: 83}, {Rune: 'b', Style: 83}, {Rune: ' ', Style: 110, Part: row.Filler}}; !slices.Equal(cells, want) {
		t.Errorf("%+v", cells)
	}
}

func TestControl(t *testing.T) {
	checkAll(t, []try{
		{4, 2, "ab\b", "ab··|···· 1,0", ""}, {4, 2, "ab\b\b\b\b", "ab··|···· 0,0", ""}, {4, 2, "\x1b[2;2H\b\b", "····|···· 0,1", ""}, {4, 2, "abcd\b", "abcd|···· 2,0", ""}, {4, 2, "abcd\bx", "abxd|···· 3,0", ""},
		{1, 1, "a\b", "a 0,0", ""}, {1, 2, "a\bb", "b|· 0,0!", ""},
		{4, 2, "ab\r", "ab··|···· 0,0", ""}, {4, 2, "abcd\r", "abcd|···· 0,0", ""}, {4, 2, "\x1b[2;3H\r", "····|···· 0,1", ""}, {1, 2, "a\rb", "b|· 0,0!", ""},
		{4, 2, "ab\n", "ab··|···· 2,1", ""}, {4, 2, "abcd\n", "abcd|···· 3,1", ""}, {4, 2, "abcd\nx", "abcd|···x 3,1!", ""}, {4, 2, "a\n\n", "····|···· 1,1", "a···"},
		{4, 2, "ab\v", "ab··|···· 2,1", ""}, {4, 2, "a\v\v", "····|···· 1,1", "a···"}, {4, 2, "ab\f", "ab··|···· 2,1", ""}, {4, 2, "a\f\f", "····|···· 1,1", "a···"},
		{4, 2, "a\tb", "a··b|···· 3,0!", ""}, {4, 2, "abcd\t", "abcd|···· 3,0", ""}, {4, 2, "abcd\tx", "abcx|···· 3,0!", ""}, {1, 1, "a\t", "a 0,0", ""},
	})
	// From each column of a row of 20.
	for x := range 20 {
		s := New(20, 2)
		feed(s, "\n\x1b["+strconv.Itoa(x+1)+"G\t")
		want := 19
		for _, stop := range []int{16, 8} {
			if x < stop {
				want = stop
			}
		}
		if got, y := s.Cursor(); got != want || y != 1 {
			t.Errorf("from %d: %d, %d", x, got, y)
		}
	}
	// Stops are as far as the screen goes: the last one of 1000 columns is 992.
	s := New(1000, 1)
	for i := range 130 {
		if x, _ := s.Cursor(); x != min(8*i, 999) {
			t.Errorf("%d tabs: %d", i, x)
		}
		s.Do(seq.Action{Kind: seq.Control, Byte: 9})
	}
}

// Line: at the region's lowest row, above it, below it, and at the last row; off it goes only from the uppermost row.
func TestLine(t *testing.T) {
	for _, line := range []string{"\n", "\v", "\f", "\x1bD"} {
		rows := "a\r\nb\r\nc\r\nd"
		checkAll(t, []try{
			{2, 4, rows + "\x1b[2;2H" + line, "a·|b·|c·|d· 1,2", ""}, {2, 4, rows + "\x1b[4;2H" + line, "b·|c·|d·|·· 1,3", "a·"}, {2, 4, rows + line + line, "c·|d·|··|·· 1,3", "a·|b·"},
			// A region at the top.
			{2, 4, rows + "\x1b[1;2r\x1b[2H" + line, "b·|··|c·|d· 0,1", "a·"}, {2, 4, rows + "\x1b[1;2r\x1b[1H" + line, "a·|b·|c·|d· 0,1", ""}, {2, 4, rows + "\x1b[1;2r\x1b[3H" + line, "a·|b·|c·|d· 0,3", ""},
			{2, 4, rows + "\x1b[1;2r\x1b[4;2H" + line, "a·|b·|c·|d· 1,3", ""},
			// Regions that don't begin there.
			{2, 4, rows + "\x1b[2;3r\x1b[3H" + line, "a·|c·|··|d· 0,2", ""}, {2, 4, rows + "\x1b[2;4r\x1b[4H" + line, "a·|c·|d·|·· 0,3", ""}, {2, 4, rows + "\x1b[2;3r\x1b[1H" + line, "a·|b·|c·|d· 0,1", ""},
			{2, 4, rows + "\x1b[2;3r\x1b[4H" + line, "a·|b·|c·|d· 0,3", ""}, {2, 4, rows + "\x1b[3;4r\x1b[2H" + line + line + line, "a·|b·|d·|·· 0,3", ""},
			// Waiting it isn't any more.
			{2, 4, "ab" + line + "c", "ab|·c|··|·· 1,1!", ""}, {2, 1, "ab" + line, "·· 1,0", "ab"}, {2, 1, "abc" + line, "·· 1,0", "ab+|c·"},
			{2, 4, "\x1b[1;2r\x1b[4Hab" + line + "c", "··|··|··|ac 1,3!", ""},
		})
		s := fed(2, 2, "\x1b[44;7m"+line)
		feed(s, line)
		if cells := s.Grid().Row(1).Cells; !slices.Equal(cells, []row.Cell{{Rune: ' ', Style: 369}, {Rune: ' ', Style: 369}}) {
			t.Errorf("%q: %+v", line, cells)
		}
	}
}

func TestEscape(t *testing.T) {
	rows := "a\r\nb\r\nc\r\nd"
	checkAll(t, []try{
		{3, 2, "ab\x1bE", "ab·|··· 0,1", ""}, {3, 2, "abc\x1bEx", "abc|x·· 1,1", ""}, {3, 2, "ab\x1bE\x1bE", "···|··· 0,1", "ab·"}, {3, 3, "\x1b[1;2r\x1b[3;3H\x1bE", "···|···|··· 0,2", ""},
		{2, 4, rows + "\x1b[2;3r\x1b[3;2H\x1bE", "a·|c·|··|d· 0,2", ""},
		{2, 4, rows + "\x1bM", "a·|b·|c·|d· 1,2", ""}, {2, 4, rows + "\x1b[1;2H\x1bM", "··|a·|b·|c· 1,0", ""}, {2, 4, rows + "\x1b[2;3r\x1b[2;2H\x1bM", "a·|··|b·|d· 1,1", ""},
		{2, 4, rows + "\x1b[2;3r\x1b[1;2H\x1bM", "a·|b·|c·|d· 1,0", ""}, {2, 4, rows + "\x1b[2;3r\x1b[3H\x1bM", "a·|b·|c·|d· 0,1", ""}, {2, 4, rows + "\x1b[2;3r\x1b[4H\x1bM", "a·|b·|c·|d· 0,2", ""},
		{2, 4, rows + "\x1b[1;2r\x1b[1H\x1bM", "··|a·|c·|d· 0,0", ""}, {2, 4, "ab\x1bMc", "·c|ab|··|·· 1,0!", ""}, {2, 4, "\r\nab\x1bMc", "·c|ab|··|·· 1,0!", ""}, {2, 1, "ab\x1bM", "·· 1,0", ""},
		{2, 4, "\x1b[2;3rab\x1bM", "ab|··|··|·· 1,0", ""},
	})
	s := fed(2, 2, "ab\x1b[1;37m\x1bM")
	if cells := s.Grid().Row(0).Cells; !slices.Equal(cells, []row.Cell{{Rune: ' ', Style: 89}, {Rune: ' ', Style: 89}}) {
		t.Errorf("M: %+v", cells)
	}
}

// What is saved is where the cursor is, and the style; it is brought among what there is then.
func TestSave(t *testing.T) {
	checkAll(t, []try{
		{3, 3, "ab\x1b7\x1b[3;3H\x1b8", "ab·|···|··· 2,0", ""}, {3, 3, "ab\x1b[3;2H\x1b7\x1b[H\x1b8x", "ab·|···|·x· 2,2", ""}, {3, 3, "abc\x1b8", "abc|···|··· 0,0", ""},
		// Twice there; the newest one counts.
		{3, 3, "\x1b[2;2H\x1b7\x1b[H\x1b8\x1b[H\x1b8", "···|···|··· 1,1", ""}, {3, 3, "\x1b[2;2H\x1b7\x1b[3;3H\x1b7\x1b[H\x1b8", "···|···|··· 2,2", ""},
		// Waiting isn't saved, and stays where it is saved.
		{3, 3, "abc\x1b7", "abc|···|··· 2,0!", ""}, {3, 3, "abc\x1b7d", "abc+|d··|··· 1,1", ""}, {3, 3, "abc\x1b7\x1b8", "abc|···|··· 2,0", ""}, {3, 3, "abc\x1b7\x1b8d", "abd|···|··· 2,0!", ""}, {3, 3, "\x1b7abc\x1b8", "abc|···|··· 0,0", ""},
		// Nothing that is put, no title, no region and no wrapping is saved.
		{3, 3, "\x1b7x" + off7 + "\x1b8abcd", "abd|···|··· 2,0!", ""}, {3, 3, "\x1b7\x1b[2;3r\x1b8\x1b[3Hx\n", "···|x··|··· 1,2", ""},
	})
	s := fed(3, 3, "\x1b[1;33m\x1b[2;3H\x1b7\x1b[m\x1b[H\x1b]0;t\a")
	if s.Style() != (style.Style{}) {
		t.Errorf("%+v", s.Style())
	}
	feed(s, "\x1b8")
	if s.Style() != (style.Style{Fore: 4, Bold: true}) || where(s) != "2,1" || s.Title() != "t" {
		t.Errorf("%+v, %s, %q", s.Style(), where(s), s.Title())
	}
	s.Resize(2, 1)
	feed(s, "\x1b[H\x1b[m\x1b8")
	if s.Style() != (style.Style{Fore: 4, Bold: true}) || where(s) != "1,0" {
		t.Errorf("smaller: %+v, %s", s.Style(), where(s))
	}
	s.Resize(9, 9)
	feed(s, "\x1b8")
	if where(s) != "2,1" {
		t.Errorf("greater again: %s", where(s))
	}
	s = fed(3, 3, "\x1b[4m\x1b[2;2H")
	feed(s, "\x1b8")
	if s.Style() != (style.Style{}) || where(s) != "0,0" {
		t.Errorf("nothing saved: %+v, %s", s.Style(), where(s))
	}
}

// c: all is as at first, whatever was.
func TestReset(t *testing.T) {
	for _, text := range []string{"", "abcdefghijkl", "\x1b]2;title\a", "\x1b[1;31;42m\x1b[2J", "\x1b[2;3r\x1b[3;2H", off7 + "abc", "\x1b[2;2H\x1b[7m\x1b7", "abc", "\x1b[1;2r\n\n\n\x1b7" + off7 + "\x1b]0;x\aabcd"} {
		for _, size := range [][2]int{{3, 3}, {5, 2}, {1, 1}} {
			s := fed(3, 3, text)
			s.Resize(size[0], size[1])
			feed(s, text)
			if off := feed(s, "\x1bc"); len(off) > 0 || hidden(s) != hidden(New(size[0], size[1])) {
				t.Errorf("%q, %d: %s, %d are off", text, size, state(s), len(off))
			}
		}
	}
}

// known are the bytes of each kind of action that are ones of the chapter.
const (
	knownControls = "\b\t\n\v\f\r"
	knownEscapes  = "DEM78c"
	knownCommands = "ABCDEFGHfdJKX@PLMSTmr"
)

// Others do nothing: it is waiting still, if it was.
func TestUnknown(t *testing.T) {
	var l []seq.Action
	for b := range 256 {
		if !strings.Contains(knownControls, string([]byte{byte(b)})) {
			l = append(l, seq.Action{Kind: seq.Control, Byte: byte(b)})
		}
		if !strings.Contains(knownEscapes, string([]byte{byte(b)})) {
			l = append(l, seq.Action{Kind: seq.Escape, Byte: byte(b)})
		}
		for _, n := range []int{math.MinInt, -1, 0, 1, 2, 6, 7, 8, 9999, math.MaxInt} {
			if !strings.Contains(knownCommands, string([]byte{byte(b)})) {
				l = append(l, command(byte(b)), command(byte(b), n), command(byte(b), n, 7))
			}
			if b != 'h' && b != 'l' || n != 7 {
				l = append(l, private(byte(b)), private(byte(b), n), private(byte(b), n, 7))
			}
		}
		for _, kind := range []int{math.MinInt, -1, 0, 6, 7, math.MaxInt} {
			l = append(l, seq.Action{Kind: kind, Rune: 'x', Byte: byte(b), Nums: []int{1}, Text: "no"})
		}
	}
	for _, n := range []int{3, 4, 7, 9999, 10000, math.MaxInt} {
		l = append(l, command('J', n), command('K', n), command('J', n, 1), command('K', n, 0))
	}
	for _, s := range []*Screen{fed(3, 3, "\x1b]0;t\a\x1b[31mabcdef"), fed(3, 3, off7+"\x1b[2;3r\x1b[2;2Hx\x1b7"), New(1, 1)} {
		before := hidden(s)
		for _, a := range l {
			off := s.Do(a)
			if got := told(s); len(off) > 0 || !strings.HasPrefix(before, got+" ") {
				t.Fatalf("%+v: %s, %s is off", a, got, shownAll(off))
			}
		}
		if got := hidden(s); got != before {
			t.Errorf("%s, want %s", got, before)
		}
	}
}

func TestTitle(t *testing.T) {
	s := fed(3, 2, "abc")
	long := strings.Repeat("\x00\xff", 5000)
	for _, text := range []string{"t", "", long, "two words", "\xe4"} {
		if off := s.Do(seq.Action{Kind: seq.Title, Text: text}); len(off) > 0 || s.Title() != text || told(s) != "abc|··· 2,0!" {
			t.Errorf("%q: %q, %s", text, s.Title(), told(s))
		}
	}
}

// 7 wraps with h, and doesn't with l: nothing else changes by it.
func TestWraps(t *testing.T) {
	for _, c := range []struct {
		nums  []int
		wraps bool
	}{{[]int{7}, false}, {[]int{7, 0}, false}, {[]int{7, 25, 7}, false}, {nil, true}, {[]int{0, 7}, true}, {[]int{25, 7}, true}, {[]int{-7}, true}, {[]int{6}, true}, {[]int{8}, true}, {[]int{70}, true}} {
		s := fed(3, 2, "abc")
		if s.Do(private('l', c.nums...)); told(s) != "abc|··· 2,0!" {
			t.Errorf("l %d: %s", c.nums, told(s))
		}
		feed(s, "d")
		if want := map[bool]string{true: "abc+|d·· 1,1", false: "abd|··· 2,0!"}[c.wraps]; told(s) != want {
			t.Errorf("l %d: %s", c.nums, told(s))
		}
		s = fed(3, 2, off7+"abc")
		if s.Do(private('h', c.nums...)); told(s) != "abc|··· 2,0!" {
			t.Errorf("h %d: %s", c.nums, told(s))
		}
		feed(s, "d")
		if want := map[bool]string{false: "abc+|d·· 1,1", true: "abd|··· 2,0!"}[c.wraps]; told(s) != want {
			t.Errorf("h %d: %s", c.nums, told(s))
		}
	}
	// Not private, it is no such command; nor do they ask whether it did already.
	checkAll(t, []try{{2, 2, "\x1b[7labc", "ab+|c· 1,1", ""}, {2, 2, off7 + "\x1b[7habc", "ac|·· 1,0!", ""}, {2, 2, off7 + off7 + "abc", "ac|·· 1,0!", ""}, {2, 2, on7 + "abc", "ab+|c· 1,1", ""}})
}
