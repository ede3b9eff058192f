package model

import (
	"math"
	"slices"
	"strconv"
	"strings"
	"testing"

	"tidewrack/api"
	"tidewrack/row"
	"tidewrack/screen"
	"tidewrack/seq"
	"tidewrack/snap"
)

func bytesOf(text string) Event {
	return Event{Kind: Bytes, Text: text}
}

func sizeOf(w, h int) Event {
	return Event{Kind: Size, W: w, H: h}
}

// textOf is the runes of a line, of which those of another style than 0 stand behind that and a colon.
func textOf(l []row.Glyph) string {
	s := ""
	for _, g := range l {
		if g.Style != 0 {
			s += strconv.Itoa(g.Style) + ":"
		}
		s += string(g.Rune)
	}
	return s
}

// told is a model in short: how many events were; its lines, with / behind each, and what is begun; its rows, with | between; the cursor; the title, if there is one.
func told(m *Model) string {
	s := strconv.Itoa(m.K()) + " "
	for i := range m.Len() {
		l, _ := m.Line(i)
		s += textOf(l) + "/"
	}
	s += textOf(m.Snap().Begun) + " " + strings.Join(m.Screen().Grid().Text(), "|")
	x, y := m.Screen().Cursor()
	s += " " + strconv.Itoa(x) + "," + strconv.Itoa(y)
	if title := m.Screen().Title(); title != "" {
		s += " " + title
	}
	return s
}

// The chapter's example.
func TestExample(t *testing.T) {
	m := Run(3, 1, bytesOf("a"), bytesOf("\x0d\x0a"), bytesOf("b"))
	if l, ok := m.Line(0); m.Len() != 1 || !ok || textOf(l) != "a" || told(m) != "3 a/ b 1,0" {
		t.Errorf("%s", told(m))
	}
}

func TestKinds(t *testing.T) {
	if Bytes != 0 || Size != 1 {
		t.Errorf("%d, %d", Bytes, Size)
	}
}

// Check at each kind's ends, and one beyond; the other kind's fields don't count.
func TestCheck(t *testing.T) {
	full, more := strings.Repeat("x", 1<<20), strings.Repeat("x", 1<<20+1)
	for _, c := range []struct {
		what string
		e    Event
		want api.Errno
	}{
		{"the zero one", Event{}, api.OK}, {"bytes", Event{Kind: 0, Text: "\x00\xff"}, api.OK}, {"2^20 bytes", Event{Text: full}, api.OK}, {"a byte more", Event{Text: more}, api.ErrBig},
		{"bytes with a size", Event{Text: "x", W: -1, H: 1001}, api.OK}, {"bytes with any size", Event{W: math.MinInt, H: math.MaxInt}, api.OK}, {"too many bytes, with a size", Event{Text: more, W: 1, H: 1}, api.ErrBig},
		{"the least size", sizeOf(1, 1), api.OK}, {"the greatest size", sizeOf(1000, 1000), api.OK}, {"a size with a text", Event{Kind: 1, Text: "x", W: 7, H: 7}, api.OK}, {"a size with too many bytes", Event{Kind: 1, Text: more, W: 7, H: 7}, api.OK},
		{"W 0", sizeOf(0, 1), api.ErrArg}, {"H 0", sizeOf(1, 0), api.ErrArg}, {"W 1001", sizeOf(1001, 1), api.ErrArg}, {"H 1001", sizeOf(1, 1001), api.ErrArg}, {"W below 0", sizeOf(-1, 1), api.ErrArg}, {"H below 0", sizeOf(1, -1), api.ErrArg},
		{"W far below", sizeOf(math.MinInt, 1000), api.ErrArg}, {"H far above", sizeOf(1000, math.MaxInt), api.ErrArg}, {"no size", sizeOf(0, 0), api.ErrArg}, {"no size, too many bytes", Event{Kind: 1, Text: more}, api.ErrArg},
		{"another kind", Event{Kind: 2, Text: "x", W: 1, H: 1}, api.ErrKind}, {"a kind below", Event{Kind: -1, Text: "x", W: 1, H: 1}, api.ErrKind}, {"the last kind", Event{Kind: math.MaxInt}, api.ErrKind}, {"the first kind", Event{Kind: math.MinInt}, api.ErrKind}, {"another kind, too many bytes, no size", Event{Kind: 2, Text: more}, api.ErrKind},
	} {
		if got := c.e.Check(); got != c.want {
			t.Errorf("%s: %d, want %d", c.what, got, c.want)
		}
		m := Run(4, 2, bytesOf("one\r\ntwo\r\nth\xe4"))
		before := told(m)
		if got := m.Do(c.e); got != c.want {
			t.Errorf("%s: done: %d, want %d", c.what, got, c.want)
		}
		if c.want == api.OK {
			if m.K() != 2 {
				t.Errorf("%s: %d events", c.what, m.K())
			}
			continue
		}
		// Nothing has changed: the rune goes on where it was.
		m.Do(bytesOf("\xb8\xad"))
		if told(m) != "2 one/ two|th\u4e2d 3,1" || before != "1 one/ two|th 2,1" {
			t.Errorf("%s: %s, then %s", c.what, before, told(m))
		}
	}
}

func TestNew(t *testing.T) {
	for _, c := range [][4]int{{1, 1, 1, 1}, {80, 24, 80, 24}, {1000, 1000, 1000, 1000}, {0, 5, 1, 5}, {5, -1, 5, 1}, {1001, 5, 1000, 5}, {5, math.MaxInt, 5, 1000}, {math.MinInt, math.MinInt, 1, 1}} {
		m := New(c[0], c[1])
		s := m.Snap()
		if m.K() != 0 || m.Len() != 0 || s.K != 1 || s.W != c[2] || s.H != c[3] || s.X != 0 || s.Y != 0 || s.Len != 0 || s.Chain != 0 || s.Title != "" || len(s.Begun) != 0 || s.Check() != api.OK {
			t.Errorf("%d: %d, %d", c, s.W, s.H)
		}
		if !sameScreen(m.Screen(), screen.New(c[2], c[3])) {
			t.Errorf("%d: the screen isn't a new one", c)
		}
		if l, ok := m.Line(0); ok || l != nil {
			t.Errorf("%d: %v", c, l)
		}
	}
}

// What goes off becomes lines, in its order, whatever moves it.
func TestDo(t *testing.T) {
	for _, c := range []struct {
		what   string
		w, h   int
		events []Event
		want   string
	}{
		{"no event", 3, 2, nil, "0  | 0,0"}, {"no bytes", 3, 2, []Event{bytesOf("")}, "1  | 0,0"}, {"bytes", 3, 2, []Event{bytesOf("ab")}, "1  ab| 2,0"}, {"bytes, twice", 3, 2, []Event{bytesOf("a"), bytesOf("b")}, "2  ab| 2,0"},
		{"a rune in two", 4, 1, []Event{bytesOf("\xe4\xb8"), bytesOf("\xad")}, "2  \u4e2d 2,0"}, {"a rune in three", 4, 1, []Event{bytesOf("\xe4"), bytesOf("\xb8"), bytesOf("\xad")}, "3  \u4e2d 2,0"}, {"a rune that never is whole", 4, 1, []Event{bytesOf("\xe4\xb8"), bytesOf("a")}, "2  \ufffda 2,0"}, {"a rune, a size within", 4, 1, []Event{bytesOf("\xe4\xb8"), sizeOf(9, 1), bytesOf("\xad")}, "3  \u4e2d 2,0"},
		{"a command in two", 4, 2, []Event{bytesOf("ab\x1b["), bytesOf("Hc")}, "2  cb| 1,0"}, {"a command in four", 4, 2, []Event{bytesOf("ab\x1b"), bytesOf("["), bytesOf("2;"), bytesOf("3Hc")}, "4  ab|  c 3,1"}, {"a command, a size within", 4, 2, []Event{bytesOf("ab\x1b[2"), sizeOf(2, 5), bytesOf("dc")}, "3  ab| c||| 1,1"},
		{"a title in three", 4, 1, []Event{bytesOf("\x1b]0;t"), bytesOf("it"), bytesOf("le\x07a")}, "3  a 1,0 title"}, {"a title, closed in two", 4, 1, []Event{bytesOf("\x1b]2;t\x1b"), bytesOf("\\")}, "2   0,0 t"},
		{"off by lines", 3, 1, []Event{bytesOf("a\r\nb\r\n\r\nc")}, "1 a/b// c 1,0"}, {"off by one line", 3, 2, []Event{bytesOf("a\r\nb\r\nc")}, "1 a/ b|c 1,1"}, {"off by wrapping", 3, 1, []Event{bytesOf("abcdefgh")}, "1 abcdef gh 2,0"}, {"off by wrapping, and a line", 3, 1, []Event{bytesOf("abcdefgh\n")}, "1 abcdefgh/  2,0"}, {"off in two events", 3, 1, []Event{bytesOf("abcd"), bytesOf("ef"), bytesOf("g\r\n")}, "3 abcdefg/  0,0"},
		{"off by wrapping of a wide rune", 3, 1, []Event{bytesOf("ab\u4e2dc\r\n")}, "1 ab\u4e2dc/  0,0"},
		{"off by scrolling", 3, 3, []Event{bytesOf("a\r\nb\r\nc\x1b[2S")}, "1 a/b/ c|| 1,2"}, {"off by scrolling too far", 3, 2, []Event{bytesOf("a\r\nb\x1b[99S")}, "1 a/b/ | 1,1"}, {"scrolling down", 3, 2, []Event{bytesOf("a\r\nb\x1b[T")}, "1  |a 1,1"}, {"a region at the top", 3, 3, []Event{bytesOf("a\r\nb\r\nc\x1b[1;2r\x1b[S")}, "1 a/ b||c 0,0"}, {"a region below the top", 3, 3, []Event{bytesOf("a\r\nb\r\nc\x1b[2;3r\x1b[S")}, "1  a|c| 0,0"}, {"rows that are deleted", 3, 2, []Event{bytesOf("a\r\nb\x1b[H\x1b[M")}, "1  b| 0,0"},
		{"off by escapes", 3, 1, []Event{bytesOf("a\x1bEb\x1bDc")}, "1 a/b/  c 2,0"}, {"styled", 3, 1, []Event{bytesOf("\x1b[1ma\x1b[mb\r\n")}, "1 81:ab/  0,0"},
		{"a size", 3, 2, []Event{bytesOf("a"), sizeOf(5, 4)}, "2  a||| 1,0"}, {"off by a size", 3, 3, []Event{bytesOf("a\r\nb\r\nc"), sizeOf(3, 1)}, "2 a/b/ c 1,0"}, {"off by sizes", 3, 3, []Event{bytesOf("a\r\nb\r\nc"), sizeOf(3, 2), sizeOf(9, 1)}, "3 a/b/ c 1,0"}, {"off by a size, Wrapped", 2, 3, []Event{bytesOf("abcdef"), sizeOf(4, 1)}, "2 abcd ef 1,0"}, {"off by a size, then by lines", 2, 2, []Event{bytesOf("abc"), sizeOf(2, 1), bytesOf("d\r\n")}, "3 abcd/  0,0"},
		{"cut by a size", 3, 1, []Event{bytesOf("abc"), sizeOf(2, 1), bytesOf("\r\n")}, "3 ab/  0,0"}, {"not off by a size", 3, 3, []Event{bytesOf("a\r\nb\x1b[H"), sizeOf(3, 1)}, "2  a 0,0"}, {"the same size", 3, 2, []Event{bytesOf("ab"), sizeOf(3, 2)}, "2  ab| 2,0"},
		{"sizes alone", 3, 2, []Event{sizeOf(1, 1), sizeOf(2, 2)}, "2  | 0,0"}, {"anew", 3, 1, []Event{bytesOf("a\r\nbc\x1bcd")}, "1 a/ d 1,0"},
		{"refused ones", 3, 1, []Event{bytesOf("a"), {Kind: 2, Text: "\r\n"}, sizeOf(0, 9), sizeOf(9, 1001), {Text: strings.Repeat("\n", 1<<20+1)}, bytesOf("b")}, "2  ab 2,0"}, {"refused ones alone", 3, 1, []Event{{Kind: -7, Text: "a"}}, "0   0,0"}, {"a size that looks at no text", 3, 1, []Event{{Kind: Size, Text: "abc", W: 4, H: 1}}, "1   0,0"}, {"bytes that look at no size", 3, 1, []Event{{Text: "ab", W: 1, H: 9}}, "1  ab 2,0"},
	} {
		m, p := New(c.w, c.h), &plain{w: c.w, h: c.h}
		for _, e := range c.events {
			if m.Do(e) == api.OK {
				p.do(e)
			}
		}
		if told(m) != c.want {
			t.Errorf("%s: %s, want %s", c.what, told(m), c.want)
		}
		if got := Run(c.w, c.h, c.events...); told(got) != c.want {
			t.Errorf("%s: run: %s, want %s", c.what, told(got), c.want)
		}
		p.check(t, m)
	}
}

// Much goes off at once, and lines have no more glyphs than may be.
func TestMuch(t *testing.T) {
	m := New(3, 2)
	for i := range 5 {
		m.Do(bytesOf(strings.Repeat("l"+strconv.Itoa(i)+"\r\n", 1000)))
	}
	if m.Len() != 4999 || m.K() != 5 {
		t.Errorf("%d lines behind %d events", m.Len(), m.K())
	}
	for _, i := range []int{0, 999, 1000, 4998} {
		if l, ok := m.Line(i); !ok || textOf(l) != "l"+strconv.Itoa(i/1000) {
			t.Errorf("%d: %s", i, textOf(l))
		}
	}
	for _, i := range []int{-1, math.MinInt, 4999, 5000, math.MaxInt} {
		if l, ok := m.Line(i); ok || l != nil {
			t.Errorf("%d: %v", i, l)
		}
	}
	long := Run(7, 1, bytesOf(strings.Repeat("abcdefg", 400)))
	if s := long.Snap(); s.Len != 2 || len(s.Begun) != 399*7-2048 || s.Check() != api.OK {
		t.Errorf("%d lines, %d glyphs are begun", s.Len, len(s.Begun))
	}
	if l, _ := long.Line(1); len(l) != 1024 || l[0].Rune != 'c' {
		t.Errorf("%d glyphs", len(l))
	}
	tall := Run(1, 1000, bytesOf(strings.Repeat("x\r\n", 999)), sizeOf(1, 1))
	if s := tall.Snap(); s.Len != 999 || s.H != 1 || s.Y != 0 {
		t.Errorf("%d lines, %d rows", s.Len, s.H)
	}
	wide := New(2, 2)
	if e := wide.Do(bytesOf(strings.Repeat("ab", 1<<19))); e != api.OK || wide.Len() != (1<<20-4)/1024 || wide.K() != 1 {
		t.Errorf("%d: %d lines", e, wide.Len())
	}
}

// Snap is that of one event more than there were, and each is another one.
func TestSnap(t *testing.T) {
	m := New(4, 2)
	for k := 1; k <= 5; k++ {
		if s := m.Snap(); s.K != k || m.K() != k-1 || s.Check() != api.OK {
			t.Errorf("%d: %d events", s.K, m.K())
		}
		m.Do(bytesOf("a\r\nbcdef"))
	}
	s := m.Snap()
	if s.Len != 5 || s.Chain != m.Chain(5) || s.Chain == 0 || s.W != 4 || s.H != 2 || textOf(s.Begun) != "" {
		t.Errorf("%v", s)
	}
	want := m.Snap()
	for y := range s.Rows {
		clear(s.Rows[y].Cells)
	}
	if !m.Snap().Same(want) || want.Same(s) {
		t.Error("what is done with a snap changes the model")
	}
	m.Do(bytesOf("\x1b[2J\r\n\r\n"))
	if want.Rows[1].Glyphs()[0].Rune != 'f' || want.Len != 5 {
		t.Errorf("what is done with the model changes a snap: %v", want)
	}
	begun := Run(2, 1, bytesOf("abc"))
	g := begun.Snap().Begun
	clear(g[:cap(g)])
	if textOf(begun.Snap().Begun) != "ab" {
		t.Error("what is done with what is begun changes the model")
	}
}

// What is done with what a model answers changes nothing of it.
func TestSharesNothing(t *testing.T) {
	m := Run(4, 2, bytesOf("one\r\ntwo\r\nth"))
	want := told(m)
	s := m.Screen()
	var p seq.Parser
	for _, a := range p.Feed("\x1b]0;no\x07\x1b[2J\x1b[1mno\r\n\r\n\r\n") {
		s.Do(a)
	}
	s.Resize(9, 9)
	l, _ := m.Line(0)
	clear(l[:cap(l)])
	if told(m) != want || m.Screen().Style().Num() != 0 {
		t.Errorf("%s, want %s", told(m), want)
	}
	old := m.Screen()
	m.Do(bytesOf("x\r\n"))
	if x, y := old.Cursor(); x != 2 || y != 1 || old.Grid().Text()[0] != "two" {
		t.Errorf("what is done with the model changes a screen: %q", old.Grid().Text())
	}
	events := []Event{bytesOf("a"), sizeOf(0, 0), bytesOf("b"), {}, {}}
	Run(3, 1, events[:3]...)
	if !slices.Equal(events, []Event{bytesOf("a"), sizeOf(0, 0), bytesOf("b"), {}, {}}) {
		t.Errorf("%v", events)
	}
}

// A Clone goes its own way, whatever isn't whole then.
func TestClone(t *testing.T) {
	for _, c := range []struct{ ahead, one, two, wantOne, wantTwo string }{
		{"", "a", "b", "2  a| 1,0", "2  b| 1,0"}, {"abc", "d\r\n\r\n", "", "2 abcd/ | 0,1", "2  abc| 3,0"}, {"\xe4\xb8", "\xad", "x", "2  \u4e2d| 2,0", "2  \ufffdx| 2,0"}, {"\xf0\x9f\x98", "\x80", "\xad", "2  \U0001f600| 2,0", "2  \U0001f62d| 2,0"},
		{"a\x1b", "[2Gb", "c", "2  ab| 2,0", "2  | 0,0"}, {"a\x1b[2", ";2Hb", "Gc", "2  a| b 2,1", "2  ac| 2,0"}, {"\x1b]0;t", "one\x07", "two\x1b\\a", "2  | 0,0 tone", "2  a| 1,0 ttwo"}, {"\x1b]2;t\x1b", "\\", "[2dx", "2  | 0,0 t", "2  |x 1,1"}, {"abcd", "e", "\re", "2  abcd|e 1,1", "2  ebcd| 1,0"}, {"ab\x1b7\r\n", "\x1b8c", "d", "2  abc| 3,0", "2  ab|d 1,1"}, {"\x1b[?7labcd", "ef", "\x1b[?7hef", "2  abcf| 3,0", "2  abcd|ef 2,1"},
		{"abcdefghi", "\r\nx\r\n", "j\r\n\r\n", "2 abcdefghi/ x| 0,1", "2 abcdefghij/ | 0,1"}, {"a\r\nb\r\nc\r\n", "d\r\n", "\n\n", "2 a/b/c/ d| 0,1", "2 a/b/c// | 0,1"},
	} {
		one := Run(4, 2, bytesOf(c.ahead))
		two := one.Clone()
		if told(one) != told(two) || !one.Snap().Same(two.Snap()) {
			t.Errorf("%q: %s, %s", c.ahead, told(one), told(two))
		}
		one.Do(bytesOf(c.one))
		three := two.Clone()
		two.Do(bytesOf(c.two))
		three.Do(bytesOf(c.one))
		if told(one) != c.wantOne || told(two) != c.wantTwo || told(three) != c.wantOne {
			t.Errorf("%q: %s, %s, %s, want %s, %s", c.ahead, told(one), told(two), told(three), c.wantOne, c.wantTwo)
		}
	}
	one := Run(4, 3, bytesOf("a\r\nb\r\nc"))
	two := one.Clone()
	one.Do(sizeOf(2, 1))
	two.Do(Event{Kind: 3})
	if told(one) != "2 a/b/ c 1,0" || told(two) != "1  a|b|c 1,2" {
		t.Errorf("%s, %s", told(one), told(two))
	}
}

// Run of none is a new model; each Run is another one.
func TestRun(t *testing.T) {
	for _, w := range []int{-1, 1, 3, 1001} {
		if got := Run(w, 2); !got.Snap().Same(New(w, 2).Snap()) || got.K() != 0 {
			t.Errorf("%d: %s", w, told(got))
		}
	}
	l := []Event{bytesOf("a\r\n"), bytesOf("b")}
	one, two := Run(3, 1, l...), Run(3, 1, l...)
	one.Do(bytesOf("c"))
	if told(one) != "3 a/ bc 2,0" || told(two) != "2 a/ b 1,0" {
		t.Errorf("%s, %s", told(one), told(two))
	}
	if !two.Snap().Same(snap.Of(3, two.Screen(), two.Book)) {
		t.Error("Snap")
	}
}
