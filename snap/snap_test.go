package snap

import (
	"hash/crc32"
	"math"
	"slices"
	"strings"
	"testing"

	"tidewrack/api"
	"tidewrack/book"
	"tidewrack/num"
	"tidewrack/row"
	"tidewrack/screen"
	"tidewrack/seq"
)

// some is a snap that may be, each of whose fields has something.
func some() Snap {
	return Snap{
		K: 7, W: 3, H: 2, X: 2, Y: 1, Title: "ab", Len: 300, Chain: 5,
		Rows: []row.Row{
			{Cells: []row.Cell{{Rune: 'x', Style: 1}, {Rune: 0x4e2d, Style: 2, Part: 1}, {Rune: 0x4e2d, Style: 2, Part: 2}}, Wrapped: true},
			{Cells: []row.Cell{{Rune: ' '}, {Rune: ' '}, {Rune: 'y', Style: 647, Part: 3}}},
		},
		Begun: []row.Glyph{{Rune: 'p', Style: 3}, {Rune: 'q', Style: 4}},
	}
}

// someBytes are its bytes, part by part.
var someBytes = []string{
	"\x07", "\x03", "\x02", "\x02", "\x01", "\x02ab", "\xac\x02", "\x05", "\x02p\x03q\x04",
	"\x01", "\x01x\x01\x00", "\x01\xad\x9c\x01\x02\x01", "\x01\xad\x9c\x01\x02\x02",
	"\x00", "\x02\x20\x00\x00", "\x01y\x87\x05\x03",
}

// blankScreen is the chapter's example.
func blankScreen() Snap {
	return Snap{K: 1, W: 1, H: 1, Rows: []row.Row{{Cells: []row.Cell{{Rune: ' '}}}}}
}

func TestExample(t *testing.T) {
	s := Of(1, screen.New(1, 1), book.New())
	want := "\x01\x01\x01\x00\x00\x00\x00\x00\x00" + "\x00\x01\x20\x00\x00"
	if got := s.Pack(); got != want || !alike(s, blankScreen()) {
		t.Errorf("%x, %v", got, s)
	}
	if got, e := Parse(want); e != api.OK || !alike(got, s) {
		t.Errorf("%v, %d", got, e)
	}
}

// feed does what an application says, and has the book take what goes off.
func feed(s *screen.Screen, b *book.Book, text string) {
	var p seq.Parser
	for _, a := range p.Feed(text) {
		b.Add(s.Do(a)...)
	}
}

// checkOf: the snap of a screen and a book has what both tell.
func checkOf(t *testing.T, k int, s *screen.Screen, b *book.Book) Snap {
	t.Helper()
	got := Of(k, s, b)
	w, h := s.Grid().Size()
	x, y := s.Cursor()
	want := Snap{k, w, h, x, y, s.Title(), s.Grid().Rows(), b.Len(), b.Chain(b.Len()), b.Begun()}
	if !alike(got, want) {
		t.Fatalf("%v, want %v", got, want)
	}
	return got
}

func TestOf(t *testing.T) {
	for _, c := range []struct {
		text         string
		w, h         int
		x, y, lines  int
		title, begun string
	}{
		{"", 80, 24, 0, 0, 0, "", ""},
		{"abc", 80, 24, 3, 0, 0, "", ""},
		{"abcde", 3, 2, 2, 1, 0, "", ""},
		{"\x1b]0;t t\x07\x1b[1;31mx", 4, 3, 1, 0, 0, "t t", ""},
		{"a\r\nb\r\nc\r\n", 5, 2, 0, 1, 2, "", ""},
		{"abcdefgh\r\n", 3, 2, 0, 1, 0, "", "abcdef"},
		{"a\r\nbcdefghi", 3, 2, 2, 1, 1, "", "bcd"},
		{"\x1b]2;\xe4\xb8\xad\x1b\\\xe4\xb8\xad\xe4\xb8\xad", 3, 1, 2, 0, 0, "\xe4\xb8\xad", "\u4e2d"},
	} {
		s, b := screen.New(c.w, c.h), book.New()
		feed(s, b, c.text)
		got := checkOf(t, 9, s, b)
		begun := ""
		for _, g := range got.Begun {
			begun += string(g.Rune)
		}
		if got.K != 9 || got.W != c.w || got.H != c.h || got.X != c.x || got.Y != c.y || got.Len != c.lines || got.Title != c.title || strings.TrimRight(begun, " ") != c.begun || got.Check() != api.OK || (got.Chain == 0) != (c.lines == 0) {
			t.Errorf("%q: %v, begun %q", c.text, got, begun)
		}
		if p, e := Parse(got.Pack()); e != api.OK || !p.Same(got) {
			t.Errorf("%q: %v, %d", c.text, p, e)
		}
	}
}

// Of behind Resizes, to all ends of sizes, and behind what may not be.
func TestOfResized(t *testing.T) {
	s, b := screen.New(6, 4), book.New()
	feed(s, b, "a\r\nb\r\nc\r\nd\xe4\xb8\xad")
	for _, size := range [][2]int{{3, 2}, {2, 2}, {1, 1}, {7, 3}, {1000, 1}, {1, 1000}, {1000, 1000}, {0, -5}, {4, 2}} {
		b.Add(s.Resize(size[0], size[1])...)
		got := checkOf(t, 3, s, b)
		if got.W != max(size[0], 1) || got.H != max(size[1], 1) || got.Check() != api.OK {
			t.Errorf("%d: %d, %d", size, got.W, got.H)
		}
		if p, e := Parse(got.Pack()); e != api.OK || !p.Same(got) {
			t.Errorf("%d: %d", size, e)
		}
	}
	if got := Of(3, s, b); got.Len != 3 {
		t.Errorf("%d lines", got.Len)
	}
	// A title that no parser tells is the snap's as it is, which may not be then.
	s.Do(seq.Action{Kind: seq.Title, Text: strings.Repeat("x", 201)})
	if got := checkOf(t, 3, s, b); len(got.Title) != 201 || got.Check() != api.ErrForm || got.Pack() != "" {
		t.Errorf("%d, %d", len(got.Title), got.Check())
	}
}

// K is what it is told; which may not be, if it isn't 1 to 2^60.
func TestOfEvents(t *testing.T) {
	for k, e := range map[int]api.Errno{math.MinInt: api.ErrForm, -1: api.ErrForm, 0: api.ErrForm, 1: api.OK, 1 << 60: api.OK, 1<<60 + 1: api.ErrForm, math.MaxInt: api.ErrForm} {
		if got := checkOf(t, k, screen.New(2, 2), book.New()); got.K != k || got.Check() != e {
			t.Errorf("%d: %d, %d", k, got.K, got.Check())
		}
	}
}

// spoil changes all lists of a snap, their spare room too.
func spoil(s Snap) {
	l := s.Rows[:cap(s.Rows)]
	for i := range l {
		cells := l[i].Cells[:cap(l[i].Cells)]
		for k := range cells {
			cells[k] = row.Cell{Rune: '!', Style: 77, Part: 1}
		}
		l[i] = row.Row{Wrapped: true}
	}
	g := s.Begun[:cap(s.Begun)]
	for i := range g {
		g[i] = row.Glyph{Rune: '!', Style: 77}
	}
}

// A snap and what it was made of go their own ways; two of the same, too.
func TestOfSharesNothing(t *testing.T) {
	s, b := screen.New(3, 2), book.New()
	feed(s, b, "abcdefghi")
	one, two := Of(1, s, b), Of(1, s, b)
	want := Snap{1, 3, 2, 2, 1, "", s.Grid().Rows(), 0, 0, b.Begun()}
	spoil(one)
	if !alike(two, want) || !alike(Of(1, s, b), want) {
		t.Error("what is done with a snap changes something else")
	}
	feed(s, b, "\x1b[2J\x1b[Hxx\r\n\r\n\r\n")
	b.Add(s.Resize(1, 1)...)
	if !alike(two, want) {
		t.Error("what is done with a screen changes a snap")
	}
}

// edge is a change of a snap that may be, and whether it may be then.
type edge struct {
	what   string
	change func(s *Snap)
	may    bool
}

// square is a snap of blanks of that size, beyond what may be too.
func square(w, h int) Snap {
	s := Snap{K: 1, W: w, H: h}
	for range h {
		s.Rows = append(s.Rows, row.Row{Cells: cellsOf(w, row.Cell{Rune: ' '})})
	}
	return s
}

func edges() []edge {
	l := []edge{{"nothing", func(s *Snap) {}, true}}
	field := func(what string, of func(s *Snap) *int, least, most int) {
		for n, may := range map[int]bool{least: true, most: true, least - 1: false, most + 1: false, math.MinInt: false, math.MaxInt: false, -most: false} {
			may := may || n == 0 && least == 0
			l = append(l, edge{what, func(s *Snap) { *of(s) = n }, may})
		}
	}
	field("K", func(s *Snap) *int { return &s.K }, 1, 1<<60)
	field("X", func(s *Snap) *int { return &s.X }, 0, 2)
	field("Y", func(s *Snap) *int { return &s.Y }, 0, 1)
	field("Len", func(s *Snap) *int { return &s.Len }, 0, 1<<60)
	field("Chain", func(s *Snap) *int { return &s.Chain }, 0, 1<<48)
	for y := range 2 {
		for x := range 3 {
			field("a cell's Style", func(s *Snap) *int { return &s.Rows[y].Cells[x].Style }, 0, 647)
			field("a cell's Part", func(s *Snap) *int { return &s.Rows[y].Cells[x].Part }, 0, 3)
			for _, r := range []rune{0, 1, 0xd800, 0x10ffff, -1, 0x110000, math.MinInt32, math.MaxInt32} {
				l = append(l, edge{"a cell's Rune", func(s *Snap) { s.Rows[y].Cells[x].Rune = r }, r >= 0 && r <= 0x10ffff})
			}
		}
	}
	for i := range 2 {
		field("a style of what is begun", func(s *Snap) *int { return &s.Begun[i].Style }, 0, 647)
		for _, r := range []rune{0, 0xdfff, 0x10ffff, -1, 0x110000, math.MinInt32, math.MaxInt32} {
			l = append(l, edge{"a rune of what is begun", func(s *Snap) { s.Begun[i].Rune = r }, r >= 0 && r <= 0x10ffff})
		}
	}
	for n, may := range map[int]bool{0: true, 1: true, 199: true, 200: true, 201: false, 5000: false} {
		l = append(l, edge{"Title", func(s *Snap) { s.Title = strings.Repeat("\xff", n) }, may})
	}
	for n, may := range map[int]bool{0: true, 1: true, 1023: true, 1024: true, 1025: false, 5000: false} {
		l = append(l, edge{"how much is begun", func(s *Snap) { s.Begun = make([]row.Glyph, n) }, may})
	}
	return append(l, sizes()...)
}

// sizes are changes of the size, of rows and of cells.
func sizes() []edge {
	var l []edge
	for _, n := range []int{math.MinInt, -1, 0, 1, 2, 4, 1000, 1001, math.MaxInt} {
		l = append(l, edge{"W alone", func(s *Snap) { s.W, s.X = n, 0 }, false}, edge{"H alone", func(s *Snap) { s.H, s.Y = n, 0 }, n == 2})
	}
	for n, may := range map[int]bool{0: false, 1: true, 2: true, 999: true, 1000: true, 1001: false} {
		l = append(l, edge{"W", func(s *Snap) { *s = square(n, 1) }, may}, edge{"H", func(s *Snap) { *s = square(1, n) }, may})
		if n > 0 {
			l = append(l, edge{"the last X", func(s *Snap) { *s = square(n, 1); s.X = n - 1 }, may}, edge{"the last Y", func(s *Snap) { *s = square(1, n); s.Y = n - 1 }, may})
			l = append(l, edge{"X beyond", func(s *Snap) { *s = square(n, 1); s.X = n }, false}, edge{"Y beyond", func(s *Snap) { *s = square(1, n); s.Y = n }, false})
		}
	}
	for y := range 2 {
		l = append(l,
			edge{"a cell less", func(s *Snap) { s.Rows[y].Cells = s.Rows[y].Cells[1:] }, false},
			edge{"a cell more", func(s *Snap) { s.Rows[y].Cells = append(s.Rows[y].Cells, row.Cell{}) }, false},
			edge{"no cells", func(s *Snap) { s.Rows[y].Cells = nil }, false},
			edge{"Wrapped", func(s *Snap) { s.Rows[y].Wrapped = !s.Rows[y].Wrapped }, true},
		)
	}
	return append(l,
		edge{"a row less", func(s *Snap) { s.Rows = s.Rows[1:] }, false},
		edge{"a row more", func(s *Snap) { s.Rows = append(s.Rows, row.Blank(3, 0)) }, false},
		edge{"no rows", func(s *Snap) { s.Rows = nil }, false},
		edge{"nothing is begun", func(s *Snap) { s.Begun = nil }, true},
		edge{"1000 rows of 1000", func(s *Snap) { *s = square(1000, 1000); s.X, s.Y = 999, 999 }, true},
		edge{"cells that no row would be made of", func(s *Snap) { s.Rows[0].Cells = []row.Cell{{Part: 2}, {Part: 3}, {Part: 1}} }, true},
	)
}

// Check at each field's ends, and one beyond; Pack, Sum and Parse of what may be, and of what may not.
func TestCheck(t *testing.T) {
	for _, c := range edges() {
		s := some()
		c.change(&s)
		want, packed := api.ErrForm, ""
		if c.may {
			want, packed = api.OK, plainPack(s)
		}
		if e := s.Check(); e != want {
			t.Errorf("%s: %d, want %d: %v", c.what, e, want, s.K)
		}
		got := s.Pack()
		if got != packed || s.Sum() != int(crc32.ChecksumIEEE([]byte(packed))) {
			t.Errorf("%s: %d bytes, want %d; the sum is %d", c.what, len(got), len(packed), s.Sum())
		}
		if p, e := Parse(got); e != api.OK || c.may && !alike(p, s) || !c.may && !alike(p, Snap{}) {
			t.Errorf("%s: %d", c.what, e)
		}
	}
}

// The empty one may be, its lists nil or not; anything more, that makes no other one, may not.
func TestEmpty(t *testing.T) {
	for _, s := range []Snap{{}, {Rows: []row.Row{}, Begun: []row.Glyph{}}, {Rows: make([]row.Row, 0, 3)}} {
		if s.Check() != api.OK || s.Pack() != "" || s.Sum() != 0 || !s.Same(Snap{}) || !(Snap{}).Same(s) || !alike(s.Clone(), Snap{}) {
			t.Errorf("%v: %d, %x, %d", s, s.Check(), s.Pack(), s.Sum())
		}
	}
	for i, s := range []Snap{
		{K: 1}, {W: 1}, {H: 1}, {X: 1}, {Y: 1}, {Title: "t"}, {Len: 1}, {Chain: 1}, {Rows: make([]row.Row, 1)}, {Begun: make([]row.Glyph, 1)}, {K: -1}, {Len: -1}, {W: -1, H: -1},
		{K: 1, W: 1, H: 1}, {W: 1, H: 1, Rows: []row.Row{row.Blank(1, 0)}}, {K: 1, W: 1, Rows: nil}, {K: 1, H: 1, Rows: make([]row.Row, 1)},
	} {
		if s.Check() != api.ErrForm || s.Pack() != "" || s.Sum() != 0 || s.Same(Snap{}) {
			t.Errorf("%d: %d, %x, %d", i, s.Check(), s.Pack(), s.Sum())
		}
	}
}

func TestPack(t *testing.T) {
	if got, want := some().Pack(), strings.Join(someBytes, ""); got != want {
		t.Errorf("%x, want %x", got, want)
	}
	if got, want := some().Sum(), int(crc32.ChecksumIEEE([]byte(strings.Join(someBytes, "")))); got != want || got < 0 {
		t.Errorf("%d, want %d", got, want)
	}
	// As many cells as there may be, all alike, and no two of a row.
	alone, apart := square(1000, 1000), square(1000, 1000)
	for y := range 1000 {
		for x := range 1000 {
			apart.Rows[y].Cells[x].Rune = rune(x)
		}
	}
	for _, s := range []Snap{alone, apart} {
		got := s.Pack()
		if p, e := Parse(got); e != api.OK || !alike(p, s) || got != bytesOf(1, 1000, 1000, 0, 0, 0, 0, 0, 0)+strings.Repeat(plainRow(s.Rows[0]), 1000) {
			t.Errorf("%d bytes, %d", len(got), e)
		}
	}
}

func TestSame(t *testing.T) {
	if !some().Same(some()) || some().Same(Snap{}) || (Snap{}).Same(some()) || !blankScreen().Same(blankScreen()) {
		t.Error("of the same one")
	}
	for what, change := range map[string]func(s *Snap){
		"K": func(s *Snap) { s.K++ }, "W": func(s *Snap) { s.W++ }, "H": func(s *Snap) { s.H++ }, "X": func(s *Snap) { s.X-- }, "Y": func(s *Snap) { s.Y-- }, "Len": func(s *Snap) { s.Len++ }, "Chain": func(s *Snap) { s.Chain++ },
		"Title": func(s *Snap) { s.Title = "aB" }, "no Title": func(s *Snap) { s.Title = "" }, "a longer Title": func(s *Snap) { s.Title += "\x00" },
		"a Rune": func(s *Snap) { s.Rows[1].Cells[2].Rune++ }, "a Style": func(s *Snap) { s.Rows[0].Cells[0].Style++ }, "a Part": func(s *Snap) { s.Rows[1].Cells[1].Part++ },
		"Wrapped": func(s *Snap) { s.Rows[0].Wrapped = false }, "Wrapped, below": func(s *Snap) { s.Rows[1].Wrapped = true },
		"a cell more": func(s *Snap) { s.Rows[1].Cells = append(s.Rows[1].Cells, row.Cell{}) }, "a cell less": func(s *Snap) { s.Rows[1].Cells = s.Rows[1].Cells[:2] },
		"a row more": func(s *Snap) { s.Rows = append(s.Rows, row.Row{}) }, "a row less": func(s *Snap) { s.Rows = s.Rows[:1] }, "rows the other way round": func(s *Snap) { slices.Reverse(s.Rows) },
		"a rune of what is begun": func(s *Snap) { s.Begun[1].Rune++ }, "a style of what is begun": func(s *Snap) { s.Begun[0].Style++ }, "a glyph more": func(s *Snap) { s.Begun = append(s.Begun, row.Glyph{}) }, "a glyph less": func(s *Snap) { s.Begun = s.Begun[:1] }, "nothing is begun": func(s *Snap) { s.Begun = nil },
	} {
		s := some()
		change(&s)
		if s.Same(some()) || some().Same(s) || !s.Same(s.Clone()) {
			t.Errorf("%s is another one", what)
		}
	}
	// It isn't asked whether they may be.
	bad := Snap{K: -1, W: math.MinInt, Title: strings.Repeat("x", 300), Rows: []row.Row{{Cells: []row.Cell{{Rune: -1, Style: -2, Part: -3}}}, {}}, Begun: []row.Glyph{{Rune: -1}}}
	zero := bad.Clone()
	zero.Rows[0].Cells[0] = row.Cell{}
	if !bad.Same(bad.Clone()) || bad.Same(zero) {
		t.Error("of those that may not be")
	}
	// A list that is nil is one without elements.
	one, two := Snap{K: 1, Rows: []row.Row{{}}}, Snap{K: 1, Rows: []row.Row{{Cells: []row.Cell{}}}, Begun: []row.Glyph{}}
	if !one.Same(two) || !two.Same(one) {
		t.Error("of lists that are nil")
	}
}

// A Clone is like it, also of what may not be, and shares nothing with it.
func TestClone(t *testing.T) {
	for _, c := range edges() {
		s := some()
		c.change(&s)
		if d := s.Clone(); !alike(d, s) {
			t.Errorf("%s: %v", c.what, d)
		}
	}
	s := some()
	one, two := s.Clone(), s.Clone()
	spoil(one)
	if !alike(s, some()) || !alike(two, some()) {
		t.Error("one changes another one")
	}
	spoil(s)
	if !alike(two, some()) {
		t.Error("a Clone keeps what it is of")
	}
}

// What is asked changes nothing, spare room neither.
func TestAsksChangeNothing(t *testing.T) {
	s, t2 := some(), some()
	s.Rows = append(make([]row.Row, 0, 9), s.Rows...)
	s.Begun = append(make([]row.Glyph, 0, 9), s.Begun...)
	s.Rows[0].Cells = append(make([]row.Cell, 0, 9), row.Cell{Rune: -4, Style: -5, Part: -6}, row.Cell{Rune: 'x'}, row.Cell{})
	rows, begun, cells := slices.Clone(s.Rows[:9]), slices.Clone(s.Begun[:9]), slices.Clone(s.Rows[0].Cells[:9])
	s.Check()
	s.Pack()
	s.Sum()
	s.Same(t2)
	t2.Same(s)
	s.Clone()
	PackRow(s.Rows[0])
	if !slices.EqualFunc(s.Rows[:9], rows, row.Row.Same) || !slices.Equal(s.Begun[:9], begun) || !slices.Equal(s.Rows[0].Cells[:9], cells) {
		t.Error("what was handed in is another one")
	}
}

// cellsOf is n cells like that one.
func cellsOf(n int, c row.Cell) []row.Cell {
	return slices.Repeat([]row.Cell{c}, n)
}

func TestPackRow(t *testing.T) {
	a, b := row.Cell{Rune: 'a', Style: 1, Part: 0}, row.Cell{Rune: 'b', Style: 647, Part: 3}
	for _, c := range []struct {
		cells []row.Cell
		want  string
	}{
		{nil, ""}, {[]row.Cell{}, ""}, {[]row.Cell{a}, "\x01a\x01\x00"}, {[]row.Cell{a, a}, "\x02a\x01\x00"}, {[]row.Cell{a, b}, "\x01a\x01\x00\x01b\x87\x05\x03"}, {[]row.Cell{a, b, a}, "\x01a\x01\x00\x01b\x87\x05\x03\x01a\x01\x00"}, {[]row.Cell{a, a, b, b, b, a}, "\x02a\x01\x00\x03b\x87\x05\x03\x01a\x01\x00"},
		{cellsOf(127, a), "\x7fa\x01\x00"}, {cellsOf(128, a), "\x80\x01a\x01\x00"}, {cellsOf(1000, b), "\xe8\x07b\x87\x05\x03"}, {cellsOf(1001, b), "\xe9\x07b\x87\x05\x03"},
		// Cells that differ in one of them alone.
		{[]row.Cell{{Rune: 'a'}, {Rune: 'b'}}, "\x01a\x00\x00\x01b\x00\x00"}, {[]row.Cell{{Rune: 'a'}, {Rune: 'a', Style: 1}}, "\x01a\x00\x00\x01a\x01\x00"}, {[]row.Cell{{Rune: 'a'}, {Rune: 'a', Part: 1}}, "\x01a\x00\x00\x01a\x00\x01"},
		// Numbers below 0, and above those that may be.
		{[]row.Cell{{Rune: -1, Style: -1, Part: -1}}, "\x01\x00\x00\x00"}, {[]row.Cell{{Rune: math.MinInt32, Style: math.MinInt, Part: math.MinInt}}, "\x01\x00\x00\x00"}, {[]row.Cell{{Rune: 'a', Style: -5}, {Rune: 'b', Part: -5}, {Rune: -5, Style: 1, Part: 2}}, "\x01a\x00\x00\x01b\x00\x00\x01\x00\x01\x02"},
		{[]row.Cell{{Rune: 0x110000, Style: 648, Part: 4}}, "\x01\x80\x80\x44\x88\x05\x04"}, {[]row.Cell{{Rune: math.MaxInt32, Style: math.MaxInt, Part: 1 << 62}}, "\x01\xff\xff\xff\xff\x07\x80\x80\x80\x80\x80\x80\x80\x80\x40\x80\x80\x80\x80\x80\x80\x80\x80\x40"},
		// As they count they are alike.
		{[]row.Cell{{Rune: 'a', Style: -1}, {Rune: 'a'}, {Rune: 'a', Part: -7}}, "\x03a\x00\x00"}, {[]row.Cell{{}, {Rune: -1}, {Rune: -2, Style: -3, Part: -4}, {Rune: 1}}, "\x03\x00\x00\x00\x01\x01\x00\x00"},
	} {
		for wrapped, first := range map[bool]string{false: "\x00", true: "\x01"} {
			if got := PackRow(row.Row{Cells: c.cells, Wrapped: wrapped}); got != first+c.want {
				t.Errorf("%v: %x, want %x", c.cells, got, first+c.want)
			}
		}
	}
}

// readRow: what is read of a text, how many bytes are left behind it, and the error.
func readRow(t *testing.T, s string, w int, want row.Row, left int, e api.Errno) {
	t.Helper()
	in := num.Of(s)
	got := ReadRow(in, w)
	if !got.Same(want) || in.Left() != left || in.Err() != e {
		t.Errorf("%x, of %d cells: %v, %d left, %d, want %v, %d, %d", s[:min(len(s), 40)], w, got, in.Left(), in.Err(), want, left, e)
	}
}

func TestReadRow(t *testing.T) {
	a, b := row.Cell{Rune: 'a', Style: 1}, row.Cell{Rune: 0x10ffff, Style: 647, Part: 3}
	readRow(t, "\x00", 0, row.Row{}, 0, api.OK)
	readRow(t, "\x01\x05", 0, row.Row{Wrapped: true}, 1, api.OK)
	readRow(t, "\x01\x01a", -1, row.Row{Wrapped: true}, 2, api.OK)
	readRow(t, "\x00\x01a", math.MinInt, row.Row{}, 2, api.OK)
	readRow(t, "\x00\x01a\x01\x00", 1, row.Row{Cells: []row.Cell{a}}, 0, api.OK)
	readRow(t, "\x01\x01a\x01\x00\x07", 1, row.Row{Cells: []row.Cell{a}, Wrapped: true}, 1, api.OK)
	readRow(t, "\x00\x03a\x01\x00\x01\xff\xff\x43\x87\x05\x03", 4, row.Row{Cells: []row.Cell{a, a, a, b}}, 0, api.OK)
	readRow(t, "\x00\x01a\x01\x00\x01\xff\xff\x43\x87\x05\x03\x02a\x01\x00", 4, row.Row{Cells: []row.Cell{a, b, a, a}}, 0, api.OK)
	readRow(t, "\x01\xe8\x07a\x01\x00", 1000, row.Row{Cells: cellsOf(1000, a), Wrapped: true}, 0, api.OK)
	readRow(t, "\x01\x90\x4ea\x01\x00", 10000, row.Row{Cells: cellsOf(10000, a), Wrapped: true}, 0, api.OK)
	readRow(t, "\x00\x01\x00\x00\x00", 1, row.Row{Cells: []row.Cell{{}}}, 0, api.OK)
}

// Each of its errors is told as soon as the number was read: ahead of what is wrong behind it, and behind what is wrong ahead of it.
func TestReadRowErrors(t *testing.T) {
	behinds := []string{"", "\x80", "\x80\x00", "\x00\x00\x00\x00", "\x01a\x00\x00"}
	for _, wrong := range []string{
		"\x02", "\x7f", "\x80\x02", "\x81\x80\x80\x80\x10", "\x80\x80\x80\x80\x80\x80\x80\x80\x40", // the first number
		"\x00\x00", "\x00\x04", "\x00\x83\x01", "\x01\x80\x80\x80\x80\x80\x80\x80\x80\x40", "\x00\x83\x80\x80\x80\x10", // a run of none, of more than are left
		"\x00\x02a\x01\x00\x02", "\x00\x02a\x01\x00\x00", "\x00\x01a\x01\x00\x03", // another one
		"\x00\x01\x80\x80\x44", "\x00\x01\xe1\x80\x80\x80\x10", "\x00\x01a\x88\x05", "\x00\x01a\x01\x04", // a Rune, a Style, a Part
		"\x00\x01a\x01\x00\x01\x80\x80\x44", "\x00\x01a\x01\x00\x01b\x88\x05", "\x00\x01a\x01\x00\x02b\x01\x04",
		"\x00\x01a\x01\x00\x01a\x01\x00", "\x00\x01a\x01\x00\x02a\x01\x00", "\x00\x01a\x01\x00\x01b\x01\x00\x01b\x01\x00", "\x00\x01\x00\x00\x00\x01\x00\x00\x00", // a run like the one ahead of it
	} {
		for _, behind := range behinds {
			readRow(t, wrong+behind, 3, row.Row{}, 0, api.ErrForm)
		}
	}
	for _, right := range []string{"", "\x01", "\x00\x01", "\x00\x01a", "\x00\x01a\x01", "\x00\x01a\x01\x00", "\x00\x01a\x01\x00\x02", "\x00\x01a\x01\x00\x01a", "\x00\x01a\x01\x00\x01a\x01", "\x00\x01a\x01\x00\x01b\x01\x00"} {
		readRow(t, right, 3, row.Row{}, 0, api.ErrEnd)
		readRow(t, right+"\x80", 3, row.Row{}, 0, api.ErrEnd)
		readRow(t, right+"\x80\x00", 3, row.Row{}, 0, api.ErrForm)
		readRow(t, right+strings.Repeat("\xff", 9), 3, row.Row{}, 0, api.ErrForm)
		readRow(t, right+"\x81\x80\x80\x80\x80\x80\x80\x80\x40", 3, row.Row{}, 0, api.ErrForm)
	}
	readRow(t, "", 0, row.Row{}, 0, api.ErrEnd)
	readRow(t, "", -5, row.Row{}, 0, api.ErrEnd)
	readRow(t, "\x02", 0, row.Row{}, 0, api.ErrForm)
}

// A few bytes that aren't a whole row's don't ask for the memory of many cells.
func TestReadRowHuge(t *testing.T) {
	huge := "\x00" + bytesOf(1<<62) + "a\x00\x00"
	for _, w := range []int{1<<62 + 1, math.MaxInt} {
		readRow(t, huge, w, row.Row{}, 0, api.ErrEnd)
		readRow(t, huge+"\x01", w, row.Row{}, 0, api.ErrEnd)
		readRow(t, huge+bytesOf(1<<62), w, row.Row{}, 0, api.ErrForm)
		readRow(t, huge+"\x01a\x00\x00", w, row.Row{}, 0, api.ErrForm)
		readRow(t, "\x00\x01a\x00\x00", w, row.Row{}, 0, api.ErrEnd)
	}
	readRow(t, huge, 1<<62-1, row.Row{}, 0, api.ErrForm)
}

// Behind an error that there is nothing is read, and it stays the first one; rows stand one behind the other.
func TestReadRowBehind(t *testing.T) {
	for _, e := range []api.Errno{api.ErrEnd, api.ErrBig, api.ErrForm} {
		for _, w := range []int{-1, 0, 1, 5} {
			in := num.Of("\x01\x05a\x00\x00")
			in.Fail(e)
			if r := ReadRow(in, w); r.Wrapped || r.Cells != nil || in.Err() != e {
				t.Errorf("%v, %d", r, in.Err())
			}
		}
	}
	in := num.Of(someBytes[9] + someBytes[10] + someBytes[11] + someBytes[12] + strings.Join(someBytes[13:], ""))
	for y, want := range some().Rows {
		if got := ReadRow(in, 3); !got.Same(want) || in.Err() != api.OK {
			t.Errorf("%d: %v, %d", y, got, in.Err())
		}
	}
	if r := ReadRow(in, 3); r.Cells != nil || r.Wrapped || in.Err() != api.ErrEnd {
		t.Errorf("%v, %d", r, in.Err())
	}
	// What is read is new memory.
	packed := PackRow(row.Blank(9, 4))
	one, two := ReadRow(num.Of(packed), 9), ReadRow(num.Of(packed), 9)
	spoil(Snap{Rows: []row.Row{one}})
	if !two.Same(row.Blank(9, 4)) {
		t.Error("one row changes another one")
	}
}

// parsed: what is told of a text that is no snap's.
func parsed(t *testing.T, what, s string, e api.Errno) {
	t.Helper()
	if got, ge := Parse(s); ge != e || !alike(got, Snap{}) || got.Rows != nil || got.Begun != nil {
		t.Errorf("%s, %x: %d, want %d", what, s[:min(len(s), 40)], ge, e)
	}
}

// Each part is cut off, is too long a number, is one byte more.
func TestParseParts(t *testing.T) {
	whole := strings.Join(someBytes, "")
	if got, e := Parse(whole); e != api.OK || !alike(got, some()) {
		t.Fatalf("%v, %d", got, e)
	}
	for n := range len(whole) {
		want := api.ErrEnd
		if n == 0 {
			want = api.OK
		}
		parsed(t, "cut off", whole[:n], want)
	}
	ahead := ""
	for k, part := range someBytes {
		behind := strings.Join(someBytes[k+1:], "")
		for _, wrong := range []string{"\x80\x00", "\x87\x00", strings.Repeat("\x80", 9), strings.Repeat("\xff", 10), "\x81\x80\x80\x80\x80\x80\x80\x80\x40"} {
			parsed(t, "a number that is none", ahead+wrong+part+behind, api.ErrForm)
			parsed(t, "a number that is none", ahead+wrong, api.ErrForm)
		}
		ahead += part
	}
	for _, more := range []string{"\x00", "\x01", "\x80", "\xff", "\x01\x20\x00\x00", whole} {
		parsed(t, "bytes are left", whole+more, api.ErrForm)
	}
}

// Each part that may not be, and which error is told first.
func TestParseWrong(t *testing.T) {
	with := func(k int, part string) string {
		l := slices.Clone(someBytes)
		l[k] = part
		return strings.Join(l, "")
	}
	for _, c := range []struct {
		what string
		k    int
		part string
		now  bool // told at once, so ahead of the bytes' end behind it
	}{
		{"K 0", 0, "\x00", false}, {"K above 2^60", 0, bytesOf(1<<60 + 1), false}, {"K 2^62", 0, bytesOf(1 << 62), false},
		{"W 1001", 1, "\xe9\x07", true}, {"H 1001", 2, "\xe9\x07", true}, {"W 2^62", 1, bytesOf(1 << 62), true}, {"H 2^32 and 2", 2, bytesOf(1<<32 + 2), true},
		{"X beyond", 3, "\x03", false}, {"X 2^62", 3, bytesOf(1 << 62), false}, {"Y beyond", 4, "\x02", false}, {"Y 2^62", 4, bytesOf(1 << 62), false},
		{"a Title too long", 5, "\xc9\x01" + strings.Repeat("x", 201), false}, {"Len above 2^60", 6, bytesOf(1<<60 + 1), false}, {"Chain above 2^48", 7, bytesOf(1<<48 + 1), false},
		{"too much begun", 8, "\x81\x08", true}, {"a rune that is begun", 8, "\x02p\x03\x80\x80\x44\x04", true}, {"a style that is begun", 8, "\x02p\x88\x05q\x04", true},
		{"Wrapped 2", 9, "\x02", true}, {"a run of none", 10, "\x00", true}, {"a run that is too long", 10, "\x04", true}, {"a Rune", 11, "\x01\x80\x80\x44", true}, {"a Style", 11, "\x01\xad\x9c\x01\x88\x05", true}, {"a Part", 11, "\x01\xad\x9c\x01\x02\x04", true},
		{"a run like the one ahead of it", 11, "\x01x\x01\x00", true}, {"Wrapped 2, below", 13, "\x02", true}, {"a last run that is too long", 15, "\x02", true}, {"a last Part", 15, "\x01y\x87\x05\x04", true},
	} {
		parsed(t, c.what, with(c.k, c.part), api.ErrForm)
		cut := strings.Join(someBytes[:c.k], "") + c.part
		want := api.ErrForm
		if !c.now {
			want = api.ErrEnd
		}
		parsed(t, c.what+", and the end", cut, want)
		parsed(t, c.what+", and too long a number", cut+strings.Repeat("\xff", 9), api.ErrForm)
	}
	for _, c := range []struct{ what, s string }{
		{"the empty one", strings.Repeat("\x00", 9)}, {"no rows", "\x01\x01\x00\x00\x00\x00\x00\x00\x00"}, {"no columns", "\x01\x00\x01\x00\x00\x00\x00\x00\x00\x00"}, {"no columns, Wrapped", "\x01\x00\x02\x00\x00\x00\x00\x00\x00\x01\x01"}, {"no size", "\x01\x00\x00\x00\x00\x00\x00\x00\x00"}, {"K 0", "\x00\x01\x01\x00\x00\x00\x00\x00\x00\x00\x01\x20\x00\x00"},
	} {
		parsed(t, c.what, c.s, api.ErrForm)
		parsed(t, c.what+", and bytes", c.s+"\x00", api.ErrForm)
		parsed(t, c.what+", cut off", c.s[:len(c.s)-1], api.ErrEnd)
	}
	// A Title that says more bytes than there are.
	parsed(t, "a Title that is cut off", "\x01\x01\x01\x00\x00\x03ab", api.ErrEnd)
	parsed(t, "a Title without an end", "\x01\x01\x01\x00\x00"+bytesOf(1<<62)+"ab", api.ErrEnd)
}

// Each field at the ends that may be is parsed; of no bytes the empty one is.
func TestParseEnds(t *testing.T) {
	if got, e := Parse(""); e != api.OK || !alike(got, Snap{}) {
		t.Errorf("%v, %d", got, e)
	}
	one, two := some(), some()
	one.K, one.X, one.Y, one.Title, one.Len, one.Chain, one.Begun = 1, 0, 0, "", 0, 0, nil
	two.K, two.X, two.Y, two.Title, two.Len, two.Chain, two.Begun = 1<<60, 2, 1, strings.Repeat("\x00", 200), 1<<60, 1<<48, slices.Repeat([]row.Glyph{{Rune: 0x10ffff, Style: 647}}, 1024)
	for _, s := range []Snap{one, two, square(1, 1000), square(1000, 1)} {
		if got, e := Parse(plainPack(s)); e != api.OK || !alike(got, s) {
			t.Errorf("%v, %d", got.K, e)
		}
	}
	// What is parsed is new memory.
	packed := some().Pack()
	x, _ := Parse(packed)
	y, _ := Parse(packed)
	spoil(x)
	if !alike(y, some()) {
		t.Error("one snap changes another one")
	}
	spoil(Snap{Rows: []row.Row{{Cells: y.Rows[0].Cells}}})
	if !y.Rows[1].Same(some().Rows[1]) {
		t.Error("one row changes another one")
	}
}
