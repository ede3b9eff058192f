package grid

import (
	"math"
	"math/rand"
	"slices"
	"strconv"
	"testing"

	"tidewrack/row"
)

// text is a row of so many columns that shows a text, with a style.
func text(s string, w, style int) row.Row {
	r, at := row.Blank(w, 0), 0
	for _, x := range s {
		r = r.Put(at, x, style)
		at++
	}
	return r
}

// of is a grid of these rows.
func of(w int, rows ...string) *Grid {
	g := New(w, len(rows))
	for y, s := range rows {
		g.Set(y, text(s, w, 0))
	}
	return g
}

func checkText(t *testing.T, what string, g *Grid, want ...string) {
	t.Helper()
	if got := g.Text(); !slices.Equal(got, want) {
		t.Errorf("%s: %q, want %q", what, got, want)
	}
}

// first is the runes of rows.
func first(rows []row.Row) string {
	s := ""
	for _, r := range rows {
		s += string(r.Cells[0].Rune)
	}
	return s
}

func alike(a, b []row.Row) bool {
	return slices.EqualFunc(a, b, func(x, y row.Row) bool { return x.Wrapped == y.Wrapped && slices.Equal(x.Cells, y.Cells) })
}

// checkRows: the grid's rows are these, by each call that tells of them.
func checkRows(t *testing.T, what string, g *Grid, w int, want []row.Row) {
	t.Helper()
	if gw, gh := g.Size(); gw != w || gh != len(want) {
		t.Fatalf("%s: %d columns, %d rows, want %d, %d", what, gw, gh, w, len(want))
	}
	if got := g.Rows(); !alike(got, want) {
		t.Fatalf("%s: %#v, want %#v", what, got, want)
	}
	for y := range want {
		if got := g.Row(y); !alike([]row.Row{got}, want[y:y+1]) || len(got.Cells) != w {
			t.Fatalf("%s, row %d: %#v, want %#v", what, y, got, want[y])
		}
	}
	for _, y := range []int{math.MinInt, -1, len(want), len(want) + 1, math.MaxInt} {
		if got := g.Row(y); got.Cells != nil || got.Wrapped {
			t.Fatalf("%s, row %d: %#v", what, y, got)
		}
	}
}

// The chapter's example.
func TestExample(t *testing.T) {
	g := of(1, "a", "b", "c")
	if went := g.Up(0, 1, 1, 0); first(went) != "a" {
		t.Errorf("%#v", went)
	}
	checkText(t, "", g, "b", "", "c")
}

// P10.2: as many columns and rows as may be.
func TestNew(t *testing.T) {
	for n, want := range map[int]int{math.MinInt: 1, -1: 1, 0: 1, 1: 1, 2: 2, 999: 999, 1000: 1000, 1001: 1000, math.MaxInt: 1000} {
		checkRows(t, "columns "+strconv.Itoa(n), New(n, 2), want, slices.Repeat([]row.Row{row.Blank(want, 0)}, 2))
		checkRows(t, "rows "+strconv.Itoa(n), New(2, n), 2, slices.Repeat([]row.Row{row.Blank(2, 0)}, want))
	}
}

func TestSet(t *testing.T) {
	g := New(3, 2)
	wide := row.Blank(5, 0).Put(0, 'a', 1).Put(2, '中', 2)
	for _, y := range []int{math.MinInt, -1, 2, 3, math.MaxInt} {
		if g.Set(y, wide) {
			t.Errorf("%d", y)
		}
	}
	checkRows(t, "nothing", g, 3, []row.Row{row.Blank(3, 0), row.Blank(3, 0)})
	if !g.Set(1, wide) {
		t.Error("1")
	}
	checkRows(t, "cut", g, 3, []row.Row{row.Blank(3, 0), row.Blank(3, 0).Put(0, 'a', 1).Erase(2, 3, 2)})
	// Of as many columns it is the same, whatever it is; of others it is mended, and doesn't go on.
	odd := row.Row{Cells: []row.Cell{{Rune: '中', Style: 1, Part: row.Right}, {Rune: 'x', Part: row.Filler}, {Rune: -1, Style: -1, Part: 7}}, Wrapped: true}
	if !g.Set(0, odd) || !g.Set(1, row.Row{Cells: odd.Cells[:2], Wrapped: true}) {
		t.Error("0, 1")
	}
	checkRows(t, "odd", g, 3, []row.Row{odd, row.Blank(3, 0).Erase(0, 1, 1)})
	if !g.Set(0, row.Row{}) || !g.Set(1, row.Row{Wrapped: true}) {
		t.Error("none")
	}
	checkRows(t, "none", g, 3, []row.Row{row.Blank(3, 0), row.Blank(3, 0)})
}

// Regions at the top, in the midst, at the bottom, of one row and of all, and how often.
func TestUpAndDown(t *testing.T) {
	for _, c := range []struct {
		top, bottom, n         int
		up, upWent, dn, dnWent string
	}{
		{0, 1, 1, "b_cde", "a", "_acde", "b"}, {0, 2, 2, "c__de", "ab", "__ade", "cb"}, {0, 2, 3, "___de", "abc", "___de", "cba"}, {0, 2, 4, "___de", "abc", "___de", "cba"},
		{1, 3, 1, "acd_e", "b", "a_bce", "d"}, {1, 3, 2, "ad__e", "bc", "a__be", "dc"}, {1, 3, math.MaxInt, "a___e", "bcd", "a___e", "dcb"},
		{3, 4, 1, "abce_", "d", "abc_d", "e"}, {2, 4, 2, "abe__", "cd", "ab__c", "ed"},
		{0, 4, 1, "bcde_", "a", "_abcd", "e"}, {0, 4, 5, "_____", "abcde", "_____", "edcba"}, {0, 4, 4, "e____", "abcd", "____a", "edcb"},
		{2, 2, 1, "ab_de", "c", "ab_de", "c"}, {0, 0, 9, "_bcde", "a", "_bcde", "a"}, {4, 4, 1, "abcd_", "e", "abcd_", "e"},
		// None.
		{0, 4, 0, "abcde", "", "abcde", ""}, {0, 4, -1, "abcde", "", "abcde", ""}, {2, 2, 0, "abcde", "", "abcde", ""}, {1, 3, math.MinInt, "abcde", "", "abcde", ""},
		{3, 2, 1, "abcde", "", "abcde", ""}, {4, 0, 3, "abcde", "", "abcde", ""}, {math.MaxInt, math.MinInt, math.MaxInt, "abcde", "", "abcde", ""}, {1, -7, 1, "abcde", "", "abcde", ""},
		// Brought among the rows.
		{-3, 1, 1, "b_cde", "a", "_acde", "b"}, {math.MinInt, math.MaxInt, 1, "bcde_", "a", "_abcd", "e"}, {3, 5, 1, "abce_", "d", "abc_d", "e"}, {3, 99, 1, "abce_", "d", "abc_d", "e"},
		{-5, -2, 2, "_bcde", "a", "_bcde", "a"}, {7, 9, 1, "abcd_", "e", "abcd_", "e"}, {9, 7, 1, "abcd_", "e", "abcd_", "e"}, {-1, -2, 1, "_bcde", "a", "_bcde", "a"}, {4, 3, 1, "abcde", "", "abcde", ""},
	} {
		what := strconv.Itoa(c.top) + " to " + strconv.Itoa(c.bottom) + ", " + strconv.Itoa(c.n)
		g := of(2, "a", "b", "c", "d", "e")
		h := g.Clone()
		went := g.Up(c.top, c.bottom, c.n, 6)
		checkMoved(t, what+" up", g, c.up, went, c.upWent)
		went = h.Down(c.top, c.bottom, c.n, 6)
		checkMoved(t, what+" down", h, c.dn, went, c.dnWent)
	}
}

// checkMoved: rows of blanks of the style 6 are told as _.
func checkMoved(t *testing.T, what string, g *Grid, want string, went []row.Row, wantWent string) {
	t.Helper()
	var rows []row.Row
	for _, x := range want {
		r := text(string(x), 2, 0)
		if x == '_' {
			r = row.Blank(2, 6)
		}
		rows = append(rows, r)
	}
	checkRows(t, what, g, 2, rows)
	var off []row.Row
	for _, x := range wantWent {
		off = append(off, text(string(x), 2, 0))
	}
	if !alike(went, off) {
		t.Errorf("%s: %#v went", what, went)
	}
}

// A style is any number; rows that go on do so where they went, and where they are.
func TestMovedRows(t *testing.T) {
	for _, style := range []int{0, -1, math.MinInt, math.MaxInt} {
		g := New(2, 2)
		on := row.Blank(2, 3).Fill(4)
		g.Set(1, on)
		if went := g.Up(0, 1, 1, style); !alike(went, []row.Row{row.Blank(2, 0)}) {
			t.Errorf("%#v", went)
		}
		checkRows(t, "up", g, 2, []row.Row{on, row.Blank(2, style)})
		if went := g.Down(0, 1, 2, style); !alike(went, []row.Row{row.Blank(2, style), on}) {
			t.Errorf("%#v", went)
		}
		checkRows(t, "down", g, 2, []row.Row{row.Blank(2, style), row.Blank(2, style)})
	}
}

func TestResize(t *testing.T) {
	for _, c := range []struct {
		w, h, off int
		want      []string
		went      string
	}{
		{3, 4, 0, []string{"abc", "def", "ghi", "jkl"}, ""},
		{3, 4, 1, []string{"def", "ghi", "jkl", ""}, "a"}, {3, 4, 3, []string{"jkl", "", "", ""}, "adg"}, {3, 4, 4, []string{"jkl", "", "", ""}, "adg"},
		{3, 4, math.MaxInt, []string{"jkl", "", "", ""}, "adg"}, {3, 4, -1, []string{"abc", "def", "ghi", "jkl"}, ""}, {3, 4, math.MinInt, []string{"abc", "def", "ghi", "jkl"}, ""},
		{3, 2, 0, []string{"abc", "def"}, ""}, {3, 2, 1, []string{"def", "ghi"}, "a"}, {3, 2, 2, []string{"ghi", "jkl"}, "ad"}, {3, 2, 3, []string{"jkl", ""}, "adg"},
		{3, 1, 3, []string{"jkl"}, "adg"}, {3, 1, 9, []string{"jkl"}, "adg"}, {3, 0, 1, []string{"def"}, "a"}, {3, math.MinInt, 0, []string{"abc"}, ""},
		{3, 6, 0, []string{"abc", "def", "ghi", "jkl", "", ""}, ""}, {3, 6, 2, []string{"ghi", "jkl", "", "", "", ""}, "ad"},
		{2, 3, 0, []string{"ab", "de", "gh"}, ""}, {2, 3, 2, []string{"gh", "jk", ""}, "ad"}, {5, 3, 1, []string{"def", "ghi", "jkl"}, "a"},
		{1, 1, 0, []string{"a"}, ""}, {0, 1, 1, []string{"d"}, "a"}, {-9, 2, 1, []string{"d", "g"}, "a"},
	} {
		what := strconv.Itoa(c.w) + ", " + strconv.Itoa(c.h) + ", " + strconv.Itoa(c.off)
		g := of(3, "abc", "def", "ghi", "jkl")
		went := g.Resize(c.w, c.h, c.off)
		var want []row.Row
		for _, s := range c.want {
			want = append(want, text(s, max(c.w, 1), 0))
		}
		checkRows(t, what, g, max(c.w, 1), want)
		checkText(t, what, g, c.want...)
		if first(went) != c.went || slices.ContainsFunc(went, func(r row.Row) bool { return len(r.Cells) != 3 }) {
			t.Errorf("%s: %#v went", what, went)
		}
	}
}

// The greatest size, and one row, of which none can go.
func TestResizeToEdges(t *testing.T) {
	g := New(2, 1)
	g.Set(0, text("ab", 2, 1))
	if went := g.Resize(math.MaxInt, 1, 1); len(went) > 0 {
		t.Errorf("%#v", went)
	}
	checkRows(t, "wider", g, 1000, []row.Row{text("ab", 2, 1).Resize(1000)})
	if went := g.Resize(1, 1001, 5); len(went) > 0 {
		t.Errorf("%#v", went)
	}
	checkRows(t, "higher", g, 1, append([]row.Row{text("a", 1, 1)}, slices.Repeat([]row.Row{row.Blank(1, 0)}, 999)...))
}

// Rows that go on do so as long as they are as wide as they were; wide runes are mended; those that went are as they were.
func TestResizeOfRows(t *testing.T) {
	on := row.Blank(3, 0).Put(0, 'a', 1).Fill(2)
	wide := row.Blank(3, 0).Put(1, '中', 4)
	g := New(3, 3)
	g.Set(0, on)
	g.Set(1, on)
	g.Set(2, wide)
	if went := g.Resize(3, 4, 1); !alike(went, []row.Row{on}) {
		t.Errorf("%#v", went)
	}
	checkRows(t, "as wide", g, 3, []row.Row{on, wide, row.Blank(3, 0), row.Blank(3, 0)})
	if went := g.Resize(2, 2, 1); !alike(went, []row.Row{on}) {
		t.Errorf("%#v", went)
	}
	checkRows(t, "narrower", g, 2, []row.Row{row.Blank(2, 0).Erase(1, 2, 4), row.Blank(2, 0)})
	g = New(3, 2)
	g.Set(0, on)
	g.Set(1, on)
	if went := g.Resize(4, 1, 1); !alike(went, []row.Row{on}) {
		t.Errorf("%#v", went)
	}
	checkRows(t, "wider", g, 4, []row.Row{row.Blank(4, 0).Put(0, 'a', 1).Erase(2, 3, 2)})
}

func TestSame(t *testing.T) {
	styled := of(2, "a", "b")
	styled.Set(1, text("b", 2, 1))
	on := of(2, "a", "b")
	on.Set(1, row.Row{Cells: on.Row(1).Cells, Wrapped: true})
	l := []*Grid{New(2, 2), New(2, 1), New(1, 2), New(2, 3), of(2, "a", "b"), of(2, "a", "c"), of(2, "c", "b"), of(3, "a", "b"), of(2, "a", "b", ""), styled, on, of(2, "a"), of(2, "", "a")}
	for i, a := range l {
		for k, b := range l {
			if got := a.Same(b); got != (i == k) {
				t.Errorf("%d, %d: %v", i, k, got)
			}
		}
		if !a.Same(a.Clone()) || !a.Clone().Same(a) {
			t.Errorf("%d: its clone", i)
		}
	}
	// What it came by doesn't count.
	g := of(3, "abc", "d")
	g.Resize(2, 3, 1)
	if !g.Same(of(2, "d", "", "")) {
		t.Errorf("%q", g.Text())
	}
}

func TestText(t *testing.T) {
	g := New(4, 6)
	g.Set(0, row.Blank(4, 0).Put(0, 'a', 1).Put(1, '中', 2))
	g.Set(1, row.Blank(4, 0).Put(1, 'é', 0))
	g.Set(2, row.Blank(4, 0).Put(0, 'x', 0).Fill(0))
	g.Set(3, row.Blank(4, 0).Erase(1, 2, 5))
	// What is no rune is told as fffd.
	g.Set(4, row.Row{Cells: []row.Cell{{Rune: 0xd800}, {Rune: -1}, {Rune: 0x110000}, {Rune: 0x10ffff}}})
	g.Set(5, row.Row{Cells: []row.Cell{{Rune: 0}, {Rune: '\n'}, {Rune: 'z', Part: 9}, {Rune: '中', Part: row.Right}}})
	checkText(t, "", g, "a中", " é", "x  ", "  ", "\ufffd\ufffd\ufffd\U0010ffff", "\x00\n")
	checkText(t, "blanks", New(1000, 2), "", "")
}

// Blanks ahead of a last cell that is none of them are told, whether the row goes on or not.
func TestTextAheadOfTheEnd(t *testing.T) {
	for _, last := range []row.Cell{{Rune: ' ', Part: row.Filler}, {Rune: ' ', Style: 3, Part: row.Filler}, {Rune: '中', Part: row.Right}, {Rune: ' ', Part: 4}, {Rune: ' ', Part: -1}} {
		for _, on := range []bool{false, true} {
			g := New(4, 3)
			space, a := row.Cell{Rune: ' '}, row.Cell{Rune: 'a'}
			g.Set(0, row.Row{Cells: []row.Cell{a, a, space, last}, Wrapped: on})
			g.Set(1, row.Row{Cells: []row.Cell{a, space, space, last}, Wrapped: on})
			g.Set(2, row.Row{Cells: []row.Cell{space, space, space, last}, Wrapped: on})
			checkText(t, strconv.Itoa(last.Part), g, "aa ", "a  ", "   ")
		}
	}
	g := New(4, 2)
	g.Set(0, row.Blank(4, 0).Fill(0).Put(0, 0, 0))
	g.Set(1, row.Blank(4, 0).Fill(0).Put(0, 'a', 0))
	checkText(t, "filled", g, "   ", "a  ")
	// Where a blank is the last cell, it is told in a row that goes on alone.
	a := row.Blank(4, 0).Put(0, 'a', 0)
	g.Set(0, a)
	g.Set(1, row.Row{Cells: a.Cells, Wrapped: true})
	checkText(t, "blanks", g, "a", "a   ")
}

// model is a grid in another way: rows alone, moved one at a time.
type model struct {
	w    int
	rows []row.Row
}

func among(n, least, most int) int {
	if n < least {
		return least
	}
	if n > most {
		return most
	}
	return n
}

func (m *model) move(top, bottom, n, style int, up bool) []row.Row {
	top, bottom = among(top, 0, len(m.rows)-1), among(bottom, 0, len(m.rows)-1)
	from, to := top, bottom
	if !up {
		from, to = bottom, top
	}
	var went []row.Row
	for i := 0; i < n && i <= bottom-top; i++ {
		went = append(went, m.rows[from])
		m.rows = slices.Delete(m.rows, from, from+1)
		m.rows = slices.Insert(m.rows, to, row.Blank(m.w, style))
	}
	return went
}

func (m *model) resize(w, h, off int) []row.Row {
	var went []row.Row
	for i := 0; i < off && len(m.rows) > 1; i++ {
		went = append(went, m.rows[0])
		m.rows = m.rows[1:]
	}
	m.w = among(w, 1, 1000)
	rows := slices.Clone(m.rows)
	for len(rows) > among(h, 1, 1000) {
		rows = rows[:len(rows)-1]
	}
	for len(rows) < among(h, 1, 1000) {
		rows = append(rows, row.Blank(1, 0))
	}
	for y := range rows {
		rows[y] = rows[y].Resize(m.w)
	}
	m.rows = rows
	return went
}

// some is a row of any kind, of about so many cells.
func some(random *rand.Rand, w int) row.Row {
	runes := []rune{'a', 'b', ' ', '中', 'あ', -1, 0x301}
	if random.Intn(4) == 0 {
		r := row.Row{Wrapped: random.Intn(2) == 0}
		for range w + random.Intn(3) - 1 {
			r.Cells = append(r.Cells, row.Cell{Rune: runes[random.Intn(len(runes))], Style: random.Intn(3), Part: random.Intn(6) - 1})
		}
		return r
	}
	r := row.Blank(w+random.Intn(3)-1, random.Intn(2))
	for range 4 {
		r = r.Put(random.Intn(w), runes[random.Intn(len(runes))], random.Intn(3))
	}
	if random.Intn(3) == 0 {
		r = r.Fill(0)
	}
	return r
}

// P10.1, P10.2, P10.3: behind any calls the rows are those of the second reading, of the grid and of a clone of it each its own.
func TestAnyCalls(t *testing.T) {
	random := rand.New(rand.NewSource(20))
	for range 400 {
		w, h := 1+random.Intn(6), 1+random.Intn(6)
		grids, models := []*Grid{New(w, h)}, []*model{{w, slices.Repeat([]row.Row{row.Blank(w, 0)}, h)}}
		for range 60 {
			i := random.Intn(len(grids))
			g, m := grids[i], models[i]
			a, b, n, style := random.Intn(len(m.rows)+4)-2, random.Intn(len(m.rows)+4)-2, random.Intn(8)-1, random.Intn(3)
			var went, want []row.Row
			switch random.Intn(8) {
			case 0, 1, 2:
				r, told := some(random, m.w), false
				if a >= 0 && a < len(m.rows) {
					m.rows[a], told = r.Resize(m.w), true
				}
				if g.Set(a, r) != told {
					t.Fatalf("set %d", a)
				}
			case 3, 4:
				went, want = g.Up(a, b, n, style), m.move(a, b, n, style, true)
			case 5:
				went, want = g.Down(a, b, n, style), m.move(a, b, n, style, false)
			case 6:
				went, want = g.Resize(n+1, a, b), m.resize(n+1, a, b)
			case 7:
				if len(grids) < 4 {
					grids, models = append(grids, g.Clone()), append(models, &model{m.w, slices.Clone(m.rows)})
				}
			}
			if !alike(went, want) {
				t.Fatalf("%#v went, want %#v", went, want)
			}
			for k, other := range grids {
				checkRows(t, "behind calls", other, models[k].w, models[k].rows)
			}
		}
	}
}

// spoil changes all there is of rows, their spare room too.
func spoil(rows ...row.Row) {
	for i := range rows {
		l := rows[i].Cells[:cap(rows[i].Cells)]
		for k := range l {
			l[k] = row.Cell{Rune: '!', Style: 77}
		}
	}
	for i := range rows {
		rows[i] = row.Row{}
	}
}

// Rows that are answered, or handed in, share no memory with the grid, nor with its clones, nor with one another.
func TestMemory(t *testing.T) {
	start := func() (*Grid, *Grid) {
		g := of(3, "abc", "def", "", "")
		return g, g.Clone()
	}
	want := []string{"abc", "def", "", ""}
	g, c := start()
	spoil(g.Row(0))
	spoil(g.Row(2))
	spoil(g.Rows()...)
	checkText(t, "rows", g, want...)
	for _, call := range []func(g *Grid) []row.Row{
		func(g *Grid) []row.Row { return g.Rows() },
		func(g *Grid) []row.Row { return g.Up(0, 3, 4, 0) },
		func(g *Grid) []row.Row { return g.Down(0, 3, 4, 0) },
		func(g *Grid) []row.Row { return g.Resize(3, 4, 3) },
		func(g *Grid) []row.Row { g.Up(0, 3, 4, 0); return g.Rows() },
		func(g *Grid) []row.Row { g.Up(0, 3, 4, 0); return g.Up(0, 3, 4, 0) },
	} {
		g, c := start()
		l := call(g)
		text := g.Text()
		for i := range l {
			rest := slices.Clone(l[i+1:])
			were := make([]row.Row, len(rest))
			for k, r := range rest {
				were[k] = row.Row{Cells: slices.Clone(r.Cells), Wrapped: r.Wrapped}
			}
			spoil(l[i])
			if !alike(rest, were) {
				t.Errorf("rows share memory: %#v, %#v", rest, were)
			}
		}
		checkText(t, "what it came of", g, text...)
		checkText(t, "its clone", c, want...)
	}
	r := row.Row{Cells: append(make([]row.Cell, 0, 9), text("xyz", 3, 1).Cells...), Wrapped: true}
	g.Set(1, r)
	spoil(r)
	checkText(t, "handed in", g, "abc", "xyz", "", "")
	checkText(t, "its clone", c, want...)
	over := row.Row{Cells: text("uvwx", 4, 1).Cells}
	g.Set(1, over)
	if !alike([]row.Row{over}, []row.Row{text("uvwx", 4, 1)}) {
		t.Errorf("%#v", over)
	}
	spoil(over)
	checkText(t, "cut", g, "abc", "uvw", "", "")
}

// A Clone goes its own way, whichever of both is changed.
func TestClone(t *testing.T) {
	for _, change := range []func(g *Grid){
		func(g *Grid) { g.Set(1, text("x", 3, 0)) }, func(g *Grid) { g.Up(0, 2, 1, 0) }, func(g *Grid) { g.Down(0, 2, 1, 0) }, func(g *Grid) { g.Resize(2, 5, 1) },
	} {
		g := of(3, "abc", "def", "ghi")
		c := g.Clone()
		change(g)
		checkText(t, "the clone", c, "abc", "def", "ghi")
		if g.Same(c) {
			t.Errorf("%q", g.Text())
		}
		g = of(3, "abc", "def", "ghi")
		c = g.Clone()
		change(c)
		checkText(t, "what it is a clone of", g, "abc", "def", "ghi")
		checkRows(t, "its size", g, 3, []row.Row{text("abc", 3, 0), text("def", 3, 0), text("ghi", 3, 0)})
	}
}

// Rows are gone through as far as is wanted.
func TestThrough(t *testing.T) {
	rows := []row.Row{text("a", 1, 0), text("b", 1, 0), text("c", 1, 0)}
	var down, up []row.Row
	for r := range downwards(rows) {
		if down = append(down, r); len(down) == 2 {
			break
		}
	}
	for r := range upwards(rows) {
		if up = append(up, r); len(up) == 2 {
			break
		}
	}
	if first(down) != "ab" || first(up) != "cb" {
		t.Errorf("%q, %q", first(down), first(up))
	}
	if l := copied(downwards(nil)); l != nil {
		t.Errorf("%#v", l)
	}
}
