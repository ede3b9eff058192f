package row

import (
	"math"
	"math/rand"
	"reflect"
	"slices"
	"strconv"
	"strings"
	"testing"

	"tidewrack/wide"
)

// Runes of two columns, and of none.
const (
	cjk  = '中'
	kana = 'あ'
	mark = 0x301
)

// of reads a row: of each cell its rune (_ for a space) and its style, and behind that, but of a Single, what it is: L, R, F, or another number. A + at the end: it is Wrapped.
func of(s string) Row {
	var r Row
	for _, one := range strings.Fields(s) {
		if one == "+" {
			r.Wrapped = true
			continue
		}
		l := []rune(one)
		c := Cell{Rune: l[0], Style: int(l[1] - '0')}
		if c.Rune == '_' {
			c.Rune = ' '
		}
		if len(l) > 2 {
			c.Part = slices.Index([]rune("SLRF"), l[2])
			if c.Part < 0 {
				c.Part, _ = strconv.Atoi(string(l[2:]))
			}
		}
		r.Cells = append(r.Cells, c)
	}
	return r
}

func check(t *testing.T, what string, got, want Row) {
	t.Helper()
	if !slices.Equal(got.Cells, want.Cells) || got.Wrapped != want.Wrapped {
		t.Errorf("%s: %#v, want %#v", what, got, want)
	}
}

// ofWidth is all rows of w of these cells.
func ofWidth(w int, some []Cell) []Row {
	l := []Row{{}}
	for range w {
		var longer []Row
		for _, r := range l {
			for _, c := range some {
				longer = append(longer, Row{Cells: append(slices.Clone(r.Cells), c)})
			}
		}
		l = longer
	}
	return l
}

// every is rows of up to four cells, each of them of any kind, of Rights of several runes and styles as well; all that go on and all that don't.
func every() []Row {
	some := []Cell{{'a', 0, Single}, {' ', 0, Single}, {' ', 3, Single}, {cjk, 1, Left}, {cjk, 1, Right}, {kana, 2, Left}, {kana, 2, Right}, {' ', 4, Filler}, {'x', 5, 4}, {'y', 6, -1}}
	var l []Row
	for w := range 4 {
		l = append(l, ofWidth(w, some)...)
	}
	l = append(l, ofWidth(4, some[2:8])...)
	for _, r := range slices.Clone(l) {
		l = append(l, Row{r.Cells, true})
	}
	return l
}

// plainMend goes from the left to the right by what was ahead, and puts each cell behind those that stand.
func plainMend(l []Cell) []Cell {
	var mended []Cell
	for i, c := range l {
		stays := true
		switch {
		case c.Part == 1:
			stays = i < len(l)-1 && l[i+1].Part == 2
		case c.Part == 2:
			stays = i > 0 && mended[i-1].Part == 1
		case c.Part == 3:
			stays = i == len(l)-1
		}
		if !stays {
			c.Rune, c.Part = 0x20, 0
		}
		mended = append(mended, c)
	}
	return mended
}

// plainOf tells a row cell by cell: at is the cell of a place that was asked.
func plainOf(w int, at func(i int) Cell) Row {
	var l []Cell
	for i := range w {
		l = append(l, at(i))
	}
	return Row{plainMend(l), false}
}

func plainBlank(style int) Cell { return Cell{Rune: 0x20, Style: style} }

func plainPut(r Row, at int, x rune, style int) Row {
	n := wide.Of(x)
	stands := at >= 0 && at < len(r.Cells) && (n == 1 || n == 2 && at+1 < len(r.Cells))
	return plainOf(len(r.Cells), func(i int) Cell {
		switch {
		case stands && i == at && n == 1:
			return Cell{x, style, 0}
		case stands && i == at:
			return Cell{x, style, 1}
		case stands && n == 2 && i == at+1:
			return Cell{x, style, 2}
		}
		return r.Cells[i]
	})
}

func plainErase(r Row, from, to, style int) Row {
	return plainOf(len(r.Cells), func(i int) Cell {
		if from <= i && i < to {
			return plainBlank(style)
		}
		return r.Cells[i]
	})
}

// One at a time: by as many as there are at most.
func plainInsert(r Row, at, n, style int) Row {
	l := slices.Clone(r.Cells)
	for i := 0; i < n && i < len(l) && at >= 0 && at < len(l); i++ {
		l = slices.Insert(l, at, plainBlank(style))[:len(r.Cells)]
	}
	return Row{plainMend(l), false}
}

func plainDelete(r Row, at, n, style int) Row {
	l := slices.Clone(r.Cells)
	for i := 0; i < n && i < len(l) && at >= 0 && at < len(l); i++ {
		l = append(slices.Delete(l, at, at+1), plainBlank(style))
	}
	return Row{plainMend(l), false}
}

func plainFill(r Row, style int) Row {
	filled := plainOf(len(r.Cells), func(i int) Cell {
		if i == len(r.Cells)-1 {
			return Cell{0x20, style, 3}
		}
		return r.Cells[i]
	})
	filled.Wrapped = true
	return filled
}

func plainResize(r Row, w int) Row {
	if w < 0 {
		w = 0
	}
	if w > 1000 {
		w = 1000
	}
	if w == len(r.Cells) {
		return r
	}
	return plainOf(w, func(i int) Cell {
		if i < len(r.Cells) {
			return r.Cells[i]
		}
		return plainBlank(0)
	})
}

// plainGlyphs goes from the right: what comes of blanks is left out as long as nothing else came.
func plainGlyphs(r Row) []Glyph {
	var told []Glyph
	began := r.Wrapped
	for _, c := range slices.Backward(r.Cells) {
		began = began || c.Rune != 0x20 || c.Style != 0 || c.Part != 0
		if began && (c.Part == 0 || c.Part == 1) {
			told = slices.Insert(told, 0, Glyph{c.Rune, c.Style})
		}
	}
	return told
}

// The chapter's example.
func TestExample(t *testing.T) {
	check(t, "", Blank(3, 0).Put(0, cjk, 0).Put(1, 'a', 0), of("_0 a0 _0"))
}

func TestBlank(t *testing.T) {
	check(t, "3", Blank(3, 0), of("_0 _0 _0"))
	check(t, "2, style 7", Blank(2, 7), of("_7 _7"))
	for w, want := range map[int]int{0: 0, -1: 0, math.MinInt: 0, 1: 1, 999: 999, 1000: 1000, 1001: 1000, math.MaxInt: 1000} {
		for _, style := range []int{0, 5, -1, math.MaxInt, math.MinInt} {
			check(t, strconv.Itoa(w), Blank(w, style), Row{Cells: slices.Repeat([]Cell{{' ', style, Single}}, want)})
		}
	}
}

// A rune of one column and of two, at each place, over either half of wide ones.
func TestPut(t *testing.T) {
	r := of("a0 中1L 中1R b2 あ3L あ3R +")
	bare := of("a0 中1L 中1R b2 あ3L あ3R")
	for _, c := range []struct {
		at       int
		one, two Row
	}{
		{-1, bare, bare}, {-2, bare, bare}, {6, bare, bare}, {7, bare, bare}, {math.MinInt, bare, bare}, {math.MaxInt, bare, bare}, {math.MaxInt - 1, bare, bare},
		{0, of("x9 中1L 中1R b2 あ3L あ3R"), of("語9L 語9R _1 b2 あ3L あ3R")},
		{1, of("a0 x9 _1 b2 あ3L あ3R"), of("a0 語9L 語9R b2 あ3L あ3R")},
		{2, of("a0 _1 x9 b2 あ3L あ3R"), of("a0 _1 語9L 語9R あ3L あ3R")},
		{3, of("a0 中1L 中1R x9 あ3L あ3R"), of("a0 中1L 中1R 語9L 語9R _3")},
		{4, of("a0 中1L 中1R b2 x9 _3"), of("a0 中1L 中1R b2 語9L 語9R")},
		{5, of("a0 中1L 中1R b2 _3 x9"), bare},
	} {
		check(t, strconv.Itoa(c.at), r.Put(c.at, 'x', 9), c.one)
		check(t, strconv.Itoa(c.at)+" wide", r.Put(c.at, '語', 9), c.two)
	}
	// Of no column: nothing, at no place.
	for _, x := range []rune{mark, 0, 0x1b, 0x7f, -1, math.MinInt32, 0xd800, 0x110000, math.MaxInt32} {
		for at := -1; at < 8; at++ {
			check(t, strconv.Itoa(int(x)), r.Put(at, x, 9), bare)
		}
	}
	// Between two of two columns, and a style that is any number.
	check(t, "between", of("中1L 中1R あ3L あ3R").Put(1, '語', 9), of("_1 語9L 語9R _3"))
	check(t, "any style", Blank(2, 0).Put(0, 'x', math.MinInt).Put(1, 'y', math.MaxInt), Row{Cells: []Cell{{'x', math.MinInt, Single}, {'y', math.MaxInt, Single}}})
	// A row with no cell, and with one.
	check(t, "no cell", Row{Wrapped: true}.Put(0, 'x', 0), Row{})
	check(t, "one cell", of("a0 +").Put(0, cjk, 0), of("a0"))
	check(t, "one cell", of("a0 +").Put(0, 'b', 4), of("b4"))
	// The last rune of its columns, and a space that is put.
	check(t, "the last rune", Blank(1, 0).Put(0, 0x10ffff, 1), Row{Cells: []Cell{{0x10ffff, 1, Single}}})
	check(t, "a space", of("a0 b0").Put(1, ' ', 3), of("a0 _3"))
}

func TestErase(t *testing.T) {
	r := of("a0 中1L 中1R b2 _4F +")
	bare := of("a0 中1L 中1R b2 _4F")
	for _, c := range []struct {
		from, to int
		want     Row
	}{
		{0, 0, bare}, {2, 2, bare}, {5, 5, bare}, {3, 1, bare}, {5, 9, bare}, {-3, 0, bare}, {math.MaxInt, math.MinInt, bare}, {math.MaxInt, math.MaxInt, bare}, {4, 3, bare},
		{0, 1, of("_9 中1L 中1R b2 _4F")}, {-1, 1, of("_9 中1L 中1R b2 _4F")}, {0, 2, of("_9 _9 _1 b2 _4F")},
		{1, 2, of("a0 _9 _1 b2 _4F")}, {2, 3, of("a0 _1 _9 b2 _4F")}, {2, 4, of("a0 _1 _9 _9 _4F")}, {1, 3, of("a0 _9 _9 b2 _4F")},
		{3, 5, of("a0 中1L 中1R _9 _9")}, {4, 6, of("a0 中1L 中1R b2 _9")}, {4, math.MaxInt, of("a0 中1L 中1R b2 _9")},
		{0, 5, of("_9 _9 _9 _9 _9")}, {math.MinInt, math.MaxInt, of("_9 _9 _9 _9 _9")},
	} {
		check(t, strconv.Itoa(c.from)+" "+strconv.Itoa(c.to), r.Erase(c.from, c.to, 9), c.want)
	}
	check(t, "no cell", Row{Wrapped: true}.Erase(-1, 1, 0), Row{})
}

func TestInsert(t *testing.T) {
	r := of("a0 中1L 中1R b2 _4F +")
	bare := of("a0 中1L 中1R b2 _4F")
	for _, c := range []struct {
		at, n int
		want  Row
	}{
		{0, 0, bare}, {0, -1, bare}, {2, math.MinInt, bare}, {-1, 1, bare}, {5, 1, bare}, {math.MinInt, 3, bare}, {math.MaxInt, math.MaxInt, bare},
		{0, 1, of("_9 a0 中1L 中1R b2")}, {0, 2, of("_9 _9 a0 中1L 中1R")}, {0, 3, of("_9 _9 _9 a0 _1")}, {0, 4, of("_9 _9 _9 _9 a0")},
		{0, 5, of("_9 _9 _9 _9 _9")}, {0, 6, of("_9 _9 _9 _9 _9")}, {0, math.MaxInt, of("_9 _9 _9 _9 _9")},
		{1, 1, of("a0 _9 中1L 中1R b2")}, {2, 1, of("a0 _1 _9 _1 b2")}, {2, 2, of("a0 _1 _9 _9 _1")}, {2, 3, of("a0 _1 _9 _9 _9")}, {2, math.MaxInt, of("a0 _1 _9 _9 _9")},
		{3, 1, of("a0 中1L 中1R _9 b2")}, {4, 1, of("a0 中1L 中1R b2 _9")}, {4, 2, of("a0 中1L 中1R b2 _9")},
	} {
		check(t, strconv.Itoa(c.at)+" "+strconv.Itoa(c.n), r.Insert(c.at, c.n, 9), c.want)
	}
	check(t, "a Filler", of("a0 _4F").Insert(0, 0, 9), of("a0 _4F"))
	check(t, "no cell", Row{Wrapped: true}.Insert(0, 1, 0), Row{})
}

func TestDelete(t *testing.T) {
	r := of("a0 中1L 中1R b2 _4F +")
	bare := of("a0 中1L 中1R b2 _4F")
	for _, c := range []struct {
		at, n int
		want  Row
	}{
		{0, 0, bare}, {0, -1, bare}, {2, math.MinInt, bare}, {-1, 1, bare}, {5, 1, bare}, {math.MinInt, 3, bare}, {math.MaxInt, math.MaxInt, bare},
		{0, 1, of("中1L 中1R b2 _4 _9")}, {0, 2, of("_1 b2 _4 _9 _9")}, {0, 3, of("b2 _4 _9 _9 _9")}, {0, 4, of("_4 _9 _9 _9 _9")},
		{0, 5, of("_9 _9 _9 _9 _9")}, {0, 6, of("_9 _9 _9 _9 _9")}, {0, math.MaxInt, of("_9 _9 _9 _9 _9")},
		{1, 1, of("a0 _1 b2 _4 _9")}, {1, 2, of("a0 b2 _4 _9 _9")}, {2, 1, of("a0 _1 b2 _4 _9")}, {2, 2, of("a0 _1 _4 _9 _9")}, {2, 3, of("a0 _1 _9 _9 _9")},
		{2, math.MaxInt, of("a0 _1 _9 _9 _9")}, {3, 1, of("a0 中1L 中1R _4 _9")}, {4, 1, of("a0 中1L 中1R b2 _9")}, {4, 2, of("a0 中1L 中1R b2 _9")},
	} {
		check(t, strconv.Itoa(c.at)+" "+strconv.Itoa(c.n), r.Delete(c.at, c.n, 9), c.want)
	}
	// What comes together is a Left and a Right by what they are, whatever they show.
	check(t, "two halves", of("中1L 中1R あ2L あ2R").Delete(1, 2, 9), of("中1L あ2R _9 _9"))
	check(t, "no cell", Row{Wrapped: true}.Delete(0, 1, 0), Row{})
}

func TestFill(t *testing.T) {
	check(t, "blanks", Blank(3, 0).Fill(5), of("_0 _0 _5F +"))
	check(t, "half a wide one", of("a0 中1L 中1R").Fill(5), of("a0 _1 _5F +"))
	check(t, "a Filler", of("a0 _4F").Fill(5), of("a0 _5F +"))
	check(t, "twice", Blank(2, 0).Fill(5).Fill(6), of("_0 _6F +"))
	check(t, "one cell", of("a0").Fill(-2), Row{[]Cell{{' ', -2, Filler}}, true})
	check(t, "no cell", Row{}.Fill(5), Row{Wrapped: true})
	check(t, "a Filler in the midst", of("_4F a0").Fill(5), of("_4 _5F +"))
}

func TestResize(t *testing.T) {
	r := of("a0 中1L 中1R b2 _4F +")
	for w, want := range map[int]Row{
		-1: {}, 0: {}, math.MinInt: {}, 1: of("a0"), 2: of("a0 _1"), 3: of("a0 中1L 中1R"), 4: of("a0 中1L 中1R b2"), 5: r, 6: of("a0 中1L 中1R b2 _4 _0"), 7: of("a0 中1L 中1R b2 _4 _0 _0"),
	} {
		check(t, strconv.Itoa(w), r.Resize(w), want)
	}
	check(t, "more, of a wide one at the end", of("中1L 中1R +").Resize(3), of("中1L 中1R _0"))
	check(t, "as many, not Wrapped", of("a0 _4F").Resize(2), of("a0 _4F"))
	check(t, "no cell", Row{Wrapped: true}.Resize(-3), Row{Wrapped: true})
	check(t, "no cell, and one", Row{Wrapped: true}.Resize(1), of("_0"))
	// It is the same, whatever its cells are.
	check(t, "as many, of any kind", of("中1R a0L _4F x3 y3 +").Resize(5), of("中1R a0L _4F x3 y3 +"))
	// The greatest row, and one that is greater than any may be.
	great := Row{slices.Repeat([]Cell{{'a', 1, Single}}, 1000), true}
	check(t, "1000", great.Resize(1000), great)
	check(t, "1001", great.Resize(1001), great)
	check(t, "the greatest", great.Resize(math.MaxInt), great)
	check(t, "999", great.Resize(999), Row{Cells: great.Cells[:999]})
	greater := Row{slices.Repeat([]Cell{{'a', 1, Single}}, 1001), true}
	check(t, "of 1001", greater.Resize(1001), Row{Cells: great.Cells})
	check(t, "of 1001 none", greater.Resize(0), Row{})
}

// P9.2: what is mended, from the left, by each call but Resize to as many cells.
func TestMend(t *testing.T) {
	for _, c := range []struct{ r, want string }{
		{"中1L", "_1"}, {"中1R", "_1"}, {"_1F", "_1F"}, {"a1L", "_1"}, {"a1F", "a1F"},
		{"中1L 中1R", "中1L 中1R"}, {"中1R 中2L", "_1 _2"}, {"中1L 中2L", "_1 _2"}, {"中1R 中2R", "_1 _2"},
		{"中1L 中2R 中3R", "中1L 中2R _3"}, {"中1L 中2L 中3R", "_1 中2L 中3R"}, {"中1L 中2R 中3L", "中1L 中2R _3"},
		{"中1L 中1R 中2R 中3R", "中1L 中1R _2 _3"}, {"中1L a0 中1R", "_1 a0 _1"}, {"中1L _0 中1R +", "_1 _0 _1"},
		{"_1F _2F", "_1 _2F"}, {"_1F a0", "_1 a0"}, {"中1L _1F", "_1 _1F"}, {"_1F 中1R", "_1 _1"}, {"中1L _2F 中1R", "_1 _2 _1"},
		{"中1L あ2R", "中1L あ2R"}, {"x14 中1R", "x14 _1"}, {"中1L x14", "_1 x14"}, {"x1-1 y199", "x1-1 y199"},
	} {
		r, want := of(c.r), of(c.want)
		check(t, c.r+" put", r.Put(-1, 'x', 0), want)
		check(t, c.r+" erased", r.Erase(1, 1, 0), want)
		check(t, c.r+" inserted", r.Insert(0, 0, 0), want)
		check(t, c.r+" deleted", r.Delete(0, 0, 0), want)
		if more := append(slices.Clone(want.Cells), Cell{' ', 0, Single}); want.Cells[len(want.Cells)-1].Part != Filler {
			check(t, c.r+" resized", r.Resize(len(more)), Row{Cells: more})
		}
	}
}

// P9.1: each call, of all rows of up to three cells and many of four, at each place, within and outside.
func TestEachRow(t *testing.T) {
	places := []int{math.MinInt, -2, -1, 0, 1, 2, 3, 4, 5, math.MaxInt}
	for _, r := range every() {
		was := Row{slices.Clone(r.Cells), r.Wrapped}
		for _, a := range places {
			for _, x := range []rune{'q', '語', mark} {
				checkOne(t, r, "put", r.Put(a, x, 8), plainPut(r, a, x, 8))
			}
			for _, b := range places {
				checkOne(t, r, "erased", r.Erase(a, b, 8), plainErase(r, a, b, 8))
				checkOne(t, r, "inserted", r.Insert(a, b, 8), plainInsert(r, a, b, 8))
				checkOne(t, r, "deleted", r.Delete(a, b, 8), plainDelete(r, a, b, 8))
			}
			if a != math.MaxInt {
				checkOne(t, r, "resized", r.Resize(a), plainResize(r, a))
			}
		}
		checkOne(t, r, "filled", r.Fill(8), plainFill(r, 8))
		if got, want := r.Glyphs(), plainGlyphs(r); !slices.Equal(got, want) {
			t.Fatalf("%#v: %#v, want %#v", r, got, want)
		}
		checkOne(t, r, "asked", r, was)
	}
}

func checkOne(t *testing.T, r Row, what string, got, want Row) {
	t.Helper()
	if !slices.Equal(got.Cells, want.Cells) || got.Wrapped != want.Wrapped {
		t.Fatalf("%#v %s: %#v, want %#v", r, what, got, want)
	}
}

// whole: each Right has its Left, each Left its Right, and no Filler stands but at the end.
func whole(r Row) bool {
	for i, c := range r.Cells {
		last := i == len(r.Cells)-1
		switch {
		case c.Part == Left && (last || r.Cells[i+1].Part != Right), c.Part == Right && (i == 0 || r.Cells[i-1].Part != Left), c.Part == Filler && !last:
			return false
		}
	}
	return true
}

// P9.2: behind any calls, one behind the other, a row is whole, as many cells wide as it was (but of Resize), and what the second reading says.
func TestWhole(t *testing.T) {
	random := rand.New(rand.NewSource(19))
	runes := []rune{'a', 'b', cjk, kana, '語', ' ', mark, -1, 0x10ffff}
	for range 2000 {
		r := Blank(random.Intn(12), random.Intn(3))
		for range 40 {
			w := len(r.Cells)
			a, b, style := random.Intn(w+4)-2, random.Intn(w+4)-2, random.Intn(3)
			var want Row
			was := r
			switch x := runes[random.Intn(len(runes))]; random.Intn(10) {
			default:
				r, want = r.Put(a, x, style), plainPut(r, a, x, style)
			case 0:
				r, want = r.Erase(a, b, style), plainErase(r, a, b, style)
			case 1:
				r, want = r.Insert(a, b, style), plainInsert(r, a, b, style)
			case 2:
				r, want = r.Delete(a, b, style), plainDelete(r, a, b, style)
			case 3:
				r, want = r.Fill(style), plainFill(r, style)
			case 4:
				w = random.Intn(14)
				r, want = r.Resize(w), plainResize(r, w)
			}
			checkOne(t, was, "behind calls", r, want)
			if !whole(r) || len(r.Cells) != w {
				t.Fatalf("%#v: %#v", was, r)
			}
		}
	}
}

func TestGlyphs(t *testing.T) {
	for _, c := range []struct {
		r    string
		want []Glyph
	}{
		{"", nil}, {"+", nil}, {"_0 _0", nil}, {"a1 b2", []Glyph{{'a', 1}, {'b', 2}}}, {"a1 b2 +", []Glyph{{'a', 1}, {'b', 2}}},
		{"中1L 中1R a0", []Glyph{{cjk, 1}, {'a', 0}}}, {"a0 _0 b0 _0 _0", []Glyph{{'a', 0}, {' ', 0}, {'b', 0}}}, {"_0 a0", []Glyph{{' ', 0}, {'a', 0}}},
		{"a0 _0 _0 +", []Glyph{{'a', 0}, {' ', 0}, {' ', 0}}}, {"_0 +", []Glyph{{' ', 0}}},
		{"a0 _1", []Glyph{{'a', 0}, {' ', 1}}}, {"a0 _0 _1 _0", []Glyph{{'a', 0}, {' ', 0}, {' ', 1}}}, {"_1 _0", []Glyph{{' ', 1}}},
		{"a0 _3F +", []Glyph{{'a', 0}}}, {"a0 _3F", []Glyph{{'a', 0}}}, {"a0 _0 _3F +", []Glyph{{'a', 0}, {' ', 0}}},
		{"_0F +", nil}, {"中1L 中1R _0", []Glyph{{cjk, 1}}}, {"中1R a0L", []Glyph{{'a', 0}}}, {"a14 b1-1 c1", []Glyph{{'c', 1}}},
		// A blank is a Single: half a rune that shows a space is none.
		{"a0 _0L _0R _0", []Glyph{{'a', 0}, {' ', 0}}}, {"a0 _04", []Glyph{{'a', 0}}},
	} {
		if got := of(c.r).Glyphs(); !slices.Equal(got, c.want) {
			t.Errorf("%s: %#v", c.r, got)
		}
	}
	odd := Row{Cells: []Cell{{math.MinInt32, math.MinInt, Single}, {math.MaxInt32, math.MaxInt, Left}, {' ', 1 << 32, Single}}}
	if got := odd.Glyphs(); !slices.Equal(got, []Glyph{{math.MinInt32, math.MinInt}, {math.MaxInt32, math.MaxInt}, {' ', 1 << 32}}) {
		t.Errorf("%#v", got)
	}
}

// Blanks are left out at the row's end alone: ahead of a last cell that is none of them they stay, in a row that goes on and in one that doesn't.
func TestGlyphsAheadOfTheEnd(t *testing.T) {
	for _, last := range []string{"_0F", "_3F", "a0F", "_0R", "中1R", "_04", "_0-1", "a2100"} {
		for n := range 5 {
			for _, on := range []string{"", " +"} {
				blanks := slices.Repeat([]Glyph{{' ', 0}}, n)
				for r, want := range map[string][]Glyph{strings.Repeat("_0 ", n) + last: blanks, "a1 " + strings.Repeat("_0 ", n) + last: append([]Glyph{{'a', 1}}, blanks...)} {
					if got := of(r + on).Glyphs(); !slices.Equal(got, want) {
						t.Errorf("%s: %#v", r+on, got)
					}
				}
			}
		}
	}
	// Blanks behind that cell are at the end again.
	if got := of("_0 _0F _0 _0").Glyphs(); !slices.Equal(got, []Glyph{{' ', 0}}) {
		t.Errorf("%#v", got)
	}
	// As calls make such a row: it was filled, and then nothing was put.
	for n := 1; n < 5; n++ {
		r := Blank(n+1, 0).Fill(0).Put(0, 0, 0)
		if got := r.Glyphs(); r.Wrapped || !slices.Equal(got, slices.Repeat([]Glyph{{' ', 0}}, n)) {
			t.Errorf("%d: %#v", n, got)
		}
	}
}

func TestSame(t *testing.T) {
	l := []string{"", "+", "_0", "_0 +", "a0", "b0", "a1", "a0 +", "a0 _0", "a0 a0", "中1L 中1R", "中1L 中2R", "中1L あ1R", "a0F", "a04", "a0-1", "_0 a0"}
	for i, a := range l {
		for k, b := range l {
			if got := of(a).Same(of(b)); got != (i == k) {
				t.Errorf("%s, %s: %v", a, b, got)
			}
		}
	}
	if !(Row{Cells: []Cell{}}).Same(Row{}) || !(Row{}).Same(Row{Cells: []Cell{}}) {
		t.Error("none and none")
	}
}

// calls are all that make a row of one, with arguments with which they do much, and with some that do nothing.
func calls() []func(r Row) Row {
	return []func(r Row) Row{
		func(r Row) Row { return r.Put(1, 'x', 1) }, func(r Row) Row { return r.Put(0, cjk, 1) }, func(r Row) Row { return r.Put(-1, 'x', 1) }, func(r Row) Row { return r.Put(0, mark, 1) },
		func(r Row) Row { return r.Erase(1, 3, 1) }, func(r Row) Row { return r.Erase(0, 0, 1) }, func(r Row) Row { return r.Insert(0, 2, 1) }, func(r Row) Row { return r.Insert(0, 0, 1) },
		func(r Row) Row { return r.Delete(0, 2, 1) }, func(r Row) Row { return r.Delete(0, 0, 1) }, func(r Row) Row { return r.Delete(-1, 2, 1) }, func(r Row) Row { return r.Fill(1) },
		func(r Row) Row { return r.Resize(2) }, func(r Row) Row { return r.Resize(6) }, func(r Row) Row { return r.Resize(4) }, func(r Row) Row { return r.Resize(0) },
	}
}

// No call changes the row that it is asked of, nor what lies behind its end; none shares memory with it, or with what another call answered.
func TestMemory(t *testing.T) {
	room := of("中1L a0 中1R _4F x1 y1 z1").Cells
	for i, call := range calls() {
		l := slices.Clone(room)
		asked := Row{l[:4], true}
		a, b := call(asked), call(asked)
		if !slices.Equal(l, room) || !asked.Wrapped {
			t.Errorf("%d: the row that was asked: %#v", i, l)
		}
		want := slices.Clone(b.Cells)
		clear(a.Cells[:cap(a.Cells)])
		if !slices.Equal(b.Cells, want) || !slices.Equal(l, room) {
			t.Errorf("%d: memory is shared: %#v, %#v", i, b, l)
		}
		for k := range l {
			l[k] = Cell{'!', 77, Single}
		}
		if !slices.Equal(b.Cells, want) {
			t.Errorf("%d: memory is shared with what was asked: %#v", i, b)
		}
	}
	a, b := Blank(3, 1), Blank(3, 1)
	clear(a.Cells)
	check(t, "blanks", b, of("_1 _1 _1"))
	r := of("a0 b0 _0")
	g, h := r.Glyphs(), r.Glyphs()
	clear(g)
	if !slices.Equal(h, []Glyph{{'a', 0}, {'b', 0}}) || !r.Same(of("a0 b0 _0")) {
		t.Errorf("%#v, %#v", h, r)
	}
}

// The numbers of what a cell is, and the shape of what is shown in full.
func TestNumbers(t *testing.T) {
	if Single != 0 || Left != 1 || Right != 2 || Filler != 3 {
		t.Errorf("%d %d %d %d", Single, Left, Right, Filler)
	}
	if !reflect.DeepEqual(Row{[]Cell{{'a', 1, 2}}, true}, Row{Cells: []Cell{{Rune: 'a', Style: 1, Part: 2}}, Wrapped: true}) || (Glyph{'a', 1}) != (Glyph{Rune: 'a', Style: 1}) {
		t.Error("the order of the parts")
	}
}
