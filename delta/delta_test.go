package delta

import (
	"math"
	"slices"
	"strings"
	"testing"

	"tidewrack/api"
	"tidewrack/book"
	"tidewrack/row"
	"tidewrack/screen"
	"tidewrack/snap"
)

// some is a snap that may be, each of whose fields has something.
func some() snap.Snap {
	return snap.Snap{
		K: 7, W: 3, H: 2, X: 2, Y: 1, Title: "ab", Len: 300, Chain: 5,
		Rows: []row.Row{
			{Cells: []row.Cell{{Rune: 'x', Style: 1}, {Rune: 0x4e2d, Style: 2, Part: 1}, {Rune: 0x4e2d, Style: 2, Part: 2}}, Wrapped: true},
			{Cells: []row.Cell{{Rune: ' '}, {Rune: ' '}, {Rune: 'y', Style: 647, Part: 3}}},
		},
		Begun: []row.Glyph{{Rune: 'p', Style: 3}, {Rune: 'q', Style: 4}},
	}
}

// someBytes are those that make some out of a blank, part by part, behind the blank's Sum.
var someBytes = []string{
	"\x07", "\x03", "\x02", "\x02", "\x01", "\x02ab", "\xac\x02", "\x05", "\x02p\x03q\x04", "\x02",
	"\x00", "\x01", "\x01x\x01\x00", "\x01\xad\x9c\x01\x02\x01", "\x01\xad\x9c\x01\x02\x02",
	"\x01", "\x00", "\x02\x20\x00\x00", "\x01y\x87\x05\x03",
}

// square is a snap of rows that are all alike.
func square(w, h int, x rune) snap.Snap {
	s := snap.Snap{K: 1, W: w, H: h}
	for range h {
		s.Rows = append(s.Rows, row.Row{Cells: slices.Repeat([]row.Cell{{Rune: x}}, w)})
	}
	return s
}

// The chapter's example.
func TestExample(t *testing.T) {
	b := snap.Of(1, screen.New(1, 1), book.New())
	want := "\x00\x01\x01\x01\x00\x00\x00\x00\x00\x00\x01" + "\x00" + "\x00\x01\x20\x00\x00"
	if got := Diff(snap.Snap{}, b); got != want {
		t.Errorf("%x, want %x", got, want)
	}
	if got, e := Apply(snap.Snap{}, want); e != api.OK || !got.Same(b) {
		t.Errorf("%v, %d", got, e)
	}
}

// pair is two snaps that may be, and the places of rows that differ.
type pair struct {
	what   string
	a, b   snap.Snap
	places []int
}

// pairs are snaps that differ in something, both ways.
func pairs() []pair {
	l := []pair{
		{"alike", some(), some(), nil},
		{"of the empty one", snap.Snap{}, some(), []int{0, 1}},
		{"of the empty one, with lists", snap.Snap{Rows: []row.Row{}, Begun: []row.Glyph{}}, some(), []int{0, 1}},
	}
	field := func(what string, change func(s *snap.Snap), places ...int) {
		b := some()
		change(&b)
		l = append(l, pair{what, some(), b, places}, pair{what + ", back", b, some(), places})
	}
	field("K", func(s *snap.Snap) { s.K = 8 })
	field("K below", func(s *snap.Snap) { s.K = 1 })
	field("the last K", func(s *snap.Snap) { s.K = 1 << 60 })
	field("X", func(s *snap.Snap) { s.X = 0 })
	field("Y", func(s *snap.Snap) { s.Y = 0 })
	field("Title", func(s *snap.Snap) { s.Title = "aB" })
	field("no Title", func(s *snap.Snap) { s.Title = "" })
	field("a long Title", func(s *snap.Snap) { s.Title = strings.Repeat("\x80", 200) })
	field("Len", func(s *snap.Snap) { s.Len = 1 << 60 })
	field("Len 0", func(s *snap.Snap) { s.Len = 0 })
	field("Chain", func(s *snap.Snap) { s.Chain = 1 << 48 })
	field("Chain 0", func(s *snap.Snap) { s.Chain = 0 })
	field("a rune of what is begun", func(s *snap.Snap) { s.Begun[1].Rune = 0x10ffff })
	field("a style of what is begun", func(s *snap.Snap) { s.Begun[0].Style = 647 })
	field("nothing is begun", func(s *snap.Snap) { s.Begun = nil })
	field("much is begun", func(s *snap.Snap) { s.Begun = slices.Repeat([]row.Glyph{{Rune: 'b', Style: 1}}, 1024) })
	field("a Rune", func(s *snap.Snap) { s.Rows[0].Cells[2].Rune++ }, 0)
	field("a Style", func(s *snap.Snap) { s.Rows[1].Cells[0].Style = 5 }, 1)
	field("a Part", func(s *snap.Snap) { s.Rows[1].Cells[2].Part = 0 }, 1)
	field("Wrapped", func(s *snap.Snap) { s.Rows[0].Wrapped = false }, 0)
	field("Wrapped below", func(s *snap.Snap) { s.Rows[1].Wrapped = true }, 1)
	field("Wrapped of all", func(s *snap.Snap) { s.Rows[0].Wrapped, s.Rows[1].Wrapped = false, true }, 0, 1)
	field("all rows", func(s *snap.Snap) { s.Rows = square(3, 2, 'z').Rows }, 0, 1)
	field("rows the other way round", func(s *snap.Snap) { slices.Reverse(s.Rows) }, 0, 1)
	field("all", func(s *snap.Snap) { *s = square(3, 2, ' ') }, 0, 1)
	return append(l, sizes()...)
}

// sizes are pairs of other sizes.
func sizes() []pair {
	more, other := some(), some()
	more.H, more.Rows = 4, append(more.Rows, square(3, 2, 'z').Rows...)
	other.H, other.Rows = 4, append(square(3, 3, 'z').Rows, some().Rows[1])
	many, changed := square(2, 1000, ' '), square(2, 1000, ' ')
	for _, y := range []int{0, 1, 127, 128, 500, 999} {
		changed.Rows[y].Cells[1].Rune = 'c'
	}
	return []pair{
		{"rows more", some(), more, []int{2, 3}}, {"rows less", more, some(), nil},
		{"other rows more", some(), other, []int{0, 1, 2, 3}}, {"other rows less", other, some(), []int{0, 1}},
		{"rows that moved", more, other, []int{0, 1, 3}}, {"rows that moved, back", other, more, []int{0, 1, 3}},
		{"wider", square(2, 3, 'z'), square(3, 3, 'z'), []int{0, 1, 2}}, {"narrower", square(3, 3, 'z'), square(2, 3, 'z'), []int{0, 1, 2}},
		{"wider, rows less", square(2, 3, 'z'), square(3, 1, 'z'), []int{0}}, {"narrower, rows more", square(3, 1, 'z'), square(2, 3, 'z'), []int{0, 1, 2}},
		{"as wide as high", square(1, 3, 'z'), square(3, 1, 'z'), []int{0}},
		{"many rows", many, changed, []int{0, 1, 127, 128, 500, 999}}, {"no rows more", changed, square(2, 1, ' '), []int{0}}, {"many rows more", square(2, 997, ' '), many, []int{997, 998, 999}},
		{"the greatest one", square(1000, 1, 'z'), square(1000, 1000, 'z'), upTo(1, 1000)},
	}
}

// upTo is the numbers from one up to ahead of another one.
func upTo(from, to int) []int {
	var l []int
	for n := from; n < to; n++ {
		l = append(l, n)
	}
	return l
}

// broken are snaps that may not be.
func broken() []snap.Snap {
	var l []snap.Snap
	for _, change := range []func(s *snap.Snap){
		func(s *snap.Snap) { s.K = 0 }, func(s *snap.Snap) { s.K = -1 }, func(s *snap.Snap) { s.K = 1<<60 + 1 }, func(s *snap.Snap) { s.W = 4 }, func(s *snap.Snap) { s.H = 3 }, func(s *snap.Snap) { s.H = math.MinInt },
		func(s *snap.Snap) { s.X = 3 }, func(s *snap.Snap) { s.X = -1 }, func(s *snap.Snap) { s.Y = 2 }, func(s *snap.Snap) { s.Title = strings.Repeat("x", 201) }, func(s *snap.Snap) { s.Len = -1 }, func(s *snap.Snap) { s.Chain = 1<<48 + 1 },
		func(s *snap.Snap) { s.Rows = nil }, func(s *snap.Snap) { s.Rows = s.Rows[:1] }, func(s *snap.Snap) { s.Rows = append(s.Rows, s.Rows[0]) }, func(s *snap.Snap) { s.Rows[1].Cells = nil }, func(s *snap.Snap) { s.Rows[1].Cells[0].Style = 648 }, func(s *snap.Snap) { s.Rows[1].Cells[0].Rune = -1 }, func(s *snap.Snap) { s.Rows[0].Cells[0].Part = 4 },
		func(s *snap.Snap) { s.Begun[0].Style = -1 }, func(s *snap.Snap) { s.Begun = make([]row.Glyph, 1025) }, func(s *snap.Snap) { *s = snap.Snap{K: 1} }, func(s *snap.Snap) { *s = snap.Snap{Title: "t"} }, func(s *snap.Snap) { *s = square(1001, 1, 'a') }, func(s *snap.Snap) { *s = square(1, 1001, 'a') },
	} {
		s := some()
		change(&s)
		l = append(l, s)
	}
	return l
}

func TestDiff(t *testing.T) {
	for _, p := range pairs() {
		s := Diff(p.a, p.b)
		if want := plainDiff(p.a, p.b); s != want || s == "" {
			t.Errorf("%s: %x, want %x", p.what, s, want)
		}
		if got := Changes(p.a, p.b); !slices.Equal(got, p.places) {
			t.Errorf("%s: %d, want %d", p.what, got, p.places)
		}
		if got, e := Apply(p.a, s); e != api.OK || !got.Same(p.b) {
			t.Errorf("%s: %v, %d", p.what, got, e)
		}
		checkApply(t, p.a, s)
	}
	blank := square(1, 1, ' ')
	if got, want := Diff(blank, some()), bytesOf(blank.Sum())+strings.Join(someBytes, ""); got != want {
		t.Errorf("%x, want %x", got, want)
	}
}

// Of what may not be, on either side, and of a b that is the empty one, there are no bytes.
func TestDiffOfNone(t *testing.T) {
	for i, s := range broken() {
		for _, other := range []snap.Snap{some(), {}, s} {
			if got := Diff(s, other); got != "" {
				t.Errorf("%d: of a: %x", i, got)
			}
			if got := Diff(other, s); got != "" {
				t.Errorf("%d: of b: %x", i, got)
			}
		}
	}
	for _, none := range []snap.Snap{{}, {Rows: []row.Row{}}, {Begun: []row.Glyph{}}} {
		if Diff(some(), none) != "" || Diff(snap.Snap{}, none) != "" || Diff(none, snap.Snap{}) != "" {
			t.Error("of a b that is the empty one")
		}
	}
}

// Changes doesn't ask whether snaps may be: it looks at their rows alone.
func TestChanges(t *testing.T) {
	r := func(text string) row.Row {
		out := row.Row{}
		for _, x := range text {
			out.Cells = append(out.Cells, row.Cell{Rune: x})
		}
		return out
	}
	wrapped := row.Row{Wrapped: true}
	for _, c := range []struct {
		a, b []row.Row
		want []int
	}{
		{nil, nil, nil}, {nil, []row.Row{{}, {}}, []int{0, 1}}, {[]row.Row{{}, {}}, nil, nil}, {[]row.Row{{}}, []row.Row{{}, {}}, []int{1}},
		{[]row.Row{r("a"), r("b"), r("c")}, []row.Row{r("a"), r("B"), r("c")}, []int{1}}, {[]row.Row{r("a"), r("b")}, []row.Row{r("b"), r("a"), r("a")}, []int{0, 1, 2}},
		{[]row.Row{{}}, []row.Row{wrapped}, []int{0}}, {[]row.Row{wrapped}, []row.Row{{Cells: []row.Cell{}, Wrapped: true}}, nil}, {[]row.Row{r("ab")}, []row.Row{r("a")}, []int{0}}, {[]row.Row{r("a")}, []row.Row{r("ab")}, []int{0}},
	} {
		a, b := snap.Snap{K: -1, H: 77, Rows: c.a}, snap.Snap{Title: strings.Repeat("x", 300), Rows: c.b}
		if got := Changes(a, b); !slices.Equal(got, c.want) {
			t.Errorf("%v, %v: %d, want %d", c.a, c.b, got, c.want)
		}
	}
	for _, s := range broken() {
		if got := Changes(s, s); got != nil {
			t.Errorf("%v: %d", s, got)
		}
		if got := Changes(snap.Snap{}, s); len(got) != len(s.Rows) {
			t.Errorf("%v: %d", s, got)
		}
	}
}

// refused: that error, and a zero snap beside it.
func refused(t *testing.T, what string, a snap.Snap, s string, want api.Errno) {
	t.Helper()
	got, e := Apply(a, s)
	if e != want || !empty(got) || got.Rows != nil || got.Begun != nil {
		t.Errorf("%s, %x: %v, %d, want %d", what, s[:min(len(s), 60)], got, e, want)
	}
}

// base is what someBytes are upon, and its Sum's bytes.
func base() (snap.Snap, string) {
	a := square(1, 1, ' ')
	return a, bytesOf(a.Sum())
}

// Each part is cut off, is too long a number, is one byte more.
func TestApplyParts(t *testing.T) {
	a, sum := base()
	parts := append([]string{sum}, someBytes...)
	whole := strings.Join(parts, "")
	if got, e := Apply(a, whole); e != api.OK || !got.Same(some()) {
		t.Fatalf("%v, %d", got, e)
	}
	for n := range len(whole) {
		refused(t, "cut off", a, whole[:n], api.ErrEnd)
	}
	ahead := ""
	for k, part := range parts {
		behind := strings.Join(parts[k+1:], "")
		for _, wrong := range []string{"\x80\x00", "\x87\x00", strings.Repeat("\x80", 9), strings.Repeat("\xff", 10), "\x81\x80\x80\x80\x80\x80\x80\x80\x40"} {
			refused(t, "a number that is none", a, ahead+wrong+part+behind, api.ErrForm)
			refused(t, "a number that is none", a, ahead+wrong, api.ErrForm)
		}
		ahead += part
	}
	for _, more := range []string{"\x00", "\x01", "\x80", "\xff", "\x02\x00\x03\x20\x00\x00", whole} {
		refused(t, "bytes are left", a, whole+more, api.ErrForm)
	}
	refused(t, "no bytes", snap.Snap{}, "", api.ErrEnd)
}

// wrong is a part that may not be.
type wrong struct {
	what string
	k    int
	part string
	now  bool // told at once, so ahead of the bytes' end behind it, and of another base
}

var wrongs = []wrong{
	{"K 0", 0, "\x00", false}, {"K above 2^60", 0, bytesOf(1<<60 + 1), false}, {"K 2^62", 0, bytesOf(1 << 62), false},
	{"W 1001", 1, "\xe9\x07", true}, {"H 1001", 2, "\xe9\x07", true}, {"W 2^62", 1, bytesOf(1 << 62), true}, {"H 2^62", 2, bytesOf(1 << 62), true}, {"H 2^32 and 2", 2, bytesOf(1<<32 + 2), true},
	{"X beyond", 3, "\x03", false}, {"X 2^62", 3, bytesOf(1 << 62), false}, {"Y beyond", 4, "\x02", false}, {"Y 2^62", 4, bytesOf(1 << 62), false},
	{"a Title too long", 5, bytesOf(201) + strings.Repeat("x", 201), false}, {"Len above 2^60", 6, bytesOf(1<<60 + 1), false}, {"Chain above 2^48", 7, bytesOf(1<<48 + 1), false},
	{"too much begun", 8, "\x81\x08", true}, {"a rune that is begun", 8, "\x02p\x03\x80\x80\x44\x04", true}, {"a style that is begun", 8, "\x02p\x88\x05q\x04", true},
	{"a place that is H", 10, "\x02", true}, {"a place above H", 10, "\x03", true}, {"a place 2^62", 10, bytesOf(1 << 62), true}, {"a place as the one ahead", 15, "\x00", true}, {"a second place that is H", 15, "\x02", true}, {"a second place above H", 15, "\x80\x01", true},
	{"Wrapped 2", 11, "\x02", true}, {"a run of none", 12, "\x00", true}, {"a run that is too long", 12, "\x04", true}, {"a Rune", 13, "\x01\x80\x80\x44", true}, {"a Style", 13, "\x01\xad\x9c\x01\x88\x05", true}, {"a Part", 13, "\x01\xad\x9c\x01\x02\x04", true},
	{"a run like the one ahead of it", 13, "\x01x\x01\x00", true}, {"Wrapped 2, below", 16, "\x02", true}, {"a last run that is too long", 18, "\x02", true}, {"a last Part", 18, "\x01y\x87\x05\x04", true},
}

// Each part that may not be, and which error is told first.
func TestApplyWrong(t *testing.T) {
	a, sum := base()
	for _, c := range wrongs {
		ahead, behind := strings.Join(someBytes[:c.k], "")+c.part, strings.Join(someBytes[c.k+1:], "")
		late, end := api.ErrBase, api.ErrEnd
		if c.now {
			late, end = api.ErrForm, api.ErrForm
		}
		refused(t, c.what, a, sum+ahead+behind, api.ErrForm)
		refused(t, c.what+", upon another one", square(1, 1, 'b'), sum+ahead+behind, late)
		refused(t, c.what+", and another base", a, "\x07"+ahead+behind, late)
		refused(t, c.what+", and bytes", a, "\x07"+ahead+behind+"\x00", api.ErrForm)
		refused(t, c.what+", and too long a number", a, sum+ahead+strings.Repeat("\xff", 9), api.ErrForm)
		if behind != "" {
			refused(t, c.what+", and the end", a, sum+ahead, end)
		}
	}
}

// rowsBytes are the bytes of a change to a snap of 2 columns and h rows, of so many rows as it says, each at its place.
func rowsBytes(a snap.Snap, h, count int, rows ...string) string {
	return bytesOf(a.Sum(), 3, 2, h, 0, 0, 0, 0, 0, 0, count) + strings.Join(rows, "")
}

// rowBytes is a row of two runes that are alike, at a place.
func rowBytes(place int, x rune) string {
	return bytesOf(place, 0, 2, int(x), 0, 0)
}

// Places of rows, and how many there are.
func TestApplyPlaces(t *testing.T) {
	a := square(2, 3, ' ')
	for _, c := range []struct {
		what, s string
		want    api.Errno
	}{
		{"rising", rowsBytes(a, 3, 2, rowBytes(0, 'b'), rowBytes(2, 'c')), api.OK}, {"the last one", rowsBytes(a, 3, 1, rowBytes(2, 'c')), api.OK}, {"none", rowsBytes(a, 3, 0), api.OK}, {"one more", rowsBytes(a, 4, 1, rowBytes(3, ' ')), api.OK}, {"one less", rowsBytes(a, 2, 0), api.OK},
		{"falling", rowsBytes(a, 3, 2, rowBytes(2, 'b'), rowBytes(0, 'c')), api.ErrForm}, {"falling by one", rowsBytes(a, 3, 2, rowBytes(1, 'b'), rowBytes(0, 'c')), api.ErrForm}, {"twice", rowsBytes(a, 3, 2, rowBytes(1, 'b'), rowBytes(1, 'c')), api.ErrForm}, {"twice, alike", rowsBytes(a, 3, 2, rowBytes(1, 'b'), rowBytes(1, 'b')), api.ErrForm},
		{"falling, at the third", rowsBytes(a, 3, 3, rowBytes(0, 'b'), rowBytes(2, 'b'), rowBytes(1, 'c')), api.ErrForm}, {"falling below the first", rowsBytes(a, 3, 3, rowBytes(1, 'b'), rowBytes(2, 'b'), rowBytes(0, 'c')), api.ErrForm},
		{"beyond", rowsBytes(a, 3, 1, rowBytes(3, 'b')), api.ErrForm}, {"beyond what a has not", rowsBytes(a, 2, 1, rowBytes(2, 'b')), api.ErrForm}, {"of no rows", rowsBytes(a, 0, 1, rowBytes(0, 'b')), api.ErrForm},
		{"more than there are", rowsBytes(a, 3, 2, rowBytes(0, 'b')), api.ErrEnd}, {"less than there are", rowsBytes(a, 3, 1, rowBytes(0, 'b'), rowBytes(1, 'b')), api.ErrForm}, {"none, and there is one", rowsBytes(a, 3, 0, rowBytes(0, 'b')), api.ErrForm},
		{"more than may be", rowsBytes(a, 1, 2, rowBytes(0, 'b')), api.ErrEnd}, {"more than may be, and one", rowsBytes(a, 1, 2, rowBytes(0, 'b'), rowBytes(1, 'b')), api.ErrForm}, {"as many as numbers tell", rowsBytes(a, 3, 1<<62, rowBytes(0, 'b')), api.ErrEnd}, {"as many as numbers tell, of no rows", rowsBytes(a, 0, 1<<62), api.ErrEnd}, {"as many as numbers tell, and one", rowsBytes(a, 0, 1<<62, "\x00"), api.ErrForm},
		{"a place alone", rowsBytes(a, 3, 1, "\x02"), api.ErrEnd}, {"a place beyond alone", rowsBytes(a, 3, 1, "\x03"), api.ErrForm}, {"a place again alone", rowsBytes(a, 3, 2, rowBytes(1, 'b'), "\x01"), api.ErrForm}, {"a place below alone", rowsBytes(a, 3, 2, rowBytes(1, 'b'), "\x00"), api.ErrForm},
	} {
		if e := checkApply(t, a, c.s); e != c.want {
			t.Errorf("%s: %d, want %d", c.what, e, c.want)
		}
		if c.want != api.OK {
			refused(t, c.what, a, c.s, c.want)
		}
	}
}

// What comes of bytes that are read whole, upon the right base.
func TestApplyMade(t *testing.T) {
	a := square(2, 3, ' ')
	a.Rows[1] = row.Row{Cells: slices.Repeat([]row.Cell{{Rune: 'm'}}, 2)}
	wrapped := "\x00\x01\x02\x20\x00\x00"
	for _, c := range []struct {
		what, s string
		want    api.Errno
	}{
		{"a row that a has", rowsBytes(a, 3, 1, rowBytes(0, ' ')), api.ErrForm}, {"a row that a has, the last one", rowsBytes(a, 3, 2, rowBytes(1, 'b'), rowBytes(2, ' ')), api.ErrForm}, {"a row that a has elsewhere", rowsBytes(a, 3, 1, rowBytes(0, 'm')), api.OK}, {"a row that a has, of the first one", rowsBytes(a, 3, 2, rowBytes(1, 'm'), rowBytes(2, 'b')), api.ErrForm},
		{"Wrapped alone", rowsBytes(a, 3, 1, wrapped), api.OK}, {"a row that a hasn't", rowsBytes(a, 4, 0), api.ErrForm}, {"two rows that a hasn't", rowsBytes(a, 5, 1, rowBytes(4, 'b')), api.ErrForm}, {"two rows that a hadn't", rowsBytes(a, 5, 2, rowBytes(3, 'b'), rowBytes(4, 'b')), api.OK},
	} {
		if e := checkApply(t, a, c.s); e != c.want {
			t.Errorf("%s: %d, want %d", c.what, e, c.want)
		}
		if c.want != api.OK {
			refused(t, c.what, a, c.s, c.want)
			refused(t, c.what+", upon another one", square(2, 3, ' '), c.s, api.ErrBase)
		}
	}
	// Rows of another width are those that a hasn't.
	wide := square(3, 3, ' ')
	refused(t, "no row of that width", wide, rowsBytes(wide, 3, 0), api.ErrForm)
	refused(t, "not all rows of that width", wide, rowsBytes(wide, 3, 2, rowBytes(0, 'b'), rowBytes(2, 'b')), api.ErrForm)
	if got, e := Apply(wide, rowsBytes(wide, 2, 2, rowBytes(0, ' '), rowBytes(1, 'b'))); e != api.OK || got.W != 2 || len(got.Rows) != 2 {
		t.Errorf("all rows of that width: %v, %d", got, e)
	}
	for _, b := range []snap.Snap{{}, a} {
		refused(t, "the empty one", b, bytesOf(b.Sum())+strings.Repeat("\x00", 10), api.ErrForm)
		refused(t, "K alone", b, bytesOf(b.Sum(), 1)+strings.Repeat("\x00", 9), api.ErrForm)
		refused(t, "no rows", b, bytesOf(b.Sum(), 1, 2, 0, 0, 0, 0, 0, 0, 0, 0), api.ErrForm)
		refused(t, "no columns", b, bytesOf(b.Sum(), 1, 0, 1, 0, 0, 0, 0, 0, 0, 1, 0, 0), api.ErrForm)
	}
	refused(t, "the empty one, upon another one", a, strings.Repeat("\x00", 11), api.ErrBase)
}

// Another base: numbers near the Sum, and beyond those that are one; what is wrong with the parts is told ahead of it, what is wrong with the snap that is made isn't.
func TestApplyBase(t *testing.T) {
	a := some()
	right := bytesOf(a.Sum())
	tail := strings.TrimPrefix(Diff(a, a), right)
	checkApply(t, a, right+tail)
	for _, n := range []int{0, 1, a.Sum() - 1, a.Sum() + 1, a.Sum() + 1<<32, a.Sum() ^ 1<<31, 1<<32 - 1, 1 << 62} {
		refused(t, "another base", a, bytesOf(n)+tail, api.ErrBase)
		refused(t, "another base, and bytes", a, bytesOf(n)+tail+"\x00", api.ErrForm)
		refused(t, "another base, and the end", a, (bytesOf(n) + tail)[:len(bytesOf(n)+tail)-1], api.ErrEnd)
	}
	for i, s := range broken() {
		refused(t, "upon what may not be", s, right+tail, api.ErrForm)
		refused(t, "upon what may not be, no bytes", s, "", api.ErrForm)
		refused(t, "upon what may not be, and the end", s, "\x80", api.ErrForm)
		if s.Sum() != 0 {
			t.Errorf("%d may be", i)
		}
		refused(t, "upon what may not be, with its Sum", s, Diff(snap.Snap{}, some()), api.ErrForm)
	}
	// Each pair's bytes, upon all snaps but its own.
	all := pairs()
	for _, p := range all[:40] {
		for _, q := range all[:40] {
			if q.a.Sum() != p.a.Sum() {
				refused(t, p.what+" upon that of "+q.what, q.a, Diff(p.a, p.b), api.ErrBase)
			}
		}
	}
}

// spoil changes all lists of a snap, their spare room too.
func spoil(s snap.Snap) {
	l := s.Rows[:cap(s.Rows)]
	for i := range l {
		cells := l[i].Cells[:cap(l[i].Cells)]
		for k := range cells {
			cells[k] = row.Cell{Rune: '!', Style: 77, Part: 1}
		}
		l[i] = row.Row{Wrapped: true}
	}
	g := s.Begun[:cap(s.Begun)]
	for i := range g {
		g[i] = row.Glyph{Rune: '!', Style: 77}
	}
}

// roomy is a snap like that one, whose lists have spare room, which is clean.
func roomy(s snap.Snap) snap.Snap {
	s = s.Clone()
	s.Rows = append(make([]row.Row, 0, len(s.Rows)+3), s.Rows...)
	for i := range s.Rows {
		s.Rows[i].Cells = append(make([]row.Cell, 0, len(s.Rows[i].Cells)+3), s.Rows[i].Cells...)
	}
	s.Begun = append(make([]row.Glyph, 0, len(s.Begun)+3), s.Begun...)
	return s
}

// clean: nothing is written in the spare room of a snap's lists.
func clean(s snap.Snap) bool {
	for _, r := range s.Rows[len(s.Rows):cap(s.Rows)] {
		if r.Cells != nil || r.Wrapped {
			return false
		}
	}
	for _, r := range s.Rows {
		for _, c := range r.Cells[len(r.Cells):cap(r.Cells)] {
			if c != (row.Cell{}) {
				return false
			}
		}
	}
	for _, g := range s.Begun[len(s.Begun):cap(s.Begun)] {
		if g != (row.Glyph{}) {
			return false
		}
	}
	return true
}

// What is handed in isn't changed, its spare room neither, and what is answered shares nothing with it, nor with another answer.
func TestSharesNothing(t *testing.T) {
	for _, p := range pairs() {
		a, b := roomy(p.a), roomy(p.b)
		s, places := Diff(a, b), Changes(a, b)
		one, _ := Apply(a, s)
		two, _ := Apply(a, s)
		if !a.Same(p.a) || !b.Same(p.b) || !clean(a) || !clean(b) {
			t.Errorf("%s: what is handed in is changed", p.what)
		}
		spoil(one)
		if !a.Same(p.a) || !two.Same(p.b) {
			t.Errorf("%s: what is made shares something", p.what)
		}
		spoil(a)
		spoil(b)
		if !two.Same(p.b) || !slices.Equal(places, p.places) || s != Diff(p.a, p.b) {
			t.Errorf("%s: something of what was handed in is kept", p.what)
		}
		clear(places[:cap(places)])
		if got := Changes(p.a, p.b); !slices.Equal(got, p.places) {
			t.Errorf("%s: %d, want %d", p.what, got, p.places)
		}
	}
	// No two rows of what is made share any, those that stayed neither.
	a := square(2, 3, ' ')
	got, _ := Apply(a, rowsBytes(a, 5, 3, rowBytes(1, 'b'), rowBytes(3, 'b'), rowBytes(4, 'b')))
	for y := range got.Rows {
		spoil(snap.Snap{Rows: []row.Row{{Cells: got.Rows[y].Cells}}})
		for below := y + 1; below < 5; below++ {
			if got.Rows[below].Cells[0].Rune == '!' {
				t.Errorf("the rows %d and %d share memory", y, below)
			}
		}
	}
}
