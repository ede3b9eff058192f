package view

import (
	"fmt"
	"math"
	"slices"
	"strings"
	"testing"

	"tidewrack/api"
	"tidewrack/book"
	"tidewrack/client"
	"tidewrack/delta"
	"tidewrack/flow"
	"tidewrack/gram"
	"tidewrack/parts"
	"tidewrack/row"
	"tidewrack/snap"
	"tidewrack/spans"
)

const end = 1 << 60

// glyphs are those of a text.
func glyphs(text string) []row.Glyph {
	var l []row.Glyph
	for _, r := range text {
		l = append(l, row.Glyph{Rune: r, Style: 2})
	}
	return l
}

// rowOf is a row of w cells, with a text at its head, which has room for it.
func rowOf(w int, text string) row.Row {
	r, at := row.Blank(w, 0), 0
	for _, x := range text {
		r = r.Put(at, x, 2)
		for at++; at < w && r.Cells[at].Part == row.Right; at++ {
		}
	}
	return r
}

// scene is what a client has: how many lines there are, those at hand, what is begun, and the screen.
type scene struct {
	length int
	lines  map[int]string
	begun  string
	w      int
	screen []string
}

// client is one of that scene.
func (s scene) client(t *testing.T) *client.Client {
	t.Helper()
	c := client.New(client.Config{Cache: 1 << 16, Every: 5})
	hear := func(g gram.Gram) {
		t.Helper()
		g.Epoch = 1
		if e := c.Hear(0, g.Pack()); e != api.OK {
			t.Fatalf("Hear of %d %d: %d", g.Kind, g.Nums, e)
		}
	}
	x := snap.Snap{K: 1, W: s.w, H: len(s.screen), Len: s.length, Begun: glyphs(s.begun)}
	for _, text := range s.screen {
		x.Rows = append(x.Rows, rowOf(s.w, text))
	}
	pieces := parts.Split(delta.Diff(snap.Snap{}, x), 8000)
	for i, data := range pieces {
		hear(gram.Gram{Kind: gram.Diff, Nums: []int{1, 1, 0, i, len(pieces)}, Data: data})
	}
	for i, text := range s.lines {
		c.Want(i, i+1)
		hear(gram.Gram{Kind: gram.Lines, Nums: []int{i, 1}, Data: book.Pack(glyphs(text)...)})
	}
	if !c.Snap().Same(x) {
		t.Fatalf("%v, want %v", c.Snap(), x)
	}
	return c
}

// short is rows in short: of each its kind, its Index and its Part, and its text.
func short(l []Row) string {
	names := map[int]string{Line: "line", Lack: "lack", Begun: "begun", Screen: "screen"}
	var all []string
	for _, r := range l {
		all = append(all, fmt.Sprintf("%s %d.%d %q", names[r.Kind], r.Index, r.Part, flow.Text(r.Glyphs...)))
	}
	return strings.Join(all, ", ")
}

// The chapter's example.
func TestExample(t *testing.T) {
	c := scene{2, map[int]string{0: "a"}, "", 1, []string{"b"}}.client(t)
	if got := Text(Rows(c, 80)...); !slices.Equal(got, []string{"a", "~", "b"}) {
		t.Errorf("%q", got)
	}
}

func TestKinds(t *testing.T) {
	if kinds := []int{Line, Lack, Begun, Screen}; !slices.Equal(kinds, []int{1, 2, 3, 4}) {
		t.Errorf("%d", kinds)
	}
}

// A client that knows nothing has no rows.
func TestNothing(t *testing.T) {
	known := client.New(client.Config{})
	if e := known.Hear(0, gram.Gram{Epoch: 3, Kind: gram.Lines, Nums: []int{0, 0}}.Pack()); e != api.OK {
		t.Fatal(e)
	}
	for _, c := range []*client.Client{client.New(client.Config{}), known} {
		for _, n := range []int{math.MinInt, -1, 0, 1, 2, 80, 1000, math.MaxInt} {
			if l := Rows(c, n); len(l) > 0 {
				t.Errorf("Rows of %d: %s", n, short(l))
			}
			for _, off := range []int{math.MinInt, -1, 0, 1, math.MaxInt} {
				if l, x := At(c, n, n, off), Visible(c, n, n, off); len(l) > 0 || x != (spans.Span{}) {
					t.Errorf("At of %d, %d: %s, %v", n, off, short(l), x)
				}
			}
		}
	}
}

const wide = "\u4e2d"

// Kind, Index, Part and Glyphs of each row.
func TestRows(t *testing.T) {
	for _, x := range []struct {
		what string
		s    scene
		w    int
		want string
	}{
		{"a screen alone", scene{0, nil, "", 3, []string{"abc"}}, 9, `screen 0.0 "abc"`}, {"a screen of blanks", scene{0, nil, "", 3, []string{"", ""}}, 9, `screen 0.0 "", screen 1.0 ""`}, {"several rows, blanks between", scene{0, nil, "", 3, []string{"", "ab", "", "c", ""}}, 9, `screen 0.0 "", screen 1.0 "ab", screen 2.0 "", screen 3.0 "c", screen 4.0 ""`},
		{"a screen that is wider", scene{0, nil, "", 6, []string{"abcdef", wide + wide + wide}}, 2, `screen 0.0 "abcdef", screen 1.0 "` + wide + wide + wide + `"`}, {"blanks at its head", scene{0, nil, "", 5, []string{"  a"}}, 2, `screen 0.0 "  a"`},
		{"a line", scene{1, map[int]string{0: "abcde"}, "", 1, []string{"-"}}, 5, `line 0.0 "abcde", screen 0.0 "-"`}, {"a line that is cut", scene{1, map[int]string{0: "abcde"}, "", 1, []string{"-"}}, 2, `line 0.0 "ab", line 0.1 "cd", line 0.2 "e", screen 0.0 "-"`}, {"a line without glyphs", scene{1, map[int]string{0: ""}, "", 1, []string{"-"}}, 2, `line 0.0 "", screen 0.0 "-"`}, {"lines without glyphs", scene{3, map[int]string{0: "", 1: "abc", 2: ""}, "", 1, []string{"-"}}, 2, `line 0.0 "", line 1.0 "ab", line 1.1 "c", line 2.0 "", screen 0.0 "-"`},
		{"a line with blanks at its end", scene{1, map[int]string{0: "a    "}, "", 1, []string{"-"}}, 2, `line 0.0 "a ", line 0.1 "  ", line 0.2 " ", screen 0.0 "-"`},
		{"a lack", scene{1, nil, "", 1, []string{"-"}}, 5, `lack 0.0 "", screen 0.0 "-"`}, {"lacks", scene{3, nil, "", 1, []string{"-"}}, 5, `lack 0.0 "", lack 1.0 "", lack 2.0 "", screen 0.0 "-"`},
		{"some at hand", scene{5, map[int]string{1: "abc", 3: "de"}, "", 1, []string{"-"}}, 2, `lack 0.0 "", line 1.0 "ab", line 1.1 "c", lack 2.0 "", line 3.0 "de", lack 4.0 "", screen 0.0 "-"`}, {"the first one, and the last one", scene{4, map[int]string{0: "abc", 3: "de"}, "", 1, []string{"-"}}, 2, `line 0.0 "ab", line 0.1 "c", lack 1.0 "", lack 2.0 "", line 3.0 "de", screen 0.0 "-"`}, {"at hand behind the snap's Len", scene{2, map[int]string{1: "b", 2: "c", 5: "d"}, "", 1, []string{"-"}}, 2, `lack 0.0 "", line 1.0 "b", screen 0.0 "-"`},
		{"something begun", scene{0, nil, "abc", 3, []string{"d"}}, 9, `begun 0.0 "abc", screen 0.0 "d"`}, {"something begun, cut", scene{0, nil, "abcde", 3, []string{"d"}}, 2, `begun 0.0 "ab", begun 0.1 "cd", begun 0.2 "e", screen 0.0 "d"`}, {"all of it", scene{3, map[int]string{1: "abc"}, "def", 4, []string{"gh", "ijkl"}}, 2, `lack 0.0 "", line 1.0 "ab", line 1.1 "c", lack 2.0 "", begun 0.0 "de", begun 0.1 "f", screen 0.0 "gh", screen 1.0 "ijkl"`},
		{"wide runes", scene{1, map[int]string{0: "a" + wide + wide + "b"}, wide + "c" + wide, 3, []string{wide + "d"}}, 3, `line 0.0 "a` + wide + `", line 0.1 "` + wide + `b", begun 0.0 "` + wide + `c", begun 0.1 "` + wide + `", screen 0.0 "` + wide + `d"`}, {"wide runes, at the least width", scene{1, map[int]string{0: "a" + wide + "b"}, wide + wide, 4, []string{wide + wide}}, 2, `line 0.0 "a", line 0.1 "` + wide + `", line 0.2 "b", begun 0.0 "` + wide + `", begun 0.1 "` + wide + `", screen 0.0 "` + wide + wide + `"`}, {"runes of no column", scene{1, map[int]string{0: "a\u0301b\u0301\u0301c"}, "", 1, []string{"-"}}, 2, "line 0.0 \"a\u0301b\u0301\u0301\", line 0.1 \"c\", screen 0.0 \"-\""},
	} {
		c := x.s.client(t)
		if got := short(Rows(c, x.w)); got != x.want {
			t.Errorf("%s: %s, want %s", x.what, got, x.want)
		}
	}
}

// Widths below, at and above their bounds.
func TestWidth(t *testing.T) {
	long := strings.Repeat("x", 1024)
	c := scene{1, map[int]string{0: long}, long[:1001], 1, []string{"-"}}.client(t)
	for _, x := range []struct{ w, first, rows int }{
		{2, 2, 512 + 501 + 1}, {1, 2, 512 + 501 + 1}, {0, 2, 512 + 501 + 1}, {-1, 2, 512 + 501 + 1}, {math.MinInt, 2, 512 + 501 + 1}, {3, 3, 342 + 334 + 1}, {999, 999, 2 + 2 + 1}, {1000, 1000, 2 + 2 + 1}, {1001, 1000, 2 + 2 + 1}, {1024, 1000, 2 + 2 + 1}, {math.MaxInt, 1000, 2 + 2 + 1},
	} {
		l := Rows(c, x.w)
		if len(l) != x.rows || len(l[0].Glyphs) != x.first {
			t.Errorf("%d: %d rows, the first one has %d", x.w, len(l), len(l[0].Glyphs))
		}
		if at := At(c, x.w, 1000, 2000); !slices.EqualFunc(at, l[:min(1000, len(l))], same) {
			t.Errorf("%d: At has %d rows", x.w, len(at))
		}
		if got := Visible(c, x.w, 1, 2000); got != (spans.Span{From: 0, To: 1}) {
			t.Errorf("%d: %v is visible", x.w, got)
		}
	}
}

// same: two rows are alike.
func same(a, b Row) bool {
	return a.Kind == b.Kind && a.Index == b.Index && a.Part == b.Part && slices.Equal(a.Glyphs, b.Glyphs)
}

// Of more lines than 4096 only the last ones are seen.
func TestLongHistory(t *testing.T) {
	for _, length := range []int{4095, 4096, 4097, 4100, 9000, end} {
		first := max(length-4096, 0)
		at := map[int]string{first: "first", length - 1: "last", length - 3: "third"}
		if first > 0 {
			at[first-1], at[0] = "ahead", "zero"
		}
		c := scene{length, at, "b", 2, []string{"s"}}.client(t)
		l := Rows(c, 3)
		var want []Row
		for i := first; i < length; i++ {
			text, ok := at[i]
			if !ok {
				want = append(want, Row{Kind: Lack, Index: i})
				continue
			}
			want = append(want, Row{Line, i, 0, glyphs(text[:3])}, Row{Line, i, 1, glyphs(text[3:])})
		}
		want[len(want)-1].Glyphs = glyphs("t")
		want = append(want, Row{Kind: Begun, Glyphs: glyphs("b")}, Row{Kind: Screen, Glyphs: glyphs("s")})
		if !slices.EqualFunc(l, want, same) {
			t.Errorf("%d: %d rows, want %d: %s .. %s", length, len(l), len(want), short(l[:3]), short(l[len(l)-9:]))
		}
		if got := Visible(c, 3, 1000, math.MaxInt); got.From != first || got.To != first+999 {
			t.Errorf("%d: %v are visible at the top", length, got)
		}
		if got := Visible(c, 3, 6, 0); got.From != length-3 || got.To != length {
			t.Errorf("%d: %v are visible at the end", length, got)
		}
	}
}

// whole is a scene with rows of all kinds: 4 of lines, 2 of places, 2 of what is begun, 3 of the screen.
var whole = scene{5, map[int]string{1: "abc", 3: "d", 4: ""}, "efg", 2, []string{"hi", "", "j"}}

// At of each h and off, against the rows in a table.
func TestAt(t *testing.T) {
	c := whole.client(t)
	all := Rows(c, 2)
	if got := short(all); got != `lack 0.0 "", line 1.0 "ab", line 1.1 "c", lack 2.0 "", line 3.0 "d", line 4.0 "", begun 0.0 "ef", begun 0.1 "g", screen 0.0 "hi", screen 1.0 "", screen 2.0 "j"` {
		t.Fatal(got)
	}
	for _, x := range []struct{ h, off, from, to int }{
		{1, 0, 10, 11}, {3, 0, 8, 11}, {11, 0, 0, 11}, {10, 0, 1, 11}, {12, 0, 0, 11}, {999, 0, 0, 11}, {1000, 0, 0, 11}, {1001, 0, 0, 11}, {math.MaxInt, 0, 0, 11},
		{0, 0, 10, 11}, {-1, 0, 10, 11}, {math.MinInt, 0, 10, 11}, {0, 3, 7, 8}, {math.MinInt, 10, 0, 1},
		{3, -1, 8, 11}, {3, math.MinInt, 8, 11}, {3, 1, 7, 10}, {3, 2, 6, 9}, {3, 7, 1, 4}, {3, 8, 0, 3}, {3, 9, 0, 3}, {3, 10, 0, 3}, {3, 11, 0, 3}, {3, 12, 0, 3}, {3, math.MaxInt, 0, 3},
		{1, 9, 1, 2}, {1, 10, 0, 1}, {1, 11, 0, 1}, {1, math.MaxInt, 0, 1}, {11, 1, 0, 11}, {12, 5, 0, 11}, {10, 1, 0, 10}, {10, 2, 0, 10}, {1000, math.MaxInt, 0, 11}, {math.MaxInt, math.MaxInt, 0, 11}, {math.MinInt, math.MaxInt, 0, 1},
	} {
		if got := At(c, 2, x.h, x.off); !slices.EqualFunc(got, all[x.from:x.to], same) {
			t.Errorf("%d, %d: %s", x.h, x.off, short(got))
		}
	}
}

// At has 1000 rows at most, and no more room than rows.
func TestAtMany(t *testing.T) {
	c := scene{3000, nil, "", 1, []string{"-"}}.client(t)
	for _, x := range []struct{ h, off, from, to int }{
		{1000, 0, 2001, 3001}, {1001, 0, 2001, 3001}, {math.MaxInt, 0, 2001, 3001}, {999, 0, 2002, 3001}, {1000, 7, 1994, 2994}, {5000, 2000, 1, 1001}, {5000, 2001, 0, 1000}, {5000, 2002, 0, 1000}, {5000, math.MaxInt, 0, 1000},
	} {
		got := At(c, 5, x.h, x.off)
		if len(got) != x.to-x.from || got[0].Index != x.from || cap(got) != len(got) {
			t.Errorf("%d, %d: %d rows from %d on, room for %d", x.h, x.off, len(got), got[0].Index, cap(got))
		}
	}
}

// Text of each Kind, of runes of one to four bytes, and of such as are none.
func TestText(t *testing.T) {
	mixed := []row.Glyph{{Rune: 'a'}, {Rune: '\u00e4', Style: 647}, {Rune: '\u4e2d'}, {Rune: '\U0001f600'}, {Rune: '~'}}
	none := []row.Glyph{{Rune: -1}, {Rune: 0xd800}, {Rune: 0x110000}, {Rune: 0}}
	got := Text(Row{Kind: Line, Glyphs: mixed}, Row{Kind: Begun, Glyphs: mixed}, Row{Kind: Screen, Glyphs: mixed}, Row{Kind: Lack, Glyphs: mixed}, Row{Kind: Lack}, Row{Kind: Line}, Row{Kind: Begun}, Row{Kind: Screen}, Row{Kind: Line, Glyphs: none}, Row{Kind: 0, Glyphs: mixed}, Row{Kind: 9, Glyphs: mixed}, Row{Kind: -1})
	text := "a\u00e4\u4e2d\U0001f600~"
	if want := []string{text, text, text, "~", "~", "", "", "", "\ufffd\ufffd\ufffd\x00", text, text, ""}; !slices.Equal(got, want) {
		t.Errorf("%q, want %q", got, want)
	}
	if got := Text(); len(got) > 0 {
		t.Errorf("%q", got)
	}
	l := Rows(whole.client(t), 2)
	if got, want := Text(l...), strings.Split("~,ab,c,~,d,,ef,g,hi,,j", ","); !slices.Equal(got, want) {
		t.Errorf("%q, want %q", got, want)
	}
}

// The lines that are seen: none, one, several, one row of a line of several.
func TestVisible(t *testing.T) {
	c := whole.client(t)
	for _, x := range []struct{ h, off, from, to int }{
		{11, 0, 0, 5}, {1000, 0, 0, 5}, {1, 0, 0, 0}, {3, 0, 0, 0}, {5, 0, 0, 0}, {6, 0, 4, 5}, {7, 0, 3, 5}, {8, 0, 2, 5}, {9, 0, 1, 5}, {10, 0, 1, 5},
		{1, 5, 4, 5}, {1, 6, 3, 4}, {1, 7, 2, 3}, {1, 8, 1, 2}, {1, 9, 1, 2}, {1, 10, 0, 1}, {1, 99, 0, 1}, {2, 8, 1, 2}, {2, 7, 1, 3}, {2, 9, 0, 2}, {3, 7, 1, 3}, {2, 4, 4, 5}, {1, 4, 0, 0}, {1, 3, 0, 0}, {4, 99, 0, 3},
		{0, 10, 0, 1}, {math.MinInt, 8, 1, 2}, {math.MaxInt, math.MaxInt, 0, 5}, {3, math.MinInt, 0, 0},
	} {
		if got, want := Visible(c, 2, x.h, x.off), (spans.Span{From: x.from, To: x.to}); got != want {
			t.Errorf("%d, %d: %v, want %v", x.h, x.off, got, want)
		}
	}
	// A line that is the first one of all, alone; and a width at which it has one row.
	one := scene{1, map[int]string{0: "abcd"}, "", 1, []string{"-"}}.client(t)
	for _, x := range []struct{ w, h, off, to int }{{2, 1, 0, 0}, {2, 1, 1, 1}, {2, 1, 2, 1}, {2, 2, 0, 1}, {4, 1, 1, 1}, {4, 2, 0, 1}, {4, 1, 0, 0}} {
		if got, want := Visible(one, x.w, x.h, x.off), (spans.Span{From: 0, To: x.to}); got != want {
			t.Errorf("%v: %v, want %v", x, got, want)
		}
	}
}

// Whoever goes through all rows may stop at any of them.
func TestStop(t *testing.T) {
	c := whole.client(t)
	for n, want := range Rows(c, 2) {
		for r := range all(c, 2) {
			if n--; n < 0 {
				if !same(r, want) {
					t.Errorf("%s, want %s", short([]Row{r}), short([]Row{want}))
				}
				break
			}
		}
	}
}

// What is answered is new memory: what is done with it changes nothing.
func TestMemory(t *testing.T) {
	c := whole.client(t)
	want := short(Rows(c, 2))
	for _, l := range [][]Row{Rows(c, 2), At(c, 2, 5, 3), At(c, 2, 1000, 0)} {
		for i, r := range l {
			was := short(l[i+1:])
			for k := range r.Glyphs {
				r.Glyphs[k] = row.Glyph{Rune: '!'}
			}
			_ = append(r.Glyphs, row.Glyph{Rune: '!'})
			if got := short(l[i+1:]); got != was {
				t.Errorf("%d: %s, was %s", i, got, was)
			}
		}
		if got := short(Rows(c, 2)); got != want {
			t.Errorf("%s, want %s", got, want)
		}
	}
	// To look leaves the lines' ages: the line 0 is the eldest one, and goes first.
	small := client.New(client.Config{Cache: 2, Every: 1})
	hear := func(first int, texts ...string) {
		t.Helper()
		data := ""
		for _, text := range texts {
			data += book.Pack(glyphs(text)...)
		}
		if e := small.Hear(0, gram.Gram{Epoch: 1, Kind: gram.Lines, Nums: []int{first, len(texts)}, Data: data}.Pack()); e != api.OK {
			t.Fatal(e)
		}
	}
	x := snap.Snap{K: 1, W: 1, H: 1, Len: 3, Rows: []row.Row{rowOf(1, "-")}}
	if e := small.Hear(0, gram.Gram{Epoch: 1, Kind: gram.Diff, Nums: []int{1, 1, 0, 0, 1}, Data: delta.Diff(snap.Snap{}, x)}.Pack()); e != api.OK {
		t.Fatal(e)
	}
	small.Want(0, 2)
	hear(1, "b")
	hear(0, "a")
	Rows(small, 2)
	At(small, 2, 2, 1)
	Visible(small, 2, 2, 1)
	small.Want(2, 3)
	hear(2, "c")
	if got := short(Rows(small, 2)); got != `line 0.0 "a", lack 1.0 "", line 2.0 "c", screen 0.0 "-"` {
		t.Error(got)
	}
}
