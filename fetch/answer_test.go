package fetch

import (
	"fmt"
	"math"
	"slices"
	"strings"
	"testing"

	"tidewrack/api"
	"tidewrack/book"
	"tidewrack/gram"
	"tidewrack/num"
	"tidewrack/row"
	"tidewrack/spans"
)

// sized is a line of that many bytes (1, or 3 and more): as few glyphs as have as many. The i-th line has other glyphs than the one ahead of it.
func sized(t *testing.T, i, size int) []row.Glyph {
	t.Helper()
	head := func(n int) int { return num.Size(n) }
	n := 0
	for head(n)+5*n < size {
		n++
	}
	l := make([]row.Glyph, n)
	more := size - head(n) - 2*n
	for k := range l {
		l[k] = row.Glyph{Rune: rune('a' + i%26)}
		if more > 0 {
			l[k].Rune, more = rune(200+i%26), more-1
		}
		if more > 0 {
			l[k].Rune, more = rune(20000+i%26), more-1
		}
		if more > 0 {
			l[k].Style, more = 128+i%26, more-1
		}
	}
	if got := len(book.Pack(l...)); got != size {
		t.Fatalf("a line of %d bytes, not of %d", got, size)
	}
	return l
}

// lines is lines by their numbers, and which of them were asked for.
type lines struct {
	there map[int][]row.Glyph
	asked []int
	busy  bool
}

func (x *lines) line(i int) ([]row.Glyph, bool) {
	if x.busy {
		panic("line is asked for, while it is asked for")
	}
	x.busy = true
	x.asked = append(x.asked, i)
	l, ok := x.there[i]
	x.busy = false
	return slices.Clone(l), ok
}

// from is lines of these sizes, the first one of which has that number (size 0: there is no such line).
func from(t *testing.T, first int, sizes ...int) *lines {
	t.Helper()
	x := &lines{there: map[int][]row.Glyph{}}
	for i, size := range sizes {
		if size > 0 {
			x.there[first+i] = sized(t, i, size)
		}
	}
	return x
}

// same is so many numbers that are alike.
func same(count, n int) []int {
	return slices.Repeat([]int{n}, count)
}

// answered is datagrams in short, if they are as they ought to be: of each the first line's number, and how many.
func answered(t *testing.T, x *lines, epoch int, l []gram.Gram) string {
	t.Helper()
	var all []string
	for _, g := range l {
		if g.Epoch != epoch || g.Kind != gram.Lines || len(g.Nums) != 2 {
			t.Fatalf("epoch %d, kind %d, %d", g.Epoch, g.Kind, g.Nums)
		}
		data := ""
		for i := range g.Nums[1] {
			data += book.Pack(x.there[g.Nums[0]+i]...)
		}
		if g.Data != data {
			t.Errorf("%d: %d bytes, want %d", g.Nums, len(g.Data), len(data))
		}
		all = append(all, fmt.Sprint(g.Nums[0], "+", g.Nums[1]))
	}
	if all == nil {
		return "none"
	}
	return strings.Join(all, " ")
}

// some is datagrams in short, of lines of one datagram each.
func some(first, count int) string {
	var all []string
	for i := range count {
		all = append(all, fmt.Sprint(first+i, "+1"))
	}
	return strings.Join(all, " ")
}

func TestAnswer(t *testing.T) {
	ten := from(t, 0, 5, 6, 7, 8, 1, 10, 11, 12, 13, 14)
	holes := from(t, 0, 5, 6, 0, 8, 9, 0, 0, 12)
	big := from(t, 0, same(20, 3000)...)
	for _, c := range []struct {
		what string
		x    *lines
		l    []spans.Span
		want string
	}{
		{"no span", ten, nil, "none"},
		{"one", ten, list(2, 5), "2+3"},
		{"one line", ten, list(0, 1), "0+1"},
		{"all", ten, list(0, 10), "0+10"},
		{"several", ten, list(0, 2, 4, 7), "0+2 4+3"},
		{"several that fall", ten, list(8, 10, 4, 5, 0, 2), "8+2 4+1 0+2"},
		{"several that touch", ten, list(0, 2, 2, 4), "0+2 2+2"},
		{"several that lap over", ten, list(0, 5, 3, 7, 3, 7), "0+5 3+4 3+4"},
		{"empty", ten, list(3, 3), "none"},
		{"turned round", ten, list(5, 2), "none"},
		{"turned round, as far as can be", ten, list(math.MaxInt, math.MinInt), "none"},
		{"empty ones among others", ten, list(0, 0, 1, 2, 5, 3, 4, 5, 9, 9), "1+1 4+1"},
		{"up to behind the last one", ten, list(8, 15), "8+2"},
		{"far behind the last one", ten, list(0, math.MaxInt), "0+10"},
		{"from behind the last one", ten, list(10, 15), "none"},
		{"from behind the last one, and others", ten, list(10, 15, 3, 4, 12, 13), "3+1"},
		{"below 0", ten, list(-5, -2), "none"},
		{"from below 0: there is no such line", ten, list(-5, 4), "none"},
		{"from far below 0", ten, list(math.MinInt, math.MaxInt, 2, 3), "2+1"},
		{"beyond 2^60", ten, list(1<<60, 1<<60+5, 1<<62, 1<<62+1), "none"},
		{"the greatest numbers", ten, list(math.MaxInt-3, math.MaxInt), "none"},

		{"none at a span's head", holes, list(2, 5), "none"},
		{"none inside", holes, list(0, 8), "0+2"},
		{"none at its end", holes, list(3, 6), "3+2"},
		{"several, as far as there are lines", holes, list(0, 5, 3, 8, 2, 3, 7, 9, 5, 8), "0+2 3+2 7+1"},

		{"without glyphs", from(t, 4, 1), list(4, 5), "4+1"},
		{"several without glyphs", from(t, 4, 1, 1, 1), list(4, 7), "4+3"},
		{"without glyphs, among others", from(t, 4, 1, 5, 1, 1), list(4, 9), "4+4"},

		{"4000 bytes together", from(t, 0, 2000, 2000), list(0, 9), "0+2"},
		{"a byte more", from(t, 0, 2000, 2001), list(0, 9), "0+1 1+1"},
		{"a byte more, and those behind", from(t, 0, 2001, 2000, 2000, 2000, 1), list(0, 9), "0+1 1+2 3+2"},
		{"one of 4000", from(t, 0, 4000), list(0, 9), "0+1"},
		{"one of 4000, and one behind", from(t, 0, 4000, 1), list(0, 9), "0+1 1+1"},
		{"one of 3999, and two behind", from(t, 0, 3999, 1, 1), list(0, 9), "0+2 2+1"},
		{"one of 4001", from(t, 0, 4001), list(0, 9), "0+1"},
		{"one of 4001 among others", from(t, 0, 1, 4001, 1, 1), list(0, 9), "0+1 1+1 2+2"},
		{"the longest line", from(t, 0, 5122, 5122, 5, 5122), list(0, 9), "0+1 1+1 2+1 3+1"},
		{"4000 without glyphs", from(t, 0, same(4000, 1)...), list(0, 5000), "0+4000"},
		{"4001 without glyphs", from(t, 0, same(4001, 1)...), list(0, 5000), "0+4000 4000+1"},
		{"4000 bytes of two spans", from(t, 0, 2000, 2000), list(0, 1, 1, 2), "0+1 1+1"},
		{"two datagrams, then another span", from(t, 0, 2000, 1998, 3, 5, 4000), list(0, 3, 3, 4, 3, 5), "0+2 2+1 3+1 3+1 4+1"},

		{"15 datagrams", big, list(0, 15), some(0, 15)},
		{"16 datagrams", big, list(0, 16), some(0, 16)},
		{"more than 16 of one span", big, list(0, 20), some(0, 16)},
		{"more than 16, and another span", big, list(0, 20, 0, 1), some(0, 16)},
		{"exactly 16, and another span", big, list(0, 16, 0, 1), some(0, 16)},
		{"15, and another span", big, list(0, 15, 0, 1, 7, 8), some(0, 15) + " 0+1"},
		{"15, and one that isn't there, and another span", big, list(0, 15, 20, 30, 3, 3, 7, 8, 9, 10), some(0, 15) + " 7+1"},
		{"more than 16 spans", ten, slices.Repeat(list(1, 3), 40), strings.Repeat("1+2 ", 15) + "1+2"},
		{"more than 16 spans, of some of which there are no lines", ten, slices.Repeat(list(10, 20, 1, 3, 5, 5), 40), strings.Repeat("1+2 ", 15) + "1+2"},
	} {
		if got := answered(t, c.x, 7, Answer(7, c.x.line, c.l...)); got != c.want {
			t.Errorf("%s: %s, want %s", c.what, got, c.want)
		}
	}
}

// The numbers of lines are those that line says that there are, and the epoch is what it is told.
func TestAnswerNumbers(t *testing.T) {
	for _, first := range []int{0, 1, 1<<60 - 1, 1 << 60, 1<<60 + 1, 1 << 62, math.MaxInt - 4} {
		for _, epoch := range []int{1, 2, 1 << 32, 0, -1, 1<<32 + 1, math.MinInt, math.MaxInt} {
			x := from(t, first, 5, 6, 7)
			if got, want := answered(t, x, epoch, Answer(epoch, x.line, list(first, first+3)...)), fmt.Sprint(first, "+3"); got != want {
				t.Errorf("%d: %s, want %s", first, got, want)
			}
			if got, want := answered(t, x, epoch, Answer(epoch, x.line, list(first+1, math.MaxInt)...)), fmt.Sprint(first+1, "+2"); got != want {
				t.Errorf("%d: %s, want %s", first, got, want)
			}
		}
	}
}

// Which lines are asked for: those of a span rising, each once, no further than there are any, nor behind the last datagram.
func TestAnswerAsksForOneAtATime(t *testing.T) {
	for _, c := range []struct {
		x     *lines
		l     []spans.Span
		asked []int
	}{
		{from(t, 0, 5, 5, 5), list(0, 3), []int{0, 1, 2}}, {from(t, 0, 5, 5, 5), list(1, 9), []int{1, 2, 3}}, {from(t, 0, 5, 0, 5), list(0, 3, 2, 3), []int{0, 1, 2}}, {from(t, 0, 5, 5, 5), list(2, 3, 0, 2, 4, 9, 1, 1, 2, 0), []int{2, 0, 1, 4}},
		{from(t, 0, 4000, 3000, 1001, 1, 4001), list(0, 9), []int{0, 1, 2, 3, 4, 5}},
	} {
		Answer(1, c.x.line, c.l...)
		if !slices.Equal(c.x.asked, c.asked) {
			t.Errorf("%v: %d, want %d", c.l, c.x.asked, c.asked)
		}
	}
	x := from(t, 0, same(40, 4000)...)
	if Answer(1, x.line, list(0, 40, 0, 40)...); len(x.asked) > 17 || x.asked[16-1] != 15 {
		t.Errorf("%d", x.asked)
	}
	// Lines without an end end.
	n := 0
	endless := func(i int) ([]row.Glyph, bool) { n++; return nil, true }
	l := Answer(1, endless, list(math.MinInt, math.MaxInt)...)
	if len(l) != 16 || n > 16*4000+1 || l[15].Num(0) != math.MinInt+15*4000 || l[15].Num(1) != 4000 || len(l[15].Data) != 4000 {
		t.Errorf("%d datagrams, %d lines", len(l), n)
	}
}

// What line answers isn't changed, spans aren't, and no two datagrams share anything.
func TestAnswerSharesNothing(t *testing.T) {
	kept := [][]row.Glyph{sized(t, 0, 50), sized(t, 1, 3990), sized(t, 2, 9)}
	line := func(i int) ([]row.Glyph, bool) {
		if i >= len(kept) {
			return nil, false
		}
		return kept[i][:len(kept[i])-1], true
	}
	was := []int{len(book.Pack(kept[0]...)), len(book.Pack(kept[1]...)), len(book.Pack(kept[2]...))}
	l, wasSpans := list(0, 9, 5, 5), list(0, 9, 5, 5)
	grams := Answer(3, line, l...)
	if !slices.Equal(l, wasSpans) {
		t.Errorf("%v", l)
	}
	for i, g := range kept {
		if len(book.Pack(g...)) != was[i] || !slices.Equal(g, sized(t, i, was[i])) {
			t.Errorf("the line %d", i)
		}
	}
	if len(grams) != 2 {
		t.Fatalf("%d datagrams", len(grams))
	}
	nums := append(grams[0].Nums, 9)
	nums[0], nums[1] = -7, -7
	if grams[1].Num(0) != 1 || grams[1].Num(1) != 2 {
		t.Errorf("%d", grams[1].Nums)
	}
}

// bytes is numbers as bytes.
func bytes(l ...int) string {
	var out num.Out
	return out.Num(l...).Bytes()
}

func TestRead(t *testing.T) {
	const ab, none = "\x02a\x05b\x06", "\x00"
	a, b := row.Glyph{Rune: 'a', Style: 5}, row.Glyph{Rune: 'b', Style: 6}
	two := []row.Glyph{a, b}
	for _, c := range []struct {
		what  string
		kind  int
		nums  []int
		data  string
		first int
		lines [][]row.Glyph
		e     api.Errno
	}{
		{what: "one", kind: gram.Lines, nums: []int{5, 1}, data: ab, first: 5, lines: [][]row.Glyph{two}},
		{what: "several", kind: gram.Lines, nums: []int{5, 3}, data: ab + none + ab, first: 5, lines: [][]row.Glyph{two, nil, two}},
		{what: "without glyphs", kind: gram.Lines, nums: []int{0, 2}, data: none + none, first: 0, lines: [][]row.Glyph{nil, nil}},
		{what: "none", kind: gram.Lines, nums: []int{5, 0}, first: 5},
		{what: "a notice", kind: gram.Lines, nums: []int{0, 0}},

		{what: "Diff", kind: gram.Diff, nums: []int{5, 1}, data: ab, e: api.ErrKind},
		{what: "Ack", kind: gram.Ack, nums: []int{5, 1}, data: ab, e: api.ErrKind},
		{what: "Ask", kind: gram.Ask, nums: []int{5, 1}, data: ab, e: api.ErrKind},
		{what: "no kind", kind: 0, nums: []int{5, 1}, data: ab, e: api.ErrKind},
		{what: "a kind that there isn't", kind: 5, nums: []int{5, 1}, data: ab, e: api.ErrKind},
		{what: "another kind, with all else wrong", kind: gram.Ask, nums: []int{5}, data: "\x02a", e: api.ErrKind},
		{what: "no Nums", kind: gram.Lines, e: api.ErrForm},
		{what: "one Num", kind: gram.Lines, nums: []int{1}, data: ab, e: api.ErrForm},
		{what: "three Nums", kind: gram.Lines, nums: []int{5, 1, 0}, data: ab, e: api.ErrForm},
		{what: "four Nums", kind: gram.Lines, nums: []int{5, 1, 6, 0}, data: ab, e: api.ErrForm},
		{what: "no Nums, and a line cut off", kind: gram.Lines, data: "\x02a", e: api.ErrForm},

		{what: "a line cut off", kind: gram.Lines, nums: []int{5, 1}, data: "\x02a\x05b", e: api.ErrEnd},
		{what: "a line cut off behind another one", kind: gram.Lines, nums: []int{5, 2}, data: ab + "\x01", e: api.ErrEnd},
		{what: "a count cut off", kind: gram.Lines, nums: []int{5, 1}, data: "\x80", e: api.ErrEnd},
		{what: "a number with an end of 0", kind: gram.Lines, nums: []int{5, 1}, data: "\x81\x00a\x05", e: api.ErrForm},
		{what: "a rune too great", kind: gram.Lines, nums: []int{5, 1}, data: bytes(1, 1114112, 5), e: api.ErrForm},
		{what: "the greatest rune, and style", kind: gram.Lines, nums: []int{5, 1}, data: bytes(1, 1114111, 647), first: 5, lines: [][]row.Glyph{{{Rune: 1114111, Style: 647}}}},
		{what: "a style too great", kind: gram.Lines, nums: []int{5, 1}, data: bytes(1, 5, 648), e: api.ErrForm},
		{what: "a line too long, and cut off", kind: gram.Lines, nums: []int{5, 1}, data: bytes(1025, 1), e: api.ErrForm},
		{what: "a wrong line, and bytes left, and fewer", kind: gram.Lines, nums: []int{5, 7}, data: ab + bytes(1, 5, 648) + "\x01", e: api.ErrForm},
		{what: "a wrong line, then one cut off", kind: gram.Lines, nums: []int{5, 2}, data: bytes(1, 5, 648) + "\x01", e: api.ErrForm},
		{what: "a line cut off, and fewer", kind: gram.Lines, nums: []int{5, 9}, data: "\x01", e: api.ErrEnd},
		{what: "one cut off behind as many", kind: gram.Lines, nums: []int{5, 1}, data: ab + "\x01", e: api.ErrForm},

		{what: "a byte left", kind: gram.Lines, nums: []int{5, 1}, data: ab + none, e: api.ErrForm},
		{what: "a line left", kind: gram.Lines, nums: []int{5, 1}, data: ab + ab, e: api.ErrForm},
		{what: "a line left, of none", kind: gram.Lines, nums: []int{5, 0}, data: ab, e: api.ErrForm},
		{what: "a byte left, of none", kind: gram.Lines, nums: []int{0, 0}, data: none, e: api.ErrForm},
		{what: "bytes that are no line, of none", kind: gram.Lines, nums: []int{0, 0}, data: "\x80", e: api.ErrForm},
		{what: "fewer", kind: gram.Lines, nums: []int{5, 2}, data: ab, e: api.ErrForm},
		{what: "fewer: none", kind: gram.Lines, nums: []int{5, 1}, e: api.ErrForm},
		{what: "far fewer", kind: gram.Lines, nums: []int{5, math.MaxInt}, data: ab + none, e: api.ErrForm},
		{what: "fewer than 0", kind: gram.Lines, nums: []int{5, -1}, e: api.ErrForm},
		{what: "far fewer than 0", kind: gram.Lines, nums: []int{5, math.MinInt}, data: ab, e: api.ErrForm},

		{what: "numbers that no line has", kind: gram.Lines, nums: []int{1 << 62, 1}, data: ab, first: 1 << 62, lines: [][]row.Glyph{two}},
		{what: "the number 2^60", kind: gram.Lines, nums: []int{1 << 60, 2}, data: ab + ab, first: 1 << 60, lines: [][]row.Glyph{two, two}},
		{what: "the greatest number", kind: gram.Lines, nums: []int{math.MaxInt, 2}, data: ab + ab, first: math.MaxInt, lines: [][]row.Glyph{two, two}},
		{what: "a number below 0", kind: gram.Lines, nums: []int{-1, 1}, data: ab, first: -1, lines: [][]row.Glyph{two}},
	} {
		for _, epoch := range []int{1, 0, math.MinInt, 1 << 40} {
			first, l, e := Read(gram.Gram{Epoch: epoch, Kind: c.kind, Nums: c.nums, Data: c.data})
			if first != c.first || !slices.EqualFunc(l, c.lines, slices.Equal) || e != c.e {
				t.Errorf("%s: %d, %v, %d, want %d, %v, %d", c.what, first, l, e, c.first, c.lines, c.e)
			}
			if e != api.OK && l != nil {
				t.Errorf("%s: %v beside an error", c.what, l)
			}
		}
	}
}

// What is Read shares nothing with what was handed in, nor a line with another one.
func TestReadSharesNothing(t *testing.T) {
	x := from(t, 0, 7, 7, 7)
	g := Answer(1, x.line, list(0, 3)...)[0]
	_, l, _ := Read(g)
	_, other, _ := Read(g)
	for i := range l {
		for k := range l[i][:cap(l[i])] {
			l[i][:cap(l[i])][k] = row.Glyph{Rune: '!', Style: 77}
		}
		for k := i + 1; k < len(l); k++ {
			if !slices.Equal(l[k], x.there[k]) {
				t.Errorf("the line %d, behind a change of %d", k, i)
			}
		}
		if !slices.Equal(other[i], x.there[i]) {
			t.Errorf("the other line %d", i)
		}
	}
	if !slices.Equal(g.Nums, []int{0, 3}) {
		t.Errorf("%d", g.Nums)
	}
}
