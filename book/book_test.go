package book

import (
	"hash/crc32"
	"math"
	"math/big"
	"math/rand"
	"slices"
	"strconv"
	"strings"
	"testing"

	"tidewrack/api"
	"tidewrack/num"
	"tidewrack/row"
)

// of is glyphs of a text, all of that style.
func of(s string, style int) []row.Glyph {
	var l []row.Glyph
	for _, x := range s {
		l = append(l, row.Glyph{Rune: x, Style: style})
	}
	return l
}

// cells is a row of just these glyphs, which goes on or doesn't.
func cells(on bool, l ...row.Glyph) row.Row {
	r := row.Row{Wrapped: on}
	for _, g := range l {
		r.Cells = append(r.Cells, row.Cell{Rune: g.Rune, Style: g.Style})
	}
	return r
}

// long is n glyphs, no two of which that stand close are alike.
func long(n int) []row.Glyph {
	var l []row.Glyph
	for i := range n {
		l = append(l, row.Glyph{Rune: rune(0x4e00 + i%20000), Style: i % 648})
	}
	return l
}

func text(l []row.Glyph) string {
	s := ""
	for _, g := range l {
		s += string(g.Rune)
	}
	return s
}

// lines are all lines of a book.
func lines(t *testing.T, b *Book) [][]row.Glyph {
	t.Helper()
	var l [][]row.Glyph
	for i := range b.Len() {
		one, ok := b.Line(i)
		if !ok {
			t.Fatalf("line %d of %d isn't there", i, b.Len())
		}
		l = append(l, one)
	}
	return l
}

// told is a book in short: its lines, with / between, and what is begun.
func told(t *testing.T, b *Book) string {
	t.Helper()
	s := ""
	for _, l := range lines(t, b) {
		s += text(l) + "/"
	}
	return s + text(b.Begun())
}

// The chapter's example.
func TestExample(t *testing.T) {
	b := New()
	if n := b.Add(cells(true, of("ab", 0)...), cells(false, of("c", 0)...), cells(true, of("d", 0)...)); n != 1 || told(t, b) != "abc/d" {
		t.Errorf("%d: %s", n, told(t, b))
	}
}

func TestPack(t *testing.T) {
	for _, c := range []struct {
		l    []row.Glyph
		want string
	}{
		{nil, "\x00"}, {[]row.Glyph{}, "\x00"}, {of("a", 0), "\x01a\x00"}, {of("ab", 3), "\x02a\x03b\x03"}, {of("\u4e2d", 647), "\x01\xad\x9c\x01\x87\x05"}, {[]row.Glyph{{}}, "\x01\x00\x00"},
		{[]row.Glyph{{Rune: 1114111, Style: 127}}, "\x01\xff\xff\x43\x7f"}, {[]row.Glyph{{Rune: 0xd800, Style: 128}}, "\x01\x80\xb0\x03\x80\x01"},
		// Below 0 each counts as 0; beyond what is read it is as it is.
		{[]row.Glyph{{Rune: -1, Style: -1}}, "\x01\x00\x00"}, {[]row.Glyph{{Rune: math.MinInt32, Style: math.MinInt}}, "\x01\x00\x00"}, {[]row.Glyph{{Rune: 1114112, Style: 648}}, "\x01\x80\x80\x44\x88\x05"},
		{[]row.Glyph{{Rune: math.MaxInt32, Style: math.MaxInt}}, "\x01\xff\xff\xff\xff\x07\x80\x80\x80\x80\x80\x80\x80\x80\x40"},
	} {
		if got := Pack(c.l...); got != c.want {
			t.Errorf("%v: %x, want %x", c.l, got, c.want)
		}
	}
	for _, n := range []int{127, 128, 1023, 1024, 1025, 5000} {
		var out num.Out
		out.Num(n)
		for _, g := range long(n) {
			out.Num(int(g.Rune), g.Style)
		}
		if got := Pack(long(n)...); got != out.Bytes() {
			t.Errorf("%d glyphs: %d bytes, want %d", n, len(got), len(out.Bytes()))
		}
	}
}

// What is handed in stays, its spare room too.
func TestPackKeepsNothing(t *testing.T) {
	l := append(make([]row.Glyph, 0, 4), of("ab", 1)...)
	Pack(l...)
	if !slices.Equal(l[:4], append(of("ab", 1), row.Glyph{}, row.Glyph{})) {
		t.Errorf("%v", l[:4])
	}
}

// checkRead: what is read of a text, how many bytes are left behind it, and the error.
func checkRead(t *testing.T, s string, want []row.Glyph, left int, e api.Errno) {
	t.Helper()
	in := num.Of(s)
	got := Read(in)
	if !slices.Equal(got, want) || in.Left() != left || in.Err() != e {
		t.Errorf("%x: %v, %d left, %d, want %v, %d, %d", s[:min(len(s), 40)], got, in.Left(), in.Err(), want, left, e)
	}
}

func TestRead(t *testing.T) {
	checkRead(t, "\x00", nil, 0, api.OK)
	checkRead(t, "\x00\x05ab", nil, 3, api.OK)
	checkRead(t, "\x01a\x00", of("a", 0), 0, api.OK)
	checkRead(t, "\x02a\x03b\x03\x09", of("ab", 3), 1, api.OK)
	checkRead(t, "\x01\xff\xff\x43\x87\x05", []row.Glyph{{Rune: 1114111, Style: 647}}, 0, api.OK)
	checkRead(t, "\x01\x80\xb0\x03\x00", []row.Glyph{{Rune: 0xd800}}, 0, api.OK)
	checkRead(t, "\x02\x00\x00\x00\x00", []row.Glyph{{}, {}}, 0, api.OK)
	// Layer 1's errors, at each place.
	endless := strings.Repeat("\xff", 9)
	tooGreat := "\x81\x80\x80\x80\x80\x80\x80\x80\x40"
	for _, ahead := range []string{"", "\x02", "\x02a", "\x02a\x07", "\x02a\x07b"} {
		checkRead(t, ahead, nil, 0, api.ErrEnd)
		checkRead(t, ahead+"\x80", nil, 0, api.ErrEnd)
		checkRead(t, ahead+"\xff\xff", nil, 0, api.ErrEnd)
		checkRead(t, ahead+"\x80\x00", nil, 0, api.ErrForm)
		checkRead(t, ahead+"\x80\x00\x00\x00\x00\x00\x00", nil, 0, api.ErrForm)
		checkRead(t, ahead+endless+"\x00\x00\x00", nil, 0, api.ErrForm)
		checkRead(t, ahead+tooGreat+"\x00\x00\x00", nil, 0, api.ErrForm)
	}
	// A Rune or a Style beyond what may be, as it comes: ahead of what is wrong behind it, and behind what is wrong ahead of it.
	for _, behind := range []string{"", "\x00", "\x80\x00", "\x00\x00\x00\x00"} {
		checkRead(t, "\x02\x80\x80\x44"+behind, nil, 0, api.ErrForm)
		checkRead(t, "\x02a\x88\x05"+behind, nil, 0, api.ErrForm)
		checkRead(t, "\x02a\x00\x80\x80\x44"+behind, nil, 0, api.ErrForm)
		checkRead(t, "\x02a\x00b\x88\x05"+behind, nil, 0, api.ErrForm)
	}
	checkRead(t, "\x01a\x80\x80\x80\x80\x80\x80\x80\x80\x40", nil, 0, api.ErrForm)
	checkRead(t, "\x01\x80\x80\x80\x80\x80\x80\x80\x80\x40", nil, 0, api.ErrForm)
	// As many as the lowest 32 bits of a Rune, or of how many glyphs, would be are not told.
	checkRead(t, "\x01\xe1\x80\x80\x80\x10\x00", nil, 0, api.ErrForm)
}

// More than 1024 glyphs are told ahead of all that is wrong with them.
func TestReadLong(t *testing.T) {
	for n, e := range map[int]api.Errno{1023: api.OK, 1024: api.OK, 1025: api.ErrForm, 1026: api.ErrForm, 5000: api.ErrForm} {
		want := long(n)
		if e != api.OK {
			want = nil
		}
		checkRead(t, Pack(long(n)...), want, 0, e)
	}
	for _, count := range []int{1025, 2048, 1 << 16, 1 << 32, 1<<32 + 1, 1 << 62} {
		for _, behind := range []string{"", "\x80", "\x80\x00", "a\x00"} {
			var out num.Out
			checkRead(t, out.Num(count).Raw(behind).Bytes(), nil, 0, api.ErrForm)
		}
	}
	var out num.Out
	checkRead(t, out.Num(1024).Bytes(), nil, 0, api.ErrEnd)
	checkRead(t, out.Raw("a").Bytes(), nil, 0, api.ErrEnd)
}

// Behind an error that there is nothing is read, and it stays the first one; lines stand one behind the other.
func TestReadBehind(t *testing.T) {
	for _, e := range []api.Errno{api.ErrEnd, api.ErrBig, api.ErrForm} {
		in := num.Of("\x01a\x00")
		in.Fail(e)
		if l := Read(in); l != nil || in.Err() != e {
			t.Errorf("%v, %d", l, in.Err())
		}
	}
	in := num.Of(Pack(of("ab", 1)...) + Pack() + Pack(of("c", 2)...) + "\x01")
	for _, want := range [][]row.Glyph{of("ab", 1), nil, of("c", 2)} {
		if got := Read(in); !slices.Equal(got, want) || in.Err() != api.OK {
			t.Errorf("%v, want %v", got, want)
		}
	}
	if l := Read(in); l != nil || in.Err() != api.ErrEnd {
		t.Errorf("%v, %d", l, in.Err())
	}
	if l := Read(in); l != nil || in.Err() != api.ErrEnd {
		t.Errorf("%v, %d", l, in.Err())
	}
}

// plainRead reads as the chapter tells it: a line, how many bytes it has, or an error.
func plainRead(s string) ([]row.Glyph, int, api.Errno) {
	at := 0
	next := func() (*big.Int, api.Errno) {
		n, from := new(big.Int), at
		for i := range 9 {
			if at == len(s) {
				return nil, api.ErrEnd
			}
			b := s[at]
			at++
			n.Add(n, new(big.Int).Lsh(big.NewInt(int64(b%128)), uint(7*i)))
			if b < 128 {
				if b == 0 && at-from > 1 || n.Cmp(new(big.Int).Lsh(big.NewInt(1), 62)) > 0 {
					return nil, api.ErrForm
				}
				return n, api.OK
			}
		}
		return nil, api.ErrForm
	}
	count, e := next()
	if e == api.OK && count.Cmp(big.NewInt(1024)) > 0 {
		e = api.ErrForm
	}
	if e != api.OK {
		return nil, 0, e
	}
	var l []row.Glyph
	for range count.Int64() {
		var nums [2]int64
		for k, most := range []int64{0x10ffff, 647} {
			n, e := next()
			if e == api.OK && n.Cmp(big.NewInt(most)) > 0 {
				e = api.ErrForm
			}
			if e != api.OK {
				return nil, 0, e
			}
			nums[k] = n.Int64()
		}
		l = append(l, row.Glyph{Rune: rune(nums[0]), Style: int(nums[1])})
	}
	return l, at, api.OK
}

// Of any bytes a line is read whose bytes they are, or just the chapter's error is told.
func TestReadAny(t *testing.T) {
	random := rand.New(rand.NewSource(12))
	bytes := []string{"\x00", "\x01", "\x02", "\x03", "a", "\x7f", "\x80", "\x81", "\x88", "\xff", "\x40", "\x05", "\x44", "\x08", "\x80\x08", "\x81\x08", "\x88\x05", "\x87\x05", "\x80\x80\x44", "\xff\xff\x43"}
	var texts []string
	for a := range 256 {
		texts = append(texts, string([]byte{byte(a)}))
		for b := range 256 {
			texts = append(texts, string([]byte{byte(a), byte(b)}), string([]byte{1, byte(a), byte(b)}))
		}
	}
	for range 60000 {
		s := ""
		for range random.Intn(8) {
			s += bytes[random.Intn(len(bytes))]
		}
		texts = append(texts, s)
	}
	for range 3000 {
		s := Pack(long(random.Intn(40))...)
		at := random.Intn(len(s))
		texts = append(texts, s, s[:at], s[:at]+string([]byte{byte(random.Intn(256))})+s[at+1:])
	}
	for _, s := range texts {
		want, size, e := plainRead(s)
		in := num.Of(s)
		got := Read(in)
		if !slices.Equal(got, want) || in.Err() != e {
			t.Fatalf("%x: %v, %d, want %v, %d", s, got, in.Err(), want, e)
		}
		if e == api.OK && (in.Left() != len(s)-size || Pack(got...) != s[:size]) {
			t.Fatalf("%x: %d left of %d, %x", s, in.Left(), len(s), Pack(got...))
		}
		if e != api.OK && (got != nil || in.Left() != 0) {
			t.Fatalf("%x: %v, %d left", s, got, in.Left())
		}
	}
}

// Rows that go on, and ones that don't; rows of layer 9, whose blanks at the end aren't glyphs.
func TestAdd(t *testing.T) {
	on := func(s string) row.Row { return cells(true, of(s, 0)...) }
	end := func(s string) row.Row { return cells(false, of(s, 0)...) }
	for _, c := range []struct {
		rows []row.Row
		n    int
		want string
	}{
		{nil, 0, ""}, {[]row.Row{{}}, 1, "/"}, {[]row.Row{{Wrapped: true}}, 0, ""}, {[]row.Row{{}, {}, {}}, 3, "///"}, {[]row.Row{end("a")}, 1, "a/"}, {[]row.Row{on("a")}, 0, "a"}, {[]row.Row{on("a"), on("b")}, 0, "ab"},
		{[]row.Row{on("a"), on("b"), end("c")}, 1, "abc/"}, {[]row.Row{on("a"), end("")}, 1, "a/"}, {[]row.Row{on(""), end("")}, 1, "/"}, {[]row.Row{end("a"), end(""), on("b"), end("c"), on("d")}, 3, "a//bc/d"},
		{[]row.Row{end("a  ")}, 1, "a/"}, {[]row.Row{on("a  "), end("b ")}, 1, "a  b/"}, {[]row.Row{end("   ")}, 1, "/"},
		{[]row.Row{row.Blank(5, 0).Put(1, 'x', 0).Put(2, '中', 0)}, 1, " x中/"}, {[]row.Row{row.Blank(3, 0).Put(0, 'x', 0).Fill(0), row.Blank(3, 0).Put(0, '中', 0)}, 1, "x 中/"}, {[]row.Row{row.Blank(2, 7)}, 1, "  /"},
	} {
		b, one := New(), New()
		n := b.Add(c.rows...)
		if got := told(t, b); n != c.n || got != c.want || b.Len() != c.n {
			t.Errorf("%v: %d, %q, want %d, %q", c.rows, n, got, c.n, c.want)
		}
		sum := 0
		for _, r := range c.rows {
			sum += one.Add(r)
		}
		if got := told(t, one); sum != c.n || got != c.want || one.Chain(sum) != b.Chain(n) {
			t.Errorf("%v, one by one: %d, %q, want %d, %q", c.rows, sum, got, c.n, c.want)
		}
	}
}

// lengths are how many glyphs the lines have.
func lengths(t *testing.T, b *Book) []int {
	t.Helper()
	var l []int
	for _, one := range lines(t, b) {
		l = append(l, len(one))
	}
	return l
}

// P12.2: a line has 1024 glyphs at most, and all of them are in their order: rows of more in all, that go on, and ones that don't.
func TestAddLong(t *testing.T) {
	for _, c := range []struct {
		rows  []int // of how many glyphs: below 0 it goes on
		want  []int
		begun int
	}{
		{[]int{1000}, []int{1000}, 0}, {[]int{1023}, []int{1023}, 0}, {[]int{1024}, []int{1024, 0}, 0}, {[]int{1025}, []int{1024, 1}, 0}, {[]int{2047}, []int{1024, 1023}, 0}, {[]int{2048}, []int{1024, 1024, 0}, 0}, {[]int{5000}, []int{1024, 1024, 1024, 1024, 904}, 0},
		{[]int{-1000}, nil, 1000}, {[]int{-1023}, nil, 1023}, {[]int{-1024}, []int{1024}, 0}, {[]int{-1025}, []int{1024}, 1}, {[]int{-2048}, []int{1024, 1024}, 0}, {[]int{-5000}, []int{1024, 1024, 1024, 1024}, 904},
		{[]int{-1000, 23}, []int{1023}, 0}, {[]int{-1000, 24}, []int{1024, 0}, 0}, {[]int{-1000, 25}, []int{1024, 1}, 0}, {[]int{-1000, -24}, []int{1024}, 0}, {[]int{-1000, -24, 5}, []int{1024, 5}, 0}, {[]int{-1000, -24, 0}, []int{1024, 0}, 0},
		{[]int{-1000, -1000, -1000, 1000}, []int{1024, 1024, 1024, 928}, 0}, {[]int{-1000, -1000, 1000, -1000, 1}, []int{1024, 1024, 952, 1001}, 0}, {[]int{-1, -1024, -1}, []int{1024}, 2}, {[]int{1, 1, -1023, -1}, []int{1, 1, 1024}, 0},
	} {
		var rows []row.Row
		var all []row.Glyph
		at := 0
		for _, n := range c.rows {
			l := long(20000)[at:][:max(n, -n)]
			at += len(l)
			rows, all = append(rows, cells(n < 0, l...)), append(all, l...)
		}
		b := New()
		if n := b.Add(rows...); n != len(c.want) || !slices.Equal(lengths(t, b), c.want) || len(b.Begun()) != c.begun {
			t.Errorf("%d: %d, %d, %d are begun, want %d, %d", c.rows, n, lengths(t, b), len(b.Begun()), c.want, c.begun)
		}
		if joined := append(slices.Concat(lines(t, b)...), b.Begun()...); !slices.Equal(joined, all) {
			t.Errorf("%d: the glyphs aren't in their order", c.rows)
		}
		// What is a line is read as it was.
		for _, l := range lines(t, b) {
			checkRead(t, Pack(l...), l, 0, api.OK)
		}
	}
}

// Line: of no other number there is one.
func TestLine(t *testing.T) {
	b := New()
	b.Add(cells(false, of("a", 1)...), cells(false), cells(false, of("bc", 2)...), cells(true, of("d", 3)...))
	for i, want := range [][]row.Glyph{of("a", 1), nil, of("bc", 2)} {
		if l, ok := b.Line(i); !ok || !slices.Equal(l, want) {
			t.Errorf("%d: %v, %t", i, l, ok)
		}
	}
	for _, i := range []int{math.MinInt, -3, -1, 3, 4, math.MaxInt} {
		if l, ok := b.Line(i); ok || l != nil {
			t.Errorf("%d: %v, %t", i, l, ok)
		}
	}
	if l, ok := New().Line(0); ok || l != nil {
		t.Errorf("%v, %t", l, ok)
	}
	if !slices.Equal(b.Begun(), of("d", 3)) || len(New().Begun()) > 0 || New().Len() != 0 || b.Len() != 3 {
		t.Errorf("%v, %d", b.Begun(), b.Len())
	}
}

// chainBehind is the chain of a line more, with numbers of any length, and another one's sum.
func chainBehind(chain int, l []row.Glyph) int {
	n := new(big.Int).Mul(big.NewInt(int64(chain)), big.NewInt(65536))
	n.Add(n, big.NewInt(int64(crc32.ChecksumIEEE([]byte(Pack(l...))))))
	return int(n.Mod(n, big.NewInt(281474976710597)).Int64())
}

func plainChain(l ...[]row.Glyph) int {
	chain := 0
	for _, one := range l {
		chain = chainBehind(chain, one)
	}
	return chain
}

// Chain below 0, of 0, of some, of all and of more.
func TestChain(t *testing.T) {
	for _, n := range []int{math.MinInt, -1, 0, 1, math.MaxInt} {
		if got := New().Chain(n); got != 0 {
			t.Errorf("of none, %d: %d", n, got)
		}
	}
	b := New()
	b.Add(cells(false, of("a", 0)...))
	// The sum of 01 61 00.
	if got := b.Chain(1); got != int(crc32.ChecksumIEEE([]byte("\x01a\x00"))) {
		t.Errorf("of a: %d", got)
	}
	random := rand.New(rand.NewSource(13))
	for range 3000 {
		b.Add(cells(random.Intn(3) == 0, long(random.Intn(30))...))
	}
	b.Add(cells(true, row.Glyph{Rune: -5, Style: -6}), cells(false, row.Glyph{Rune: math.MaxInt32, Style: math.MaxInt}), cells(true, of("begun", 0)...))
	all, seen := lines(t, b), map[int]bool{}
	for _, n := range []int{0, 1, 2, 3, 4, 5, 17, 100, b.Len() - 2, b.Len() - 1, b.Len()} {
		if got, want := b.Chain(n), plainChain(all[:n]...); got != want || seen[got] {
			t.Errorf("%d: %d, want %d", n, got, want)
		} else {
			seen[got] = true
		}
	}
	for n, want := range map[int]int{math.MinInt: 0, -1: 0, b.Len() + 1: b.Chain(b.Len()), math.MaxInt: b.Chain(b.Len())} {
		if got := b.Chain(n); got != want {
			t.Errorf("%d: %d, want %d", n, got, want)
		}
	}
	for n := range b.Len() {
		if c := b.Chain(n + 1); c != chainBehind(b.Chain(n), all[n]) {
			t.Fatalf("%d: %d", n+1, c)
		}
	}
}

// The greatest chain that there is, and those at which 64 bits would be left behind.
func TestChained(t *testing.T) {
	for _, chain := range []int{0, 1, 1<<32 - 1, 1 << 32, 1 << 47, 1<<48 - 60, 1<<48 - 61, 1<<48 - 59 - 1<<16, 1<<48 - 1<<17} {
		for i := range 50 {
			if got, want := chained(chain, long(i)), chainBehind(chain, long(i)); got != want {
				t.Errorf("%d, %d glyphs: %d, want %d", chain, i, got, want)
			}
		}
	}
}

// spoil changes all there is of a list, its spare room too.
func spoil(l []row.Glyph) {
	l = l[:cap(l)]
	for i := range l {
		l[i] = row.Glyph{Rune: '!', Style: 77}
	}
}

// P12.3: what is a line once stays it, and the chain of the first ones, whatever is done with what was answered or handed in, and whatever comes.
func TestLinesStay(t *testing.T) {
	random := rand.New(rand.NewSource(14))
	b := New()
	var want [][]row.Glyph
	var chains []int
	var begun []row.Glyph
	for range 400 {
		n := []int{0, 1, 2, 5, 80, 1000, 1023, 1024, 1030}[random.Intn(9)]
		r := cells(random.Intn(2) == 0, long(n)...)
		r.Cells = append(make([]row.Cell, 0, n+5), r.Cells...)
		given := slices.Clone(r.Cells[:n+5])
		glyphs := r.Glyphs()
		begun = append(begun, glyphs...)
		for len(begun) >= 1024 {
			want, begun = append(want, slices.Clone(begun[:1024])), slices.Clone(begun[1024:])
		}
		if !r.Wrapped {
			want, begun = append(want, begun), nil
		}
		had := b.Len()
		if n := b.Add(r); n != len(want)-had || b.Len() != len(want) {
			t.Fatalf("%d lines more, %d in all, want %d", n, b.Len(), len(want))
		}
		if !slices.Equal(r.Cells[:len(given)], given) {
			t.Fatal("what was handed in is another one")
		}
		l := r.Cells[:cap(r.Cells)]
		for i := range l {
			l[i] = row.Cell{Rune: '!', Style: 77, Part: 3}
		}
		spoil(b.Begun())
		if b.Len() > 0 {
			one, _ := b.Line(random.Intn(b.Len()))
			spoil(one)
			last, _ := b.Line(b.Len() - 1)
			spoil(last)
		}
		for i := had; i < b.Len(); i++ {
			chains = append(chains, b.Chain(i+1))
		}
		if !slices.Equal(b.Begun(), begun) {
			t.Fatalf("%d are begun, want %d", len(b.Begun()), len(begun))
		}
	}
	for i, l := range lines(t, b) {
		if !slices.Equal(l, want[i]) || b.Chain(i+1) != chains[i] {
			t.Errorf("line %d: %d glyphs, want %d; chain %d, want %d", i, len(l), len(want[i]), b.Chain(i+1), chains[i])
		}
	}
	if got := plainChain(want...); b.Chain(b.Len()) != got {
		t.Errorf("%d, want %d", b.Chain(b.Len()), got)
	}
}

// Answers share no memory with one another.
func TestAnswersShareNothing(t *testing.T) {
	b := New()
	b.Add(cells(true, long(1500)...))
	x, _ := b.Line(0)
	y, _ := b.Line(0)
	p, q := b.Begun(), b.Begun()
	spoil(x)
	spoil(p)
	if !slices.Equal(y, long(1024)) || !slices.Equal(q, long(1500)[1024:]) {
		t.Error("one answer changes another one")
	}
	in, same := num.Of(Pack(long(9)...)), num.Of(Pack(long(9)...))
	x, y = Read(in), Read(same)
	spoil(x)
	if !slices.Equal(y, long(9)) {
		t.Error("one line that is read changes another one")
	}
}

// P12.1: a Clone is like it, and goes its own way, whichever of both is changed, and however often.
func TestClone(t *testing.T) {
	random := rand.New(rand.NewSource(15))
	books, models := []*Book{New()}, []string{""}
	for k := range 2000 {
		i := random.Intn(len(books))
		if random.Intn(20) == 0 && len(books) < 12 {
			books, models = append(books, books[i].Clone()), append(models, models[i])
			continue
		}
		s := strings.Repeat(string(rune('a'+k%26)), random.Intn(4))
		on := random.Intn(2) == 0
		books[i].Add(cells(on, of(s, 0)...))
		models[i] += s
		if !on {
			models[i] += "/"
		}
		for j, b := range books {
			if k%50 == 0 || j == i && k%10 == 0 {
				if got := told(t, b); got != models[j] {
					t.Fatalf("book %d behind %d: %q, want %q", j, k, got, models[j])
				}
			}
		}
	}
	for j, b := range books {
		c := b.Clone()
		if got := told(t, b); got != models[j] || told(t, c) != got || c.Len() != b.Len() || c.Chain(c.Len()) != b.Chain(b.Len()) || b.Chain(b.Len()) != plainChain(lines(t, b)...) {
			t.Errorf("book %s: %q, want %q", strconv.Itoa(j), got, models[j])
		}
	}
	// What is begun is each one's own.
	b := New()
	b.Add(cells(true, long(900)...))
	b.Add(cells(true, of("x", 0)...))
	c := b.Clone()
	b.Add(cells(true, of("bbb", 0)...))
	c.Add(cells(true, of("cc", 0)...))
	b.Add(cells(true, of("b", 0)...))
	if x, y := text(b.Begun()[900:]), text(c.Begun()[900:]); x != "xbbbb" || y != "xcc" {
		t.Errorf("%q, %q", x, y)
	}
}
