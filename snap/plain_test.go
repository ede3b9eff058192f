package snap

import (
	"encoding/binary"
	"math/rand"
	"slices"
	"strings"
	"testing"

	"tidewrack/api"
	"tidewrack/num"
	"tidewrack/row"
)

// bytesOf is numbers as bytes, one behind the other.
func bytesOf(nums ...int) string {
	var b []byte
	for _, n := range nums {
		b = binary.AppendUvarint(b, uint64(n))
	}
	return string(b)
}

// reader reads as layer 1 tells it, up to the first error.
type reader struct {
	s   string
	err api.Errno
}

func (r *reader) fail(e api.Errno) {
	if r.err == api.OK {
		r.err, r.s = e, ""
	}
}

// num is a number that may be from least to most.
func (r *reader) num(least, most uint64) int {
	n := uint64(0)
	for i := range 9 {
		if i == len(r.s) {
			r.fail(api.ErrEnd)
			return 0
		}
		n |= uint64(r.s[i]&127) << (7 * i)
		if r.s[i] < 128 {
			if r.s[i] == 0 && i > 0 || n > 1<<62 || n < least || n > most {
				r.fail(api.ErrForm)
				return 0
			}
			r.s = r.s[i+1:]
			return int(n)
		}
	}
	r.fail(api.ErrForm)
	return 0
}

func (r *reader) any() int {
	return r.num(0, 1<<62)
}

func (r *reader) text() string {
	n := r.any()
	if n > len(r.s) {
		r.fail(api.ErrEnd)
		return ""
	}
	s := r.s[:n]
	r.s = r.s[n:]
	return s
}

// row is one of w cells, cell by cell.
func (r *reader) row(w int) row.Row {
	out := row.Row{Wrapped: r.num(0, 1) == 1}
	for r.err == api.OK && len(out.Cells) < w {
		n := r.num(1, uint64(w-len(out.Cells)))
		c := row.Cell{Rune: rune(r.num(0, 0x10ffff))}
		c.Style = r.num(0, 647)
		c.Part = r.num(0, 3)
		if k := len(out.Cells); k > 0 && out.Cells[k-1] == c {
			r.fail(api.ErrForm)
		}
		for range n {
			out.Cells = append(out.Cells, c)
		}
	}
	if r.err != api.OK {
		return row.Row{}
	}
	return out
}

// plainMay: a snap that isn't empty may be, as the chapter tells it. Its size and its cells are those that were read.
func plainMay(s Snap) bool {
	return s.K >= 1 && s.K <= 1152921504606846976 && s.W >= 1 && s.W <= 1000 && s.H >= 1 && s.H <= 1000 && s.X >= 0 && s.X < s.W && s.Y >= 0 && s.Y < s.H &&
		len(s.Title) <= 200 && s.Len >= 0 && s.Len <= 1152921504606846976 && s.Chain >= 0 && s.Chain <= 281474976710656
}

// plainParse parses as the chapter tells it.
func plainParse(s string) (Snap, api.Errno) {
	if s == "" {
		return Snap{}, api.OK
	}
	r := &reader{s: s}
	p := Snap{K: r.any(), W: r.num(0, 1000), H: r.num(0, 1000), X: r.any(), Y: r.any(), Title: r.text(), Len: r.any(), Chain: r.any()}
	for range r.num(0, 1024) {
		g := row.Glyph{Rune: rune(r.num(0, 0x10ffff))}
		g.Style = r.num(0, 647)
		p.Begun = append(p.Begun, g)
	}
	for range p.H {
		p.Rows = append(p.Rows, r.row(p.W))
	}
	if r.err == api.OK && (r.s != "" || !plainMay(p)) {
		r.fail(api.ErrForm)
	}
	if r.err != api.OK {
		return Snap{}, r.err
	}
	return p, api.OK
}

// plainRow is a row's bytes, cell by cell from the right.
func plainRow(r row.Row) string {
	s, n := "", 0
	for i, c := range slices.Backward(r.Cells) {
		n++
		if i > 0 && r.Cells[i-1] == c {
			continue
		}
		s = bytesOf(n, int(c.Rune), c.Style, c.Part) + s
		n = 0
	}
	if r.Wrapped {
		return "\x01" + s
	}
	return "\x00" + s
}

// plainPack is the bytes of a snap that may be.
func plainPack(s Snap) string {
	out := bytesOf(s.K, s.W, s.H, s.X, s.Y, len(s.Title)) + s.Title + bytesOf(s.Len, s.Chain, len(s.Begun))
	for _, g := range s.Begun {
		out += bytesOf(int(g.Rune), g.Style)
	}
	for _, r := range s.Rows {
		out += plainRow(r)
	}
	return out
}

// alike: all of it is, field by field. (A list that is nil is one without elements.)
func alike(a, b Snap) bool {
	if len(a.Rows) != len(b.Rows) || len(a.Begun) != len(b.Begun) {
		return false
	}
	for i := range a.Rows {
		if a.Rows[i].Wrapped != b.Rows[i].Wrapped || !slices.Equal(a.Rows[i].Cells, b.Rows[i].Cells) {
			return false
		}
	}
	for i := range a.Begun {
		if a.Begun[i] != b.Begun[i] {
			return false
		}
	}
	return [7]int{a.K, a.W, a.H, a.X, a.Y, a.Len, a.Chain} == [7]int{b.K, b.W, b.H, b.X, b.Y, b.Len, b.Chain} && a.Title == b.Title
}

func pick[T any](random *rand.Rand, l ...T) T {
	return l[random.Intn(len(l))]
}

// randomCells are n cells, of which some that stand side by side are alike.
func randomCells(random *rand.Rand, n int) []row.Cell {
	var l []row.Cell
	for range n {
		c := row.Cell{Rune: pick(random, 'a', 'a', ' ', 0, 0x4e2d, 0x10ffff), Style: pick(random, 0, 0, 1, 127, 128, 647), Part: pick(random, 0, 0, 1, 2, 3)}
		if len(l) > 0 && random.Intn(2) == 0 {
			c = l[len(l)-1]
		}
		l = append(l, c)
	}
	return l
}

// randomSnap is one that may be.
func randomSnap(random *rand.Rand) Snap {
	s := Snap{K: pick(random, 1, 2, 127, 128, 1<<60), W: 1 + random.Intn(6), H: 1 + random.Intn(4), Title: pick(random, "", "t", "\x00\xff", strings.Repeat("x", 200)), Len: pick(random, 0, 1, 300, 1<<60), Chain: pick(random, 0, 1, 1<<48-60, 1<<48)}
	s.X, s.Y = random.Intn(s.W), random.Intn(s.H)
	for range s.H {
		s.Rows = append(s.Rows, row.Row{Cells: randomCells(random, s.W), Wrapped: random.Intn(2) == 0})
	}
	for range random.Intn(4) {
		s.Begun = append(s.Begun, row.Glyph{Rune: pick(random, 0, 'b', 0x10ffff), Style: pick(random, 0, 5, 647)})
	}
	return s
}

// spoilt is a text of which something is another one.
func spoilt(random *rand.Rand, s string) string {
	if s == "" {
		return "\x01"
	}
	at := random.Intn(len(s))
	some := pick(random, "\x00", "\x01", "\x02", "\x03", "\x04", "a", "\x7f", "\x80", "\x80\x00", "\x87\x05", "\x88\x05", "\xe8\x07", "\xe9\x07", "\xff", "\xff\xff\x43", "\x80\x80\x44", "\x81\x08", "\x80\x80\x80\x80\x80\x80\x80\x80\x40", "\xff\xff\xff\xff\xff\xff\xff\xff\xff", string([]byte{byte(random.Intn(256))}))
	switch random.Intn(5) {
	case 0:
		return s[:at]
	case 1:
		return s[:at] + some + s[at:]
	case 2:
		return s[:at] + some + s[at+1:]
	case 3:
		return s[:at] + s[at+1:]
	}
	return s + some
}

// checkParse: the snap of a text, or just the chapter's error; and P16.2, that the text is its bytes.
func checkParse(t *testing.T, s string) api.Errno {
	t.Helper()
	want, e := plainParse(s)
	got, ge := Parse(s)
	if ge != e || !alike(got, want) {
		t.Fatalf("%x: %v, %d, want %v, %d", s, got, ge, want, e)
	}
	if e == api.OK && (got.Pack() != s || got.Check() != api.OK) {
		t.Fatalf("%x: its snap's bytes are %x", s, got.Pack())
	}
	return e
}

// P16.2: what may be is parsed from its bytes, and of any bytes there is at most one.
func TestOneWay(t *testing.T) {
	random := rand.New(rand.NewSource(16))
	for range 4000 {
		s := randomSnap(random)
		packed := s.Pack()
		if packed != plainPack(s) || s.Check() != api.OK {
			t.Fatalf("%v: %x, want %x", s, packed, plainPack(s))
		}
		got, e := Parse(packed)
		if e != api.OK || !alike(got, s) || !got.Same(s) || got.Sum() != s.Sum() {
			t.Fatalf("%x: %v, %d, want %v", packed, got, e, s)
		}
	}
}

// P16.1: any bytes, of which most are nearly those of a snap.
func TestParseAny(t *testing.T) {
	random := rand.New(rand.NewSource(17))
	told := map[api.Errno]int{}
	for range 60000 {
		s := randomSnap(random).Pack()
		for range 1 + random.Intn(3) {
			s = spoilt(random, s)
		}
		told[checkParse(t, s)]++
	}
	for range 60000 {
		s := pick(random, "", "\x01", "\x01\x01\x01", "\x01\x01\x01\x00\x00\x00\x00\x00\x00", "\x01\x02\x01\x01\x00\x00\x00\x00\x00")
		for range random.Intn(8) {
			s += pick(random, "\x00", "\x01", "\x02", "a", "\x20", "\x80", "\x00\x00")
		}
		told[checkParse(t, s)]++
	}
	if told[api.OK] < 300 || told[api.ErrForm] < 10000 || told[api.ErrEnd] < 10000 {
		t.Errorf("told: %v", told)
	}
}

// All texts of few bytes.
func TestParseShort(t *testing.T) {
	for a := range 256 {
		one := string([]byte{byte(a)})
		checkParse(t, one)
		checkParse(t, "\x01\x01\x01\x00\x00\x00\x00\x00\x00\x00\x01\x20\x00"+one)
		for b := range 256 {
			two := one + string([]byte{byte(b)})
			checkParse(t, two)
			checkParse(t, "\x01\x01\x01\x00\x00\x00\x00\x00\x00"+two+"\x20\x00\x00")
			checkParse(t, two+"\x01\x00\x00\x00\x00\x00\x00\x00\x01\x20\x00\x00")
		}
	}
}

// checkReadRow: a row of w cells, what is left behind it, or just the chapter's error.
func checkReadRow(t *testing.T, s string, w int) {
	t.Helper()
	r := &reader{s: s}
	want := r.row(w)
	in := num.Of(s)
	got := ReadRow(in, w)
	if in.Err() != r.err || in.Left() != len(r.s) || got.Wrapped != want.Wrapped || !slices.Equal(got.Cells, want.Cells) {
		t.Fatalf("%x, of %d cells: %v, %d left, %d, want %v, %d, %d", s, w, got, in.Left(), in.Err(), want, len(r.s), r.err)
	}
	if r.err == api.OK && PackRow(got)+r.s != s {
		t.Fatalf("%x, of %d cells: the row's bytes are %x", s, w, PackRow(got))
	}
}

// ReadRow of any bytes.
func TestReadRowAny(t *testing.T) {
	random := rand.New(rand.NewSource(18))
	for range 60000 {
		r := row.Row{Cells: randomCells(random, random.Intn(7)), Wrapped: random.Intn(2) == 0}
		s := PackRow(r)
		if s != plainRow(r) {
			t.Fatalf("%v: %x, want %x", r, s, plainRow(r))
		}
		checkReadRow(t, s, len(r.Cells))
		checkReadRow(t, s+"\x01", len(r.Cells)+random.Intn(3)-1)
		checkReadRow(t, spoilt(random, s), len(r.Cells))
		checkReadRow(t, spoilt(random, spoilt(random, s)), len(r.Cells)+random.Intn(3)-1)
	}
}
