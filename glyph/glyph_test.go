package glyph

import (
	"math"
	"math/rand"
	"slices"
	"strings"
	"testing"
	"unicode/utf8"
)

// of is a text of these bytes.
func of(b ...byte) string {
	return string(b)
}

// span is bytes, from the first one to the last one.
type span struct{ from, to byte }

// chapter is all sequences that there are, as the chapter tells them: what each of their bytes may be.
func chapter() [][]span {
	more := span{0x80, 0xbf}
	return [][]span{
		{{0, 0x7f}},
		{{0xc2, 0xdf}, more},
		{{0xe0, 0xe0}, {0xa0, 0xbf}, more},
		{{0xe1, 0xec}, more, more},
		{{0xee, 0xee}, more, more},
		{{0xef, 0xef}, more, more},
		{{0xed, 0xed}, {0x80, 0x9f}, more},
		{{0xf0, 0xf0}, {0x90, 0xbf}, more, more},
		{{0xf1, 0xf3}, more, more, more},
		{{0xf4, 0xf4}, {0x80, 0x8f}, more, more},
	}
}

var sequences = chapter()

// first is how many bytes s has of the sequence it begins with (1: none begins there), and is that whole, and may it still be made so?
func first(s string) (int, bool, bool) {
	for _, l := range sequences {
		n := 0
		for n < len(l) && n < len(s) && l[n].from <= s[n] && s[n] <= l[n].to {
			n++
		}
		if n > 0 {
			return n, n == len(l), n < len(l) && n == len(s)
		}
	}
	return 1, false, false
}

// unfinished is the Decoder of a sequence that isn't whole, by the bits that its bytes have.
func unfinished(s string) Decoder {
	d := Decoder{Lead: s[0]}
	size := 4
	if s[0] < 0xf0 {
		size = 3
	}
	if s[0] < 0xe0 {
		size = 2
	}
	d.Need = size - len(s)
	d.Rune = rune(s[0]) % (1 << (7 - size))
	for i := 1; i < len(s); i++ {
		d.Rune = d.Rune*64 + rune(s[i])%64
	}
	return d
}

// plain is what all bytes of s tell by the chapter, and the Decoder behind them. It looks at the text as a whole, and takes what sequences are whole from the library.
func plain(s string) (Decoder, []rune) {
	var told []rune
	for s != "" {
		n, whole, open := first(s)
		if open {
			return unfinished(s), told
		}
		r := rune(0xfffd)
		if whole {
			r, _ = utf8.DecodeRuneInString(s[:n])
		}
		told = append(told, r)
		s = s[n:]
	}
	return Decoder{}, told
}

// check: s is decoded as the chapter tells, by each call, and so it is when its bytes come one by one.
func check(t *testing.T, s string) {
	t.Helper()
	d, want := plain(s)
	got, told := Decoder{}.Run(s)
	if got != d || !slices.Equal(told, want) {
		t.Fatalf("%x: %+v, %x; want %+v, %x", s, got, told, d, want)
	}
	var one Decoder
	var l []rune
	for i := range len(s) {
		var some []rune
		one, some = one.Next(s[i])
		l = append(l, some...)
	}
	if one != d || !slices.Equal(l, want) {
		t.Fatalf("%x, byte by byte: %+v, %x; want %+v, %x", s, one, l, d, want)
	}
	end := []rune(nil)
	if d != (Decoder{}) {
		end = []rune{0xfffd}
	}
	if got := d.End(); !slices.Equal(got, end) {
		t.Fatalf("%x: the end: %x", s, got)
	}
	if got := Decode(s); !slices.Equal(got, append(want, end...)) {
		t.Fatalf("%x: decoded: %x", s, got)
	}
}

// checkCuts: s is decoded alike, wherever it is cut in three.
func checkCuts(t *testing.T, s string) {
	t.Helper()
	want, all := plain(s)
	for i := range len(s) + 1 {
		for j := i; j <= len(s); j++ {
			a, x := Decoder{}.Run(s[:i])
			b, y := a.Run(s[i:j])
			c, z := b.Run(s[j:])
			if c != want || !slices.Equal(slices.Concat(x, y, z), all) {
				t.Fatalf("%x, cut at %d and %d: %+v, %x %x %x", s, i, j, c, x, y, z)
			}
		}
	}
}

// edges are the bytes at each end of what the chapter names, and next to it.
var edges = []byte{
	0x00, 0x1b, 0x41, 0x7f, 0x80, 0x8f, 0x90, 0x9f, 0xa0, 0xbf, 0xc0, 0xc1, 0xc2, 0xdf, 0xe0, 0xe1,
	0xec, 0xed, 0xee, 0xef, 0xf0, 0xf1, 0xf3, 0xf4, 0xf5, 0xf7, 0xf8, 0xff,
}

func TestBad(t *testing.T) {
	if Bad != 0xfffd {
		t.Errorf("%x", Bad)
	}
}

// The chapter's example, and others in full.
func TestDecode(t *testing.T) {
	for _, c := range []struct {
		s    string
		want []rune
	}{
		{of(0x41, 0xc3, 0x28), []rune{'A', Bad, '('}},
		{"", nil}, {of(0), []rune{0}}, {of(0x7f), []rune{0x7f}},
		{of(0x80), []rune{Bad}}, {of(0xbf), []rune{Bad}}, {of(0xc0), []rune{Bad}}, {of(0xc1), []rune{Bad}},
		{of(0xf5), []rune{Bad}}, {of(0xff), []rune{Bad}}, {of(0xc0, 0x80), []rune{Bad, Bad}},
		{of(0xc2, 0x80), []rune{0x80}}, {of(0xdf, 0xbf), []rune{0x7ff}},
		{of(0xe0, 0xa0, 0x80), []rune{0x800}}, {of(0xef, 0xbf, 0xbf), []rune{0xffff}},
		{of(0xe0, 0x9f, 0xbf), []rune{Bad, Bad, Bad}},
		{of(0xed, 0x9f, 0xbf), []rune{0xd7ff}}, {of(0xed, 0xa0, 0x80), []rune{Bad, Bad, Bad}},
		{of(0xee, 0x80, 0x80), []rune{0xe000}}, {of(0xef, 0xbf, 0xbd), []rune{Bad}},
		{of(0xf0, 0x90, 0x80, 0x80), []rune{0x10000}}, {of(0xf0, 0x8f, 0xbf, 0xbf), []rune{Bad, Bad, Bad, Bad}},
		{of(0xf4, 0x8f, 0xbf, 0xbf), []rune{0x10ffff}}, {of(0xf4, 0x90, 0x80, 0x80), []rune{Bad, Bad, Bad, Bad}},
		// One Bad of a sequence that is broken, however many bytes it has; what breaks it is taken for itself.
		{of(0xe4, 0xb8, 0x28), []rune{Bad, '('}}, {of(0xe4, 0xb8), []rune{Bad}}, {of(0xe4), []rune{Bad}},
		{of(0xf1, 0x80, 0x80, 0x28), []rune{Bad, '('}}, {of(0xf1, 0x80, 0x80), []rune{Bad}},
		{of(0xe4, 0xe4, 0xb8, 0xad), []rune{Bad, 0x4e2d}}, {of(0xe4, 0xb8, 0xe4, 0xb8, 0xad), []rune{Bad, 0x4e2d}},
		{of(0xc3, 0xff), []rune{Bad, Bad}}, {of(0xc3, 0xc3, 0xc3), []rune{Bad, Bad, Bad}},
		{of(0xe4, 0xb8, 0xad, 0xad), []rune{0x4e2d, Bad}}, {of(0xc3, 0xa9, 0x80), []rune{0xe9, Bad}},
		{of(0xc3, 0x0a), []rune{Bad, 0x0a}}, {of(0xc3, 0x1b, 0x5b), []rune{Bad, 0x1b, '['}},
		// The second byte alone may have less room than others.
		{of(0xe0, 0xa0, 0x9f), []rune{0x81f}}, {of(0xed, 0x80, 0xbf), []rune{0xd03f}},
		{of(0xf0, 0x90, 0x8f, 0x8f), []rune{0x103cf}}, {of(0xf4, 0x80, 0x90, 0xbf), []rune{0x10043f}},
	} {
		if got := Decode(c.s); !slices.Equal(got, c.want) {
			t.Errorf("%x: %x, want %x", c.s, got, c.want)
		}
	}
}

// A Decoder tells the sequence that isn't whole: its first byte, the bits so far, the bytes that it needs.
func TestDecoder(t *testing.T) {
	for _, c := range []struct {
		s    string
		want Decoder
		told []rune
	}{
		{"", Decoder{}, nil}, {"a", Decoder{}, []rune{'a'}},
		{of(0xc3), Decoder{0xc3, 3, 1}, nil}, {of(0xdf), Decoder{0xdf, 0x1f, 1}, nil},
		{of(0xc3, 0xa9), Decoder{}, []rune{0xe9}},
		{of(0xe0), Decoder{0xe0, 0, 2}, nil}, {of(0xe0, 0xa0), Decoder{0xe0, 0x20, 1}, nil},
		{of(0xe4), Decoder{0xe4, 4, 2}, nil}, {of(0xe4, 0xb8), Decoder{0xe4, 0x138, 1}, nil},
		{of(0xef, 0xbf), Decoder{0xef, 0x3ff, 1}, nil},
		{of(0xf0), Decoder{0xf0, 0, 3}, nil}, {of(0xf0, 0x9f), Decoder{0xf0, 0x1f, 2}, nil},
		{of(0xf0, 0x9f, 0x98), Decoder{0xf0, 0x7d8, 1}, nil},
		{of(0xf4, 0x8f, 0xbf), Decoder{0xf4, 0x43ff, 1}, nil},
		{of(0xe4, 0xc3), Decoder{0xc3, 3, 1}, []rune{Bad}}, {of(0xe4, 0xff), Decoder{}, []rune{Bad, Bad}},
		{of(0xe4, 'a'), Decoder{}, []rune{Bad, 'a'}}, {of(0x80), Decoder{}, []rune{Bad}},
	} {
		d, told := Decoder{}.Run(c.s)
		if d != c.want || !slices.Equal(told, c.told) {
			t.Errorf("%x: %+v, %x", c.s, d, told)
		}
		if same, none := d.Run(""); same != d || none != nil {
			t.Errorf("%x, and no bytes: %+v, %x", c.s, same, none)
		}
		if end := d.End(); (len(end) == 0) != (d == Decoder{}) || len(end) > 0 && !slices.Equal(end, []rune{Bad}) {
			t.Errorf("%x: the end: %x", c.s, end)
		}
	}
}

// P5.1: all texts of up to three bytes, whatever these are.
func TestShortTexts(t *testing.T) {
	check(t, "")
	for a := range 256 {
		check(t, of(byte(a)))
		for b := range 256 {
			check(t, of(byte(a), byte(b)))
			for _, c := range edges {
				check(t, of(byte(a), byte(b), c))
			}
		}
	}
}

// P5.1: texts of four bytes at the chapter's edges, and of five behind the first bytes of the longest sequences.
func TestEdges(t *testing.T) {
	for _, a := range edges {
		for _, b := range edges {
			for _, c := range edges {
				for _, d := range edges {
					check(t, of(a, b, c, d))
					if a >= 0xf0 && b >= 0x80 {
						check(t, of(a, b, c, d, 0x80))
						check(t, of(a, b, c, d, 'z'))
					}
				}
			}
		}
	}
}

// P5.1: bytes are decoded alike in whatever parts they come.
func TestParts(t *testing.T) {
	for _, s := range []string{
		"", "a", "plain", "\u00e9\u4e2d\U0001f600", of(0x41, 0xc3, 0x28), of(0xe4, 0xb8), of(0xf0, 0x9f, 0x98),
		of(0xf0, 0x9f, 0x98, 0xe4, 0xb8, 0xc3, 0x80, 0x80), of(0xff, 0xfe, 0xc0, 0x80, 0xed, 0xa0, 0x80),
	} {
		checkCuts(t, s)
	}
	random := rand.New(rand.NewSource(12))
	for range 3000 {
		b := make([]byte, random.Intn(12))
		for i := range b {
			b[i] = edges[random.Intn(len(edges))]
		}
		checkCuts(t, string(b))
		random.Read(b)
		check(t, string(b))
	}
}

// cutShort is a text of runes, some of whose bytes are gone.
func cutShort(random *rand.Rand) string {
	var b []byte
	for range random.Intn(40) {
		one := string(rune(random.Intn(1 << (1 + random.Intn(21)))))
		b = append(b, one[:len(one)-random.Intn(2)*random.Intn(len(one))]...)
	}
	return string(b)
}

// P5.1: longer texts, whole sequences and those that end too soon.
func TestCutShort(t *testing.T) {
	random := rand.New(rand.NewSource(13))
	for range 3000 {
		check(t, cutShort(random))
	}
	long := strings.Repeat("a\u00e9\u4e2d\U0001f600", 1<<16)
	if got := Decode(long + "\xf0"); len(got) != 4<<16+1 || got[4<<16] != Bad || !slices.Equal(got[:4], []rune{'a', 0xe9, 0x4e2d, 0x1f600}) {
		t.Errorf("%d runes", len(got))
	}
}

// isOne: there is such a rune.
func isOne(r rune) bool {
	return r >= 0 && r < 0xd800 || r > 0xdfff && r <= 0x10ffff
}

// P5.2: each rune that there is is encoded as its own bytes, and decoded from them.
func TestThereAndBack(t *testing.T) {
	var all []rune
	var bytes []byte
	for r := rune(0); r <= 0x10ffff; r++ {
		s := Encode(r)
		if !isOne(r) {
			if s != "\xef\xbf\xbd" {
				t.Fatalf("%x: %x", r, s)
			}
			continue
		}
		if want := string(utf8.AppendRune(nil, r)); s != want {
			t.Fatalf("%x: %x, want %x", r, s, want)
		}
		if got := Decode(s); len(got) != 1 || got[0] != r {
			t.Fatalf("%x: %x: %x", r, s, got)
		}
		if d, got := (Decoder{}).Run(s[:len(s)-1]); got != nil || len(s) > 1 && d.Need != 1 {
			t.Fatalf("%x: %x, less a byte: %+v, %x", r, s, d, got)
		}
		all = append(all, r)
		bytes = append(bytes, s...)
	}
	if s := Encode(all...); s != string(bytes) || !slices.Equal(Decode(s), all) {
		t.Error("all together")
	}
}

// A rune that is none is encoded as Bad.
func TestEncodeNone(t *testing.T) {
	for _, r := range []rune{
		-1, -2, -0x80, -0xd800, math.MinInt32, math.MinInt32 + 1, 0xd800, 0xdabc, 0xdbff, 0xdc00, 0xdfff,
		0x110000, 0x110001, 0x1fffff, 0x200000, 0x7ffffffe, math.MaxInt32,
	} {
		if got := Encode(r); got != "\xef\xbf\xbd" {
			t.Errorf("%x: %x", r, got)
		}
		if got := Encode('a', r, 0x4e2d); got != "a\xef\xbf\xbd\xe4\xb8\xad" || !slices.Equal(Decode(got), []rune{'a', Bad, 0x4e2d}) {
			t.Errorf("%x among others: %x", r, got)
		}
	}
	if Encode() != "" || Encode(nil...) != "" || Encode(0) != "\x00" || Encode(Bad) != "\xef\xbf\xbd" || Encode(0xd7ff, 0xe000) != "\xed\x9f\xbf\xee\x80\x80" {
		t.Error("others")
	}
}

// Any runes at all: what is decoded from their bytes is they, or Bad.
func TestAnyRunes(t *testing.T) {
	random := rand.New(rand.NewSource(14))
	for range 5000 {
		l := make([]rune, random.Intn(20))
		want := make([]rune, len(l))
		for i := range l {
			l[i] = rune(random.Uint32()) >> random.Intn(32)
			want[i] = l[i]
			if !isOne(l[i]) {
				want[i] = Bad
			}
		}
		if got := Decode(Encode(l...)); !slices.Equal(got, want) {
			t.Fatalf("%x: %x", l, got)
		}
	}
}

// A list that is handed in stays as it is, its spare room too; answers are new memory; a Decoder that was asked is as it was.
func TestMemory(t *testing.T) {
	room := []rune{'a', -1, 0xd800, 'b'}
	if Encode(room[:2]...); !slices.Equal(room, []rune{'a', -1, 0xd800, 'b'}) {
		t.Errorf("%x", room)
	}
	d, _ := Decoder{}.Run("\xe4\xb8")
	before := d
	a, x := d.Next(0xad)
	b, y := d.Next(0xad)
	if x[0] = 'z'; y[0] != 0x4e2d || a != b || d != before {
		t.Errorf("%x, %+v", y, d)
	}
	_, one := d.Run("\xad\xad")
	_, two := d.Run("\xad\xad")
	if one[0], one[1] = 'z', 'z'; !slices.Equal(two, []rune{0x4e2d, Bad}) {
		t.Errorf("%x", two)
	}
	e, f := d.End(), d.End()
	if e[0] = 'z'; f[0] != Bad || d.End()[0] != Bad {
		t.Errorf("%x", f)
	}
	p, q := Decode("ab\xc3"), Decode("ab\xc3")
	if clear(p); !slices.Equal(q, []rune{'a', 'b', Bad}) {
		t.Errorf("%x", q)
	}
}

// A Decoder that no call made: what it tells is free, but each call ends.
func TestForeignDecoders(t *testing.T) {
	s := of(edges...)
	for lead := range 256 {
		for _, need := range []int{math.MinInt, -1, 0, 1, 2, 3, 4, 1 << 40, math.MaxInt} {
			for _, r := range []rune{math.MinInt32, -1, 0, 0xd800, 0x110000, math.MaxInt32} {
				d := Decoder{byte(lead), r, need}
				for _, b := range edges {
					d.Next(b)
				}
				d.Run(s)
				d.Run(strings.Repeat("\x80", 9))
				d.End()
			}
		}
	}
}
