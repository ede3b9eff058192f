package delta

import (
	"hash/crc32"
	"math/rand"
	"slices"
	"strings"
	"testing"

	"tidewrack/api"
	"tidewrack/book"
	"tidewrack/num"
	"tidewrack/row"
	"tidewrack/snap"
)

// bytesOf is numbers as bytes, one behind the other.
func bytesOf(nums ...int) string {
	var out num.Out
	return out.Num(nums...).Bytes()
}

// plainSum is a snap's sum by the library's own.
func plainSum(s snap.Snap) int {
	return int(crc32.ChecksumIEEE([]byte(s.Pack())))
}

// plainPlaces are the places of rows that differ, from the lowest one up.
func plainPlaces(a, b snap.Snap) []int {
	var l []int
	for y := len(b.Rows) - 1; y >= 0; y-- {
		if y >= len(a.Rows) || a.Rows[y].Wrapped != b.Rows[y].Wrapped || !slices.Equal(a.Rows[y].Cells, b.Rows[y].Cells) {
			l = append([]int{y}, l...)
		}
	}
	return l
}

// empty: nothing of it is there.
func empty(s snap.Snap) bool {
	return [7]int{s.K, s.W, s.H, s.X, s.Y, s.Len, s.Chain} == [7]int{} && s.Title == "" && len(s.Rows) == 0 && len(s.Begun) == 0
}

// plainDiff is what the chapter tells of two snaps.
func plainDiff(a, b snap.Snap) string {
	if a.Check() != api.OK || b.Check() != api.OK || empty(b) {
		return ""
	}
	places := plainPlaces(a, b)
	s := bytesOf(plainSum(a), b.K, b.W, b.H, b.X, b.Y, len(b.Title)) + b.Title + bytesOf(b.Len, b.Chain) + book.Pack(b.Begun...) + bytesOf(len(places))
	for _, y := range places {
		s += bytesOf(y) + snap.PackRow(b.Rows[y])
	}
	return s
}

// reader takes bytes up to the first error, which it keeps.
type reader struct {
	*num.In
}

// among takes a number that may be from least to most.
func (r reader) among(least, most int) int {
	n := r.Num()
	if r.Err() == api.OK && (n < least || n > most) {
		r.Fail(api.ErrForm)
	}
	return n
}

// plainRead takes a change's parts: the base, the snap with a row without cells at each place, and which of its rows are told.
func plainRead(r reader) (int, snap.Snap, []bool) {
	base := r.among(0, 1<<62)
	s := snap.Snap{K: r.among(0, 1<<62), W: r.among(0, 1000), H: r.among(0, 1000), X: r.among(0, 1<<62), Y: r.among(0, 1<<62), Title: r.Text(), Len: r.among(0, 1<<62), Chain: r.among(0, 1<<62)}
	s.Begun = book.Read(r.In)
	count := r.among(0, 1<<62)
	if r.Err() != api.OK {
		return 0, snap.Snap{}, nil
	}
	s.Rows = make([]row.Row, s.H)
	told := make([]bool, s.H)
	last := -1
	for ; count > 0; count-- {
		last = r.among(last+1, s.H-1)
		if r.Err() != api.OK {
			return 0, snap.Snap{}, nil
		}
		s.Rows[last], told[last] = snap.ReadRow(r.In, s.W), true
	}
	return base, s, told
}

// plainApply is what the chapter tells of a snap and bytes.
func plainApply(a snap.Snap, text string) (snap.Snap, api.Errno) {
	if a.Check() != api.OK {
		return snap.Snap{}, api.ErrForm
	}
	r := reader{num.Of(text)}
	base, s, told := plainRead(r)
	if e := r.End(); e != api.OK {
		return snap.Snap{}, e
	}
	if base != plainSum(a) {
		return snap.Snap{}, api.ErrBase
	}
	for y := range s.Rows {
		there := y < len(a.Rows)
		alike := there && a.Rows[y].Same(s.Rows[y])
		if told[y] && alike || !told[y] && !there {
			return snap.Snap{}, api.ErrForm
		}
		if !told[y] {
			s.Rows[y] = a.Clone().Rows[y]
		}
	}
	if s.Check() != api.OK || empty(s) {
		return snap.Snap{}, api.ErrForm
	}
	return s, api.OK
}

// checkApply: what the chapter tells; and no other bytes make the same snap of the same one.
func checkApply(t *testing.T, a snap.Snap, text string) api.Errno {
	t.Helper()
	want, e := plainApply(a, text)
	got, ge := Apply(a, text)
	if ge != e || !got.Same(want) {
		t.Fatalf("%v, %x: %v, %d, want %v, %d", a, text, got, ge, want, e)
	}
	if e == api.OK && Diff(a, got) != text {
		t.Fatalf("%v, %x: what makes it is %x", a, text, Diff(a, got))
	}
	return e
}

func pick[T any](random *rand.Rand, l ...T) T {
	return l[random.Intn(len(l))]
}

// randomRow is one of few, so that rows are often alike.
func randomRow(random *rand.Rand, w int) row.Row {
	r := row.Row{Wrapped: random.Intn(4) == 0}
	for range w {
		r.Cells = append(r.Cells, row.Cell{Rune: pick(random, ' ', ' ', 'a', 0x10ffff), Style: pick(random, 0, 0, 647), Part: pick(random, 0, 0, 0, 3)})
	}
	return r
}

// randomSnap is one that may be; now and then the empty one.
func randomSnap(random *rand.Rand) snap.Snap {
	if random.Intn(12) == 0 {
		return snap.Snap{}
	}
	s := snap.Snap{K: pick(random, 1, 2, 128, 1<<60), W: 1 + random.Intn(3), H: 1 + random.Intn(4), Title: pick(random, "", "t", strings.Repeat("\xff", 200)), Len: pick(random, 0, 1, 1<<60), Chain: pick(random, 0, 1, 1<<48)}
	s.X, s.Y = random.Intn(s.W), random.Intn(s.H)
	for range s.H {
		s.Rows = append(s.Rows, randomRow(random, s.W))
	}
	for range random.Intn(3) {
		s.Begun = append(s.Begun, row.Glyph{Rune: pick(random, 0, 'b'), Style: pick(random, 0, 647)})
	}
	return s
}

// nextSnap is one that may come of another one, most of whose rows stay.
func nextSnap(random *rand.Rand, a snap.Snap) snap.Snap {
	b := randomSnap(random)
	if empty(a) || empty(b) || random.Intn(5) == 0 {
		return b
	}
	if random.Intn(4) > 0 {
		b.W, b.X = a.W, random.Intn(a.W)
	}
	for y := range b.Rows {
		b.Rows[y] = randomRow(random, b.W)
		if y < len(a.Rows) && b.W == a.W && random.Intn(3) > 0 {
			b.Rows[y] = a.Clone().Rows[y]
		}
	}
	return b
}

// spoilt is a text of which something is another one.
func spoilt(random *rand.Rand, s string) string {
	if s == "" {
		return pick(random, "", "\x00", strings.Repeat("\x00", 11))
	}
	at := random.Intn(len(s))
	some := pick(random, "\x00", "\x01", "\x02", "\x03", "a", "\x7f", "\x80", "\x80\x00", "\x87\x05", "\x88\x05", "\xe9\x07", "\x80\x80\x44", "\x81\x08", "\x80\x80\x80\x80\x80\x80\x80\x80\x40", strings.Repeat("\xff", 9), string([]byte{byte(random.Intn(256))}))
	switch random.Intn(5) {
	case 0:
		return s[:at]
	case 1:
		return s[:at] + some + s[at:]
	case 2:
		return s[:at] + some + s[at+1:]
	case 3:
		return s[:at] + s[at+1:]
	}
	return s + some
}

// P17.2: what makes one snap another one does so.
func TestBack(t *testing.T) {
	random := rand.New(rand.NewSource(171))
	for range 20000 {
		a := randomSnap(random)
		b := nextSnap(random, a)
		s := Diff(a, b)
		if s != plainDiff(a, b) || !slices.Equal(Changes(a, b), plainPlaces(a, b)) {
			t.Fatalf("%v, %v: %x, %d, want %x", a, b, s, Changes(a, b), plainDiff(a, b))
		}
		if empty(b) {
			continue
		}
		if got, e := Apply(a, s); e != api.OK || !got.Same(b) {
			t.Fatalf("%v, %v: %v, %d", a, b, got, e)
		}
	}
}

// P17.1: any bytes, of which most are nearly those of a change.
func TestApplyAny(t *testing.T) {
	random := rand.New(rand.NewSource(172))
	told := map[api.Errno]int{}
	for range 120000 {
		a := randomSnap(random)
		s := Diff(a, nextSnap(random, a))
		for range 1 + random.Intn(3) {
			s = spoilt(random, s)
		}
		told[checkApply(t, a, s)]++
	}
	for range 60000 {
		s := pick(random, "", "\x00", strings.Repeat("\x00", 10), "\x00\x01\x01\x01\x00\x00\x00\x00\x00\x00", "\x00\x01\x02\x02\x00\x00\x00\x00\x00\x00", "\x00\x01\x00\x02\x00\x00\x00\x00\x00\x00")
		for range random.Intn(12) {
			s += pick(random, "\x00", "\x00", "\x01", "\x01", "\x02", "\x03", "\x20", "\x80", "\x01\x00\x01\x20\x00\x00")
		}
		told[checkApply(t, snap.Snap{}, s)]++
	}
	if told[api.OK] < 1000 || told[api.ErrForm] < 10000 || told[api.ErrEnd] < 10000 || told[api.ErrBase] < 1000 {
		t.Errorf("told: %v", told)
	}
}

// All texts of few bytes, at the head, at the rows, and behind them.
func TestApplyShort(t *testing.T) {
	for a := range 256 {
		one := string([]byte{byte(a)})
		checkApply(t, snap.Snap{}, one)
		for b := range 256 {
			two := one + string([]byte{byte(b)})
			checkApply(t, snap.Snap{}, two)
			checkApply(t, snap.Snap{}, "\x00\x01\x01\x01\x00\x00\x00\x00\x00\x00"+two+"\x00\x01\x20\x00\x00")
			checkApply(t, snap.Snap{}, "\x00\x01\x01\x01\x00\x00\x00\x00\x00\x00\x01\x00"+two+"\x20\x00\x00")
			checkApply(t, snap.Snap{}, two+"\x01\x01\x00\x00\x00\x00\x00\x00\x01\x00\x00\x01\x20\x00\x00")
		}
	}
}

// P17.3: upon a snap whose Sum is another one nothing is made.
func TestWrongBase(t *testing.T) {
	random := rand.New(rand.NewSource(173))
	for range 20000 {
		a := randomSnap(random)
		b, c := nextSnap(random, a), nextSnap(random, a)
		s := Diff(a, b)
		if s == "" {
			continue
		}
		want := api.ErrBase
		if c.Sum() == a.Sum() {
			want = api.OK
		} else if random.Intn(4) == 0 {
			c.X = -1
			want = api.ErrForm
		}
		if got, e := Apply(c, s); e != want || e != api.OK && !empty(got) {
			t.Fatalf("%v, %v, upon %v: %v, %d, want %d", a, b, c, got, e, want)
		}
	}
}
