package client

import (
	"fmt"
	"math"
	"slices"
	"strings"
	"testing"

	"tidewrack/api"
	"tidewrack/book"
	"tidewrack/delta"
	"tidewrack/gram"
	"tidewrack/num"
	"tidewrack/parts"
	"tidewrack/row"
	"tidewrack/snap"
	"tidewrack/spans"
	"tidewrack/sum"
)

const (
	greatest = 1 << 32
	end      = 1 << 60
)

// packed is a datagram's bytes.
func packed(t *testing.T, epoch, kind int, data string, nums ...int) string {
	t.Helper()
	s := gram.Gram{Epoch: epoch, Kind: kind, Nums: nums, Data: data}.Pack()
	if s == "" {
		t.Fatalf("%d, %d, %d: no datagram", epoch, kind, nums)
	}
	return s
}

// glyphs are those of a text.
func glyphs(text string) []row.Glyph {
	var l []row.Glyph
	for _, r := range text {
		l = append(l, row.Glyph{Rune: r, Style: 2})
	}
	return l
}

// linesOf is lines as bytes.
func linesOf(texts ...string) string {
	s := ""
	for _, text := range texts {
		s += book.Pack(glyphs(text)...)
	}
	return s
}

// lines is a datagram with lines.
func lines(t *testing.T, epoch, first int, texts ...string) string {
	t.Helper()
	return packed(t, epoch, gram.Lines, linesOf(texts...), first, len(texts))
}

// snapOf is a snap of K k with so many lines. That of K 0 is the empty one.
func snapOf(k, length int) snap.Snap {
	if k == 0 {
		return snap.Snap{}
	}
	cells := []row.Cell{{Rune: rune('0' + k%10)}, {Rune: ' '}}
	return snap.Snap{K: k, W: 2, H: 1, X: 1, Title: "t", Rows: []row.Row{{Cells: cells}}, Len: length, Chain: k, Begun: glyphs("b")}
}

// diffs is datagrams that make one snap another one, by a message in parts of so many bytes.
func diffs(t *testing.T, epoch, id, size int, from, to snap.Snap) []string {
	t.Helper()
	pieces := parts.Split(delta.Diff(from, to), size)
	var l []string
	for i, data := range pieces {
		l = append(l, packed(t, epoch, gram.Diff, data, id, to.K, from.K, i, len(pieces)))
	}
	return l
}

// hear is told datagrams, none of which is wrong.
func hear(t *testing.T, c *Client, l ...string) {
	t.Helper()
	for _, data := range l {
		if e := c.Hear(0, data); e != api.OK {
			t.Fatalf("Hear of %q: %d", data, e)
		}
	}
}

// text is spans in short.
func text(l []spans.Span) string {
	if len(l) == 0 {
		return "none"
	}
	var all []string
	for _, x := range l {
		all = append(all, fmt.Sprint(x.From, "-", x.To))
	}
	return strings.Join(all, " ")
}

// said is what goes out, in short: each datagram's epoch, its kind, its Nums, and its Data.
func said(t *testing.T, l []string) string {
	t.Helper()
	if len(l) == 0 {
		return "none"
	}
	var all []string
	for _, data := range l {
		g, e := gram.Parse(data)
		name := map[int]string{gram.Ack: "Ack", gram.Ask: "Ask"}[g.Kind]
		if e != api.OK || name == "" {
			t.Errorf("%q goes out: %d", data, e)
		}
		all = append(all, strings.TrimSpace(fmt.Sprintf("%d: %s %d %x", g.Epoch, name, g.Nums, g.Data)))
	}
	return strings.Join(all, ", ")
}

// ticks is all that goes out at the first ticks, in short.
func ticks(t *testing.T, step func(now int) []string) string {
	t.Helper()
	s := ""
	for now := range 40 {
		if l := step(now); len(l) > 0 {
			s += fmt.Sprint(" at ", now, " ", said(t, l))
		}
	}
	return s
}

// order is the lines at hand, the eldest one first: as they go, when others come.
func order(t *testing.T, c *Client) []int {
	t.Helper()
	if c.epoch == 0 {
		return nil
	}
	d := c.Clone()
	var l []int
	for i := 1 << 50; i < 1<<50+c.Cache; i++ {
		was := d.Spans()
		d.Want(i, i+1)
		hear(t, d, lines(t, d.epoch, i, "other"))
		for _, x := range was {
			for k := x.From; k < x.To; k++ {
				if _, ok := d.cache.Peek(k); !ok {
					l = append(l, k)
				}
			}
		}
	}
	return l
}

// told is all that can be told of a client, in short.
func told(t *testing.T, c *Client) string {
	t.Helper()
	s := fmt.Sprint("epoch ", c.Epoch(), ", at ", c.Addr(), ", has ", text(c.Spans()), ", wants ", text(c.Wanted()), ", K ", c.Snap().K, " ", c.Snap().Pack())
	for _, x := range c.Spans() {
		for i := x.From; i < x.To; i++ {
			l, ok := c.Line(i)
			s += fmt.Sprint(" ", i, ok, l)
		}
	}
	return s + fmt.Sprint(order(t, c)) + ticks(t, c.Clone().Step)
}

// The chapter's example.
func TestExample(t *testing.T) {
	c := New(Config{Cache: 5, Every: 2})
	c.Step(0)
	hear(t, c, packed(t, 3, gram.Lines, "", 0, 0))
	if got := said(t, c.Step(2)); c.Epoch() != 3 || got != "3: Ack [0 0]" {
		t.Errorf("%d, %s", c.Epoch(), got)
	}
}

// Each number of a configuration below, at and above its bounds.
var configs = []struct{ asked, counts Config }{
	{Config{1, 1, 0}, Config{1, 1, 0}}, {Config{2, 3, 4}, Config{2, 3, 4}}, {Config{100, 1 << 20, greatest}, Config{100, 1 << 20, greatest}}, {Config{3, 1<<20 - 1, greatest - 1}, Config{3, 1<<20 - 1, greatest - 1}},
	{Config{0, 5, 6}, Config{1, 5, 6}}, {Config{-1, 5, 6}, Config{1, 5, 6}}, {Config{1<<16 - 1, 5, 6}, Config{1<<16 - 1, 5, 6}}, {Config{1 << 16, 5, 6}, Config{1 << 16, 5, 6}}, {Config{1<<16 + 1, 5, 6}, Config{1 << 16, 5, 6}},
	{Config{4, 0, 6}, Config{4, 1, 6}}, {Config{4, -1, 6}, Config{4, 1, 6}}, {Config{4, 1<<20 + 1, 6}, Config{4, 1 << 20, 6}},
	{Config{4, 5, -1}, Config{4, 5, 0}}, {Config{4, 5, greatest + 1}, Config{4, 5, greatest}},
	{Config{math.MinInt, math.MinInt, math.MinInt}, Config{1, 1, 0}}, {Config{math.MaxInt, math.MaxInt, math.MaxInt}, Config{1 << 16, 1 << 20, greatest}}, {Config{}, Config{1, 1, 0}},
}

// A new one, what it says at first, and that its configuration counts as it ought to.
func TestNew(t *testing.T) {
	for _, x := range configs {
		c := New(x.asked)
		every, most := x.counts.Every, x.counts.Cache
		if c.Epoch() != 0 || c.Addr() != x.counts.Addr || text(c.Spans()) != "none" || text(c.Wanted()) != "none" || !c.Snap().Same(snap.Snap{}) {
			t.Errorf("%v: epoch %d, at %d, has %v, wants %v, %v", x.asked, c.Epoch(), c.Addr(), c.Spans(), c.Wanted(), c.Snap())
		}
		if l, ok := c.Line(0); ok || l != nil {
			t.Errorf("%v: %v is at hand", x.asked, l)
		}
		first, ahead, again := said(t, c.Step(0)), said(t, c.Step(every-1)), said(t, c.Step(every))
		if first != "1: Ack [0 0]" || ahead != "none" || again != first {
			t.Errorf("%v: %s, %s, %s", x.asked, first, ahead, again)
		}
		hear(t, c, diffs(t, 1, 1, 8000, snap.Snap{}, snapOf(1, 1<<20))...)
		if got, want := c.Want(3, math.MaxInt), fmt.Sprint(3, "-", 3+most); got != most || text(c.Wanted()) != want {
			t.Errorf("%v: %d, %s, want %s", x.asked, got, text(c.Wanted()), want)
		}
		// Asks go out as often as Acks do.
		asked := fmt.Sprint("1: Ask [3 ", 3+most, "]")
		if got := said(t, c.Step(every)); got != asked {
			t.Errorf("%v: %s", x.asked, got)
		}
		ahead, again = said(t, c.Step(2*every-1)), said(t, c.Step(2*every))
		if ahead != "none" || again != "1: Ack [1 0], "+asked {
			t.Errorf("%v: %s, %s", x.asked, ahead, again)
		}
	}
}

// fill is told lines without glyphs, of which it wants some.
func fill(t *testing.T, c *Client, from, to int) {
	t.Helper()
	for i := from; i < to; i += 4000 {
		n := min(4000, to-i)
		hear(t, c, packed(t, max(1, c.Epoch()), gram.Lines, strings.Repeat("\x00", n), i, n))
	}
}

// P23.3, and P5: as many lines are at hand as may be, and no more.
func TestBound(t *testing.T) {
	for _, x := range configs {
		c, most := New(x.asked), x.counts.Cache
		hear(t, c, diffs(t, 1, 1, 8000, snap.Snap{}, snapOf(1, 1<<20))...)
		c.Want(7, math.MaxInt)
		fill(t, c, 0, 7+most+9)
		if got, want := text(c.Spans()), fmt.Sprint(7, "-", 7+most); got != want || text(c.Wanted()) != "none" {
			t.Errorf("%v: has %s, wants %v, want %s", x.asked, got, c.Wanted(), want)
		}
		c.Want(100000, 100001)
		fill(t, c, 99999, 100002)
		want := "100000-100001"
		if most > 1 {
			want = fmt.Sprint(8, "-", 7+most, " ", want)
		}
		if got := text(c.Spans()); got != want {
			t.Errorf("%v: has %s, want %s", x.asked, got, want)
		}
	}
}

var addresses = [][2]int{{0, 0}, {1, 1}, {9, 9}, {77, 77}, {greatest, greatest}, {greatest + 1, greatest}, {greatest - 1, greatest - 1}, {-1, 0}, {math.MinInt, 0}, {math.MaxInt, greatest}}

func TestMove(t *testing.T) {
	for _, x := range addresses {
		c := behind(t)
		was := told(t, c)
		c.Move(x[0])
		if got, want := told(t, c), strings.Replace(was, "at 9", fmt.Sprint("at ", x[1]), 1); c.Addr() != x[1] || got != want {
			t.Errorf("%d: %s, want %s", x[0], got, want)
		}
	}
}

// behind is a client of epoch 5 at 9, which knows of 12 lines by the snap of K 2; of a message that makes that one the snap of K 3 it has the first one of two parts. At hand are the lines 1, 2 and 3, of which 2 is the eldest one, 3 the newest one; 4, 5 and 6 are wanted. It spoke at the tick 3, and asked then.
func behind(t *testing.T) *Client {
	t.Helper()
	c := New(Config{Cache: 4, Every: 5, Addr: 9})
	hear(t, c, diffs(t, 5, 6, 8000, snapOf(0, 0), snapOf(2, 12))...)
	c.Want(1, 4)
	hear(t, c, lines(t, 5, 2, "two"), lines(t, 5, 3, "three"), lines(t, 5, 1, "one"))
	c.Want(3, 7)
	hear(t, c, next(t)[0])
	if got := said(t, c.Step(3)); got != "5: Ack [2 7] 01, 5: Ask [4 7]" || text(c.Spans()) != "1-4" || text(c.Wanted()) != "4-7" {
		t.Fatalf("%s, has %s, wants %s", got, text(c.Spans()), text(c.Wanted()))
	}
	if got := fmt.Sprint(order(t, c)); got != "[2 1 3]" {
		t.Fatal(got)
	}
	return c
}

// next is the message that it has a part of.
func next(t *testing.T) []string {
	t.Helper()
	return diffs(t, 5, 7, 1+len(delta.Diff(snapOf(2, 12), snapOf(3, 14)))/2, snapOf(2, 12), snapOf(3, 14))
}

// sealed is numbers as bytes, and their sum.
func sealed(l ...int) string {
	var out num.Out
	return sum.Seal(out.Num(l...).Bytes())
}

// heard is a datagram, and what comes of it.
type heard struct {
	what, data string
	e          api.Errno
}

// refused is datagrams that are none, or of a kind that a client doesn't hear, whatever their epoch.
func refused(t *testing.T) []heard {
	t.Helper()
	diff, some := next(t)[1], lines(t, 5, 4, "four")
	var l []heard
	for i, data := range []string{"", "x", "xyz", "\x00\x00\x00", diff[1:], diff[:len(diff)-1], diff + "x", some[1:], some + "\x00", strings.Repeat("\x01", 8192), sum.Turn(diff, 11, 1), sum.Turn(some, 0, 1<<31)} {
		l = append(l, heard{fmt.Sprint("unsealed, ", i), data, api.ErrSum})
	}
	l = append(l, heard{"too long", strings.Repeat("x", 8193), api.ErrBig}, heard{"too long, and sealed", sum.Seal(strings.Repeat("x", 8189)), api.ErrBig}, heard{"no bytes, sealed", sealed(), api.ErrEnd}, heard{"cut off", sealed(5, gram.Lines, 2, 4), api.ErrEnd}, heard{"cut off, newer", sealed(6, gram.Diff, 5, 4), api.ErrEnd}, heard{"bytes left", sealed(5, gram.Lines, 2, 4, 0, 0, 0), api.ErrForm}, heard{"bytes left, newer", sealed(6, gram.Lines, 2, 0, 0, 0, 0), api.ErrForm}, heard{"too many Nums", sealed(6, gram.Lines, 65), api.ErrForm})
	l = append(l, heard{"no epoch", sealed(0, gram.Lines, 2, 0, 0, 0), api.ErrArg}, heard{"an epoch too great", sealed(greatest+1, gram.Lines, 2, 0, 0, 0), api.ErrArg}, heard{"no kind", sealed(6, 0, 2, 0, 0, 0), api.ErrArg}, heard{"the kind 5", sealed(4, 5, 2, 0, 0, 0), api.ErrArg})
	for _, kind := range []int{gram.Ack, gram.Ask} {
		for _, epoch := range []int{1, 4, 5, 6, greatest} {
			for _, nums := range [][]int{nil, {0, 0}, {4, 1}, {7, 3, 2, 1, 2}, {3}} {
				l = append(l, heard{fmt.Sprint("the kind ", kind, " of ", epoch, " with ", nums), packed(t, epoch, kind, linesOf("four"), nums...), api.ErrKind})
			}
		}
	}
	return l
}

// old is datagrams of older epochs, right ones and wrong ones.
func old(t *testing.T) []heard {
	t.Helper()
	var l []heard
	for _, epoch := range []int{1, 3, 4} {
		for _, nums := range [][]int{nil, {0}, {0, 0}, {4, 1}, {4, 2}, {7, 3, 2, 1, 2}, {8, 9, 0, 0, 1}, {7, 1, 9, 3, 2}, make([]int, 64)} {
			for _, kind := range []int{gram.Diff, gram.Lines} {
				l = append(l, heard{fmt.Sprint("the kind ", kind, " of ", epoch, " with ", nums), packed(t, epoch, kind, linesOf("four"), nums...), api.ErrOld})
			}
		}
	}
	return l
}

// wrongDiffs is Diffs of an epoch that aren't taken, and change nothing of what layer 20 has; of a client that has the snap of K 2, and a part of the message 7.
func wrongDiffs(t *testing.T, epoch int) []heard {
	t.Helper()
	var l []heard
	for _, x := range []struct {
		e    api.Errno
		nums []int
	}{
		{api.ErrForm, nil}, {api.ErrForm, []int{7}}, {api.ErrForm, []int{7, 3, 2, 1}}, {api.ErrForm, []int{7, 3, 2, 1, 2, 0}}, {api.ErrForm, []int{7, 1, 9, 1}}, {api.ErrForm, make([]int, 64)},
		{api.ErrOld, []int{7, 2, 2, 1, 2}}, {api.ErrOld, []int{8, 1, 0, 0, 1}}, {api.ErrOld, []int{0, 0, 0, 0, 0}}, {api.ErrOld, []int{7, 2, 9, 2, 2}},
		{api.ErrBase, []int{7, 3, 1, 1, 2}}, {api.ErrBase, []int{8, 9, 3, 0, 1}}, {api.ErrBase, []int{7, 3, 1 << 62, 2, 2}},
		{api.ErrArg, []int{7, 3, 2, 1, 0}}, {api.ErrArg, []int{8, 3, 2, 0, 4097}}, {api.ErrArg, []int{7, 3, 2, 2, 2}}, {api.ErrArg, []int{0, 3, 2, 1, 2}},
		{api.ErrOld, []int{6, 3, 2, 1, 2}}, {api.ErrOld, []int{1, 3, 0, 0, 1}}, {api.ErrForm, []int{7, 3, 2, 1, 3}}, {api.ErrForm, []int{7, 3, 2, 0, 1}},
	} {
		l = append(l, heard{fmt.Sprint("Diff with ", x.nums), packed(t, epoch, gram.Diff, "x", x.nums...), x.e})
	}
	return l
}

// wrongLines is Lines of an epoch that aren't read.
func wrongLines(t *testing.T, epoch int) []heard {
	t.Helper()
	var l []heard
	add := func(e api.Errno, data string, nums ...int) {
		l = append(l, heard{fmt.Sprintf("Lines with %d and %q", nums, data), packed(t, epoch, gram.Lines, data, nums...), e})
	}
	two := linesOf("four", "five")
	add(api.ErrForm, two)
	add(api.ErrForm, two, 4)
	add(api.ErrForm, two, 4, 2, 0)
	add(api.ErrForm, two[:3])
	add(api.ErrForm, two, 4, 0)
	add(api.ErrForm, two, 4, 1)
	add(api.ErrForm, two, 4, 3)
	add(api.ErrForm, two, 4, 1<<62)
	add(api.ErrForm, "", 4, 1)
	add(api.ErrForm, two+"\x00", 4, 2)
	add(api.ErrEnd, two[:len(two)-1], 4, 2)
	add(api.ErrEnd, two+"\x01", 4, 3)
	add(api.ErrEnd, "\x80", 4, 1)
	add(api.ErrForm, "\x80\x00", 4, 1)
	add(api.ErrForm, "\x00\x81\x08", 4, 2)
	add(api.ErrForm, "\x01\x61\x88\x05", 4, 1)
	return l
}

// P4, P23.2: what layer 3 refuses, what is of an older epoch, and whatever else is wrong from its head on changes nothing.
func TestHearWrong(t *testing.T) {
	for _, h := range slices.Concat(refused(t), old(t), wrongDiffs(t, 5), wrongLines(t, 5)) {
		c := behind(t)
		was := told(t, c)
		for _, now := range []int{0, 3, 20, -1, math.MinInt, math.MaxInt} {
			if e := c.Hear(now, h.data); e != h.e || told(t, c) != was {
				t.Errorf("%s: %d, want %d; %s, was %s", h.what, e, h.e, told(t, c), was)
			}
		}
	}
}

// P4: a burst of 1 to 32 bits is told, wherever it is.
func TestHearTurned(t *testing.T) {
	c := behind(t)
	was := told(t, c)
	for _, data := range []string{next(t)[1], lines(t, 5, 4, "4", "5"), packed(t, 6, gram.Lines, "", 0, 0), diffs(t, greatest, 1, 8000, snapOf(0, 0), snapOf(1, 0))[0]} {
		for at := range 8 * len(data) {
			for _, mask := range []uint32{1, 3, 0x81, 0x8001, 0x80000001, 0xffffffff, 0xdeadbeef} {
				if e := c.Hear(0, sum.Turn(data, at, mask)); e != api.ErrSum {
					t.Fatalf("%q, turned at %d by %x: %d", data, at, mask, e)
				}
			}
		}
		if got := told(t, c); got != was {
			t.Errorf("%q: %s, was %s", data, got, was)
		}
	}
}

// fresh is what is told of a client as behind, which begins another epoch.
func fresh(epoch int, has string) string {
	s := fmt.Sprint("epoch ", epoch, ", at 9, has none, wants none, K 0 []")
	for now := 8; now < 40; now += 5 {
		s += fmt.Sprint(" at ", now, " ", epoch, ": Ack ", has)
	}
	return s
}

// A newer epoch: all is anew, even where an error is told behind it, but where the client is, and when it speaks.
func TestHearNewer(t *testing.T) {
	one := diffs(t, 1, 1, 8000, snapOf(0, 0), snapOf(1, 0))[0]
	g, _ := gram.Parse(one)
	for _, epoch := range []int{6, 7, greatest} {
		l := append(wrongLines(t, epoch), heard{"a notice", packed(t, epoch, gram.Lines, "", 0, 0), api.OK}, heard{"a notice of other lines", packed(t, epoch, gram.Lines, "", 4, 0), api.OK}, heard{"lines that were wanted", lines(t, epoch, 4, "four", "five"), api.OK}, heard{"lines that were at hand", lines(t, epoch, 1, "one"), api.OK})
		for _, x := range []struct {
			e    api.Errno
			data string
			nums []int
		}{
			{api.ErrForm, g.Data, nil}, {api.ErrForm, g.Data, []int{1, 1, 0, 0}}, {api.ErrForm, g.Data, []int{1, 1, 0, 0, 1, 0}}, {api.ErrForm, g.Data, []int{1, 0, 2, 0}},
			{api.ErrOld, g.Data, []int{1, 0, 0, 0, 1}}, {api.ErrOld, g.Data, []int{1, 0, 2, 0, 1}},
			{api.ErrBase, g.Data, []int{8, 3, 2, 0, 1}}, {api.ErrBase, g.Data, []int{1, 1, 1, 0, 1}},
			{api.ErrArg, g.Data, []int{0, 1, 0, 0, 1}}, {api.ErrArg, g.Data, []int{1, 1, 0, 1, 1}}, {api.ErrArg, g.Data, []int{1, 1, 0, 0, 0}},
			{api.ErrEnd, "", []int{1, 1, 0, 0, 1}}, {api.ErrEnd, g.Data[:len(g.Data)-1], []int{1, 1, 0, 0, 1}}, {api.ErrForm, g.Data + "x", []int{1, 1, 0, 0, 1}}, {api.ErrForm, g.Data, []int{1, 2, 0, 0, 1}}, {api.ErrBase, delta.Diff(snapOf(2, 12), snapOf(3, 14)), []int{8, 3, 0, 0, 1}},
		} {
			l = append(l, heard{fmt.Sprintf("Diff with %d and %q", x.nums, x.data), packed(t, epoch, gram.Diff, x.data, x.nums...), x.e})
		}
		for _, h := range l {
			c := behind(t)
			if e := c.Hear(0, h.data); e != h.e || told(t, c) != fresh(epoch, "[0 0]") {
				t.Errorf("%s of %d: %d, want %d; %s", h.what, epoch, e, h.e, told(t, c))
			}
		}
		// A part is there, though its message isn't whole; of the elder message with the same id none is.
		c := behind(t)
		hear(t, c, packed(t, epoch, gram.Diff, g.Data, 7, 1, 0, 1, 2))
		if got := told(t, c); got != fresh(epoch, "[0 7] 02") {
			t.Errorf("a part of %d: %s", epoch, got)
		}
		c = behind(t)
		hear(t, c, packed(t, epoch, gram.Diff, g.Data, 1, 1, 0, 0, 1))
		if got := ticks(t, c.Clone().Step); c.Epoch() != epoch || !c.Snap().Same(snapOf(1, 0)) || text(c.Spans()) != "none" || text(c.Wanted()) != "none" || !strings.HasPrefix(got, fmt.Sprint(" at 8 ", epoch, ": Ack [1 0] at 13")) {
			t.Errorf("a snap of %d: %s, %s", epoch, told(t, c), got)
		}
	}
}

// Behind a newer epoch lines come anew: those of the older one are void, and not heard of any more.
func TestLinesOfNewer(t *testing.T) {
	c := behind(t)
	hear(t, c, diffs(t, 6, 1, 8000, snapOf(0, 0), snapOf(1, 3))...)
	if n := c.Want(1, 9); n != 4 || text(c.Wanted()) != "1-5" {
		t.Errorf("%d, %s are wanted", n, text(c.Wanted()))
	}
	if e := c.Hear(0, lines(t, 5, 1, "one", "two")); e != api.ErrOld || text(c.Spans()) != "none" {
		t.Errorf("%d, %s", e, text(c.Spans()))
	}
	if got := said(t, c.Step(4)); got != "6: Ask [1 3]" {
		t.Error(got)
	}
	hear(t, c, lines(t, 6, 1, "other"))
	if l, ok := c.Line(1); !ok || !slices.Equal(l, glyphs("other")) || text(c.Spans()) != "1-2" || text(c.Wanted()) != "2-5" {
		t.Errorf("%v, has %s, wants %s", l, text(c.Spans()), text(c.Wanted()))
	}
}

// The first datagram that is heard is of a newer epoch than none.
func TestHearFirst(t *testing.T) {
	for _, epoch := range []int{1, 2, greatest} {
		c := New(Config{Cache: 3, Every: 4})
		if n := c.Want(0, 9); n != 3 || said(t, c.Step(0)) != "1: Ack [0 0]" {
			t.Errorf("%d are wanted", n)
		}
		hear(t, c, lines(t, epoch, 0, "zero", "one"))
		if c.Epoch() != epoch || text(c.Spans()) != "none" || text(c.Wanted()) != "none" {
			t.Errorf("%s", told(t, c))
		}
		c.Want(0, 9)
		hear(t, c, lines(t, epoch, 0, "zero", "one"))
		if got := text(c.Spans()) + ", " + text(c.Wanted()); got != "0-2, 2-3" {
			t.Errorf("%s", got)
		}
	}
}

// A message comes, in parts, and what is told behind each.
func TestHearDiff(t *testing.T) {
	for _, size := range []int{8000, 20, 7, 1} {
		for _, back := range []bool{false, true} {
			c := behind(t)
			l := diffs(t, 5, 8, size, snapOf(2, 12), snapOf(4, 9))
			if back {
				slices.Reverse(l)
			}
			for i, data := range l {
				if _, ok := c.Line(3); c.Snap().K != 2 || !ok {
					t.Fatalf("%d, %v: K %d ahead of the part %d", size, back, c.Snap().K, i)
				}
				hear(t, c, data)
			}
			if !c.Snap().Same(snapOf(4, 9)) || text(c.Spans()) != "1-4" || text(c.Wanted()) != "4-7" || said(t, c.Step(8)) != "5: Ack [4 0], 5: Ask [4 7]" {
				t.Errorf("%d, %v: %s", size, back, told(t, c))
			}
			was := told(t, c)
			for _, data := range l {
				if e := c.Hear(0, data); e != api.ErrOld {
					t.Errorf("twice: %d", e)
				}
			}
			if got := told(t, c); got != was {
				t.Errorf("%s, was %s", got, was)
			}
		}
	}
	c := behind(t)
	hear(t, c, next(t)...)
	if !c.Snap().Same(snapOf(3, 14)) {
		t.Errorf("%v", c.Snap())
	}
}

// A message that is whole, and wrong: it isn't there any more, and all else is as it was.
func TestHearWrongMessage(t *testing.T) {
	good := delta.Diff(snapOf(2, 12), snapOf(4, 9))
	for _, x := range []struct {
		what, data string
		k, base    int
		e          api.Errno
	}{
		{"none", "", 4, 2, api.ErrEnd}, {"cut off", good[:len(good)-1], 4, 2, api.ErrEnd}, {"bytes left", good + "\x00", 4, 2, api.ErrForm}, {"upon another one", delta.Diff(snapOf(1, 12), snapOf(4, 9)), 4, 2, api.ErrBase}, {"upon the empty one", good, 4, 0, api.ErrBase}, {"of another K", good, 5, 2, api.ErrForm}, {"not of the empty one", delta.Diff(snapOf(0, 0), snapOf(4, 9)), 4, 2, api.ErrBase},
	} {
		c := behind(t)
		want := strings.ReplaceAll(told(t, c), "[2 7] 01", "[2 0]")
		if e := c.Hear(0, packed(t, 5, gram.Diff, x.data, 8, x.k, x.base, 0, 1)); e != x.e || told(t, c) != want {
			t.Errorf("%s: %d, want %d; %s, want %s", x.what, e, x.e, told(t, c), want)
		}
	}
}

// Lines that are all wanted, some of them, none; one twice; none at all.
func TestHearLines(t *testing.T) {
	for _, x := range []struct {
		what        string
		first       int
		texts       []string
		has, wanted string
		order       string
	}{
		{"a notice", 0, nil, "1-4", "4-7", "[2 1 3]"}, {"none", 4, nil, "1-4", "4-7", "[2 1 3]"},
		{"one that is wanted", 4, []string{"4"}, "1-5", "5-7", "[2 1 3 4]"}, {"the last one", 6, []string{"6"}, "1-4 6-7", "4-6", "[2 1 3 6]"}, {"without glyphs", 5, []string{""}, "1-4 5-6", "4-5 6-7", "[2 1 3 5]"},
		{"two", 5, []string{"5", "6"}, "1-2 3-4 5-7", "4-5", "[1 3 5 6]"}, {"all of them", 4, []string{"4", "5", "6"}, "3-7", "none", "[3 4 5 6]"},
		{"one of several", 2, []string{"x", "y", "4"}, "1-5", "5-7", "[2 1 3 4]"}, {"others behind it", 6, []string{"6", "7", "8"}, "1-4 6-7", "4-6", "[2 1 3 6]"}, {"all, and others", 0, strings.Fields("x x x x 4 5 6 x x"), "3-7", "none", "[3 4 5 6]"},
		{"none of these, at hand", 1, []string{"x", "y", "z"}, "1-4", "4-7", "[2 1 3]"}, {"none of these", 7, []string{"x", "y"}, "1-4", "4-7", "[2 1 3]"}, {"none of these, far away", end - 1, []string{"x", "y"}, "1-4", "4-7", "[2 1 3]"}, {"as far as can be", 1 << 62, []string{"x", "y"}, "1-4", "4-7", "[2 1 3]"},
	} {
		c := behind(t)
		wanted := c.Wanted()
		data := lines(t, 5, x.first, x.texts...)
		hear(t, c, data)
		check := func(what string) {
			t.Helper()
			if got := fmt.Sprint(order(t, c)); text(c.Spans()) != x.has || text(c.Wanted()) != x.wanted || got != x.order || c.Snap().K != 2 {
				t.Errorf("%s: has %s, wants %s, %s, want %s, %s, %s", what, text(c.Spans()), text(c.Wanted()), got, x.has, x.wanted, x.order)
			}
			for i := range 9 {
				want := map[int]string{1: "one", 2: "two", 3: "three"}[i]
				for _, w := range wanted {
					if w.From <= i && i < w.To && i >= x.first && i < x.first+len(x.texts) {
						want = x.texts[i-x.first]
					}
				}
				if l, ok := c.Line(i); ok && !slices.Equal(l, glyphs(want)) {
					t.Errorf("%s: the line %d is %v", what, i, l)
				}
			}
		}
		check(x.what)
		hear(t, c, data)
		check(x.what + ", twice")
		// Another line of the same number isn't wanted any more.
		if len(x.texts) > 0 {
			hear(t, c, lines(t, 5, x.first, slices.Repeat([]string{"bad"}, len(x.texts))...))
			check(x.what + ", and others")
		}
	}
}

// What goes out at a tick.
func TestStep(t *testing.T) {
	c := New(Config{Cache: 20, Every: 5})
	for _, x := range []struct {
		what string
		do   func()
		now  int
		want string
	}{
		{"at first, ahead of all", func() { c.Want(0, 4) }, 0, "1: Ack [0 0]"}, {"ahead of its time", func() {}, 4, "none"}, {"of a notice", func() { hear(t, c, packed(t, 3, gram.Lines, "", 0, 0)) }, 4, "none"}, {"at its time", func() {}, 5, "3: Ack [0 0]"}, {"the same tick", func() {}, 5, "none"},
		{"a snap, and nothing wanted", func() { hear(t, c, diffs(t, 3, 1, 8000, snapOf(0, 0), snapOf(1, 6))...) }, 6, "none"}, {"lines that are wanted, ahead of its time", func() { c.Want(2, 9) }, 7, "3: Ask [2 6]"}, {"ahead of both times", func() {}, 9, "none"}, {"at its time alone", func() {}, 10, "3: Ack [1 0]"}, {"at that of the fetch alone", func() {}, 12, "3: Ask [2 6]"}, {"behind both", func() {}, 30, "3: Ack [1 0], 3: Ask [2 6]"},
		{"some came", func() { hear(t, c, lines(t, 3, 3, "3")) }, 35, "3: Ack [1 0], 3: Ask [2 3 4 6]"}, {"all that are there came", func() { hear(t, c, lines(t, 3, 0, "0", "1", "2", "3", "4", "5", "6")) }, 40, "3: Ack [1 0]"}, {"lines that aren't there yet", func() { c.Want(6, 9) }, 41, "none"}, {"and are then", func() { hear(t, c, diffs(t, 3, 2, 8000, snapOf(1, 6), snapOf(2, 8))...) }, 42, "3: Ask [7 8]"}, {"and all are", func() { hear(t, c, diffs(t, 3, 3, 8000, snapOf(2, 8), snapOf(3, 9))...) }, 47, "3: Ack [3 0], 3: Ask [7 9]"},
		{"parts that are there", func() { hear(t, c, diffs(t, 3, 9, 2, snapOf(3, 9), snapOf(4, 9))[3:12]...) }, 52, "3: Ack [3 9] f80f, 3: Ask [7 9]"}, {"many spans", many(t, c), 60, "3: Ack [7 0], 3: Ask [20 21 22 23 24 25 26 27 28 29 30 31 32 33 34 35]"},
		{"a tick behind", func() {}, 12, "none"}, {"a tick below 0", func() {}, math.MinInt, "none"}, {"the last tick", func() {}, 1 << 40, "3: Ack [7 0], 3: Ask [20 21 22 23 24 25 26 27 28 29 30 31 32 33 34 35]"}, {"the tick behind that", func() {}, 1<<40 + 1, "none"}, {"far above", func() {}, math.MaxInt, "none"}, {"another Want is asked at once", func() { c.Want(50, 52) }, 3, "3: Ask [50 52]"},
	} {
		x.do()
		if got := said(t, c.Step(x.now)); got != x.want {
			t.Errorf("%s: %s, want %s", x.what, got, x.want)
		}
	}
	c = New(Config{Cache: 20, Every: 5})
	if a, b, d := said(t, c.Step(math.MinInt)), said(t, c.Step(4)), said(t, c.Step(5)); a != "1: Ack [0 0]" || b != "none" || d != a {
		t.Errorf("below 0: %s, %s, %s", a, b, d)
	}
	c = New(Config{Cache: 20, Every: 5})
	if a, b, d := said(t, c.Step(3)), said(t, c.Step(7)), said(t, c.Step(8)); a != "1: Ack [0 0]" || b != "none" || d != a {
		t.Errorf("behind its time: %s, %s, %s", a, b, d)
	}
	c = New(Config{Cache: 20, Every: 5})
	if a, b, d := said(t, c.Step(math.MaxInt)), said(t, c.Step(1<<40)), said(t, c.Step(math.MaxInt)); a != "1: Ack [0 0]" || b != "none" || d != "none" {
		t.Errorf("above: %s, %s, %s", a, b, d)
	}
}

// many makes lines come so that more than eight spans are wanted.
func many(t *testing.T, c *Client) func() {
	return func() {
		hear(t, c, diffs(t, 3, 20, 8000, snapOf(3, 9), snapOf(7, 60))...)
		c.Want(20, 40)
		for i := 21; i < 40; i += 2 {
			hear(t, c, lines(t, 3, i, "x"))
		}
	}
}

// Lines that are at hand, that aren't, both and none: what is wanted, and which are the newest ones.
func TestWant(t *testing.T) {
	for _, x := range []struct {
		what     string
		from, to int
		n        int
		wanted   string
		order    string
	}{
		{"at hand", 1, 4, 0, "none", "[1 2 3]"}, {"one of them", 2, 3, 0, "none", "[1 3 2]"}, {"the newest one", 3, 4, 0, "none", "[2 1 3]"}, {"two of them", 1, 3, 0, "none", "[3 1 2]"},
		{"not at hand", 4, 6, 2, "4-6", "[2 1 3]"}, {"one that isn't", 0, 1, 1, "0-1", "[2 1 3]"}, {"as many as may be, none at hand", 4, 8, 4, "4-8", "[2 1 3]"}, {"more than may be", 4, 9, 4, "4-8", "[2 1 3]"}, {"far more", 7, math.MaxInt, 4, "7-11", "[2 1 3]"}, {"above the snap's Len", 12, 15, 3, "12-15", "[2 1 3]"},
		{"both", 2, 6, 2, "4-6", "[1 2 3]"}, {"both, more than may be", 2, 9, 2, "4-6", "[1 2 3]"}, {"both, one ahead", 0, 4, 1, "0-1", "[1 2 3]"}, {"the first ones alone are the newest ones", 0, 9, 1, "0-1", "[1 2 3]"}, {"the first one at hand alone", -1, 2, 1, "0-1", "[2 3 1]"}, {"at hand beyond those that may be", -3, 9, 1, "0-1", "[1 2 3]"},
		{"none", 2, 2, 0, "none", "[2 1 3]"}, {"none, at 0", 0, 0, 0, "none", "[2 1 3]"}, {"turned round", 4, 1, 0, "none", "[2 1 3]"}, {"turned round, as far as can be", math.MaxInt, math.MinInt, 0, "none", "[2 1 3]"}, {"below 0", -9, -2, 0, "none", "[2 1 3]"}, {"up to 0", -9, 0, 0, "none", "[2 1 3]"},
		{"from below 0", -2, 3, 1, "0-1", "[3 1 2]"}, {"from far below", math.MinInt, 2, 1, "0-1", "[2 3 1]"}, {"all", math.MinInt, math.MaxInt, 1, "0-1", "[1 2 3]"},
		{"up to the end", end - 2, end, 2, fmt.Sprint(end-2, "-", end), "[2 1 3]"}, {"beyond the end", end - 2, end + 7, 2, fmt.Sprint(end-2, "-", end), "[2 1 3]"}, {"far beyond", end - 5, math.MaxInt, 4, fmt.Sprint(end-5, "-", end-1), "[2 1 3]"}, {"at the end", end, end + 1, 0, "none", "[2 1 3]"}, {"behind the end", end + 1, math.MaxInt, 0, "none", "[2 1 3]"}, {"the greatest numbers", math.MaxInt - 1, math.MaxInt, 0, "none", "[2 1 3]"},
	} {
		c := behind(t)
		n := c.Want(x.from, x.to)
		if got := fmt.Sprint(order(t, c)); n != x.n || text(c.Wanted()) != x.wanted || got != x.order || text(c.Spans()) != "1-4" {
			t.Errorf("%s: %d, %s, %s, want %d, %s, %s", x.what, n, text(c.Wanted()), got, x.n, x.wanted, x.order)
		}
		// Those below the snap's Len are asked for at once.
		asked := "none"
		if w := c.Wanted(); len(w) > 0 && w[0].From < 12 {
			asked = fmt.Sprint("5: Ask [", w[0].From, " ", min(12, w[0].To), "]")
		}
		if got := said(t, c.Step(4)); got != asked {
			t.Errorf("%s: %s, want %s", x.what, got, asked)
		}
	}
}

// Lines that are at hand, and that Want tells of, are there behind all that it wants came.
func TestWantKeeps(t *testing.T) {
	c := behind(t)
	if n := c.Want(2, 9); n != 2 {
		t.Fatal(n)
	}
	hear(t, c, lines(t, 5, 4, "four", "five"))
	if got := text(c.Spans()); got != "2-6" || text(c.Wanted()) != "none" {
		t.Errorf("has %s, wants %v", got, c.Wanted())
	}
}

// Of far more lines than may be, only as many first ones are the newest ones as may be.
func TestWantOfMany(t *testing.T) {
	const most = 1 << 16
	for _, asked := range []int{most, most + 9, math.MaxInt} {
		for _, at := range []int{most + 1, most + 2, most + 9} {
			c := New(Config{Cache: asked, Every: 1})
			hear(t, c, packed(t, 1, gram.Lines, "", 0, 0))
			for _, i := range []int{at, 1} {
				c.Want(i, i+1)
				fill(t, c, i, i+1)
			}
			gone := map[bool]int{true: 1, false: at}[at == most+1]
			// The line at is the eldest one; it is a newer one than the line 1 behind this, if it is one of the first.
			c.Want(2, math.MaxInt)
			c.Want(1<<20, math.MaxInt)
			fill(t, c, 1<<20, 1<<20+most-1)
			for _, i := range []int{1, at} {
				if _, ok := c.cache.Peek(i); ok == (i == gone) {
					t.Errorf("%d, %d: the line %d is at hand: %v", asked, at, i, ok)
				}
			}
		}
	}
}

// A line is told below the snap's Len alone, and asking for it leaves its age.
func TestLine(t *testing.T) {
	c := New(Config{Cache: 3, Every: 1})
	hear(t, c, packed(t, 2, gram.Lines, "", 0, 0))
	c.Want(1, 4)
	hear(t, c, lines(t, 2, 1, "one", "", "three"))
	line := func(what string, i int, want string, ok bool) {
		t.Helper()
		if l, got := c.Line(i); got != ok || !slices.Equal(l, glyphs(want)) || !ok && l != nil {
			t.Errorf("%s: the line %d: %v, %v", what, i, l, got)
		}
	}
	for i := range 5 {
		line("without a snap", i, "", false)
	}
	hear(t, c, diffs(t, 2, 1, 8000, snapOf(0, 0), snapOf(1, 2))...)
	line("of two", 0, "", false)
	line("of two", 1, "one", true)
	for _, i := range []int{2, 3, 4, -1, math.MinInt, math.MaxInt} {
		line("of two", i, "", false)
	}
	hear(t, c, diffs(t, 2, 2, 8000, snapOf(1, 2), snapOf(2, 4))...)
	line("of four", 2, "", true)
	line("of four", 3, "three", true)
	line("of four", 4, "", false)
	hear(t, c, diffs(t, 2, 3, 8000, snapOf(2, 4), snapOf(3, 3))...)
	line("of three", 2, "", true)
	line("of three", 3, "", false)
	if got := text(c.Spans()) + fmt.Sprint(order(t, c)); got != "1-4[1 2 3]" {
		t.Errorf("%s", got)
	}
	line("the eldest one", 1, "one", true)
	if got := fmt.Sprint(order(t, c)); got != "[1 2 3]" {
		t.Errorf("%s", got)
	}
	// A newer epoch has no lines yet.
	hear(t, c, packed(t, 3, gram.Lines, "", 0, 0))
	c.Want(1, 2)
	hear(t, c, lines(t, 3, 1, "other"))
	line("of a newer epoch", 1, "", false)
	hear(t, c, diffs(t, 3, 1, 8000, snapOf(0, 0), snapOf(1, 2))...)
	line("of a newer epoch, with a snap", 1, "other", true)
}

// What is answered is new memory.
func TestMemory(t *testing.T) {
	c := behind(t)
	was := told(t, c)
	for range 2 {
		l, _ := c.Line(3)
		for i := range l {
			l[i] = row.Glyph{Rune: '!'}
		}
		s := c.Snap()
		s.Rows[0].Cells[0].Rune, s.Begun[0].Rune, s.Len = '!', '!', 0
		has, wanted := c.Spans(), c.Wanted()
		has[0], wanted[0] = spans.Span{}, spans.Span{}
		_ = append(append(has[:0], spans.Span{From: 7, To: 9}), append(wanted[:0], spans.Span{From: 7, To: 9})...)
		if got := told(t, c); got != was {
			t.Errorf("%s, was %s", got, was)
		}
	}
}

// A clone goes its own way, and so does what it was made of.
func TestClone(t *testing.T) {
	for _, x := range []struct {
		what string
		do   func(c *Client)
	}{
		{"Move", func(c *Client) { c.Move(3) }}, {"Step", func(c *Client) { c.Step(8) }}, {"Want", func(c *Client) { c.Want(8, 9) }}, {"Want of lines at hand", func(c *Client) { c.Want(2, 7) }},
		{"a part", func(c *Client) { c.Hear(0, next(t)[1]) }}, {"another message", func(c *Client) { c.Hear(0, packed(t, 5, gram.Diff, "x", 9, 8, 2, 0, 3)) }}, {"a snap", func(c *Client) { hear(t, c, diffs(t, 5, 9, 8000, snapOf(2, 12), snapOf(5, 1))...) }},
		{"a line", func(c *Client) { c.Hear(0, lines(t, 5, 5, "5")) }}, {"lines", func(c *Client) { c.Hear(0, lines(t, 5, 4, "4", "5", "6")) }}, {"a notice", func(c *Client) { c.Hear(0, packed(t, 6, gram.Lines, "", 0, 0)) }},
	} {
		for _, swap := range []bool{false, true} {
			a := behind(t)
			b := a.Clone()
			was := told(t, a)
			if told(t, b) != was {
				t.Errorf("%s: %s, was %s", x.what, told(t, b), was)
			}
			if swap {
				a, b = b, a
			}
			x.do(a)
			if told(t, a) == was || told(t, b) != was {
				t.Errorf("%s: %s, was %s", x.what, told(t, b), was)
			}
			does := told(t, a)
			x.do(b)
			if told(t, b) != does || told(t, a) != does {
				t.Errorf("%s, then the other one: %s, and %s", x.what, told(t, a), told(t, b))
			}
		}
	}
	c := New(Config{Cache: 7, Every: 3, Addr: 2}).Clone()
	if n := c.Want(0, 99); n != 7 || c.Addr() != 2 || ticks(t, c.Step) != ticks(t, New(Config{Every: 3}).Step) {
		t.Errorf("of a new one: %d, %s", n, told(t, c))
	}
}
