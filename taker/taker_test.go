package taker

import (
	"math"
	"slices"
	"strconv"
	"strings"
	"testing"

	"tidewrack/api"
	"tidewrack/delta"
	"tidewrack/gram"
	"tidewrack/num"
	"tidewrack/row"
	"tidewrack/sender"
	"tidewrack/snap"
)

// snapOf is a snap of K k (0: the empty one). Those of other K have other cells.
func snapOf(k int) snap.Snap {
	if k == 0 {
		return snap.Snap{}
	}
	cells := []row.Cell{{Rune: rune('0' + k)}, {Rune: ' '}}
	return snap.Snap{K: k, W: 2, H: 2, Title: "t", Rows: []row.Row{{Cells: cells}, {Cells: []row.Cell{{Rune: '-'}, {Rune: 'z'}}}}, Begun: []row.Glyph{{Rune: 'b', Style: k}}}
}

// cut is a message in so many parts: each has a byte, but the last one, which has what is left.
func cut(s string, n int) []string {
	var l []string
	for range n - 1 {
		size := min(len(s), 1)
		l = append(l, s[:size])
		s = s[size:]
	}
	return append(l, s)
}

// message is datagrams that bring the snap of K k upon the one of K base.
func message(id, k, base, count int) []gram.Gram {
	return messageOf(id, k, base, cut(delta.Diff(snapOf(base), snapOf(k)), count)...)
}

func messageOf(id, k, base int, l ...string) []gram.Gram {
	var grams []gram.Gram
	for i, data := range l {
		grams = append(grams, gram.Gram{Epoch: 1, Kind: gram.Diff, Nums: []int{id, k, base, i, len(l)}, Data: data})
	}
	return grams
}

// holding is a taker that has the snap of K k, and of the message 7, upon it, the parts of these indexes.
func holding(t *testing.T, k, count int, indexes ...int) *Taker {
	t.Helper()
	taker := New()
	if k > 0 {
		for _, g := range message(6, k, 0, 2) {
			if e := taker.Take(g); e != api.OK {
				t.Fatalf("%v: %d", g, e)
			}
		}
	}
	l := message(7, k+1, k, count)
	for _, i := range indexes {
		if e := taker.Take(l[i]); e != api.OK {
			t.Fatalf("%v: %d", l[i], e)
		}
	}
	return taker
}

// has: the taker is as told, and its snap is the one of its K.
func has(t *testing.T, what string, taker *Taker, want string) {
	t.Helper()
	if told(taker) != want || !taker.Snap().Same(snapOf(taker.K())) {
		t.Errorf("%s: %s, %v, want %s", what, told(taker), taker.Snap(), want)
	}
}

// fresh is told of a new one.
const fresh = "0 0:0 []"

func TestNew(t *testing.T) {
	taker := New()
	has(t, "New", taker, fresh)
	g := taker.Ack()
	if g.Epoch != 1 || g.Kind != gram.Ack || !slices.Equal(g.Nums, []int{0, 0}) || g.Data != "" || taker.Lacks() != nil {
		t.Errorf("%v", g)
	}
}

// orders calls f with the numbers below n in each order, as long as these are few; else in some.
func orders(n int, f func(order []int)) {
	var order []int
	var more func()
	left := 200
	more = func() {
		if len(order) == n {
			f(order)
			left--
		}
		for i := 0; i < n && left > 0; i++ {
			if !slices.Contains(order, i) {
				order = append(order, i)
				more()
				order = order[:len(order)-1]
			}
		}
	}
	more()
}

// The chapter's example: a sender's datagrams, in any order, and any of them twice.
func TestExample(t *testing.T) {
	for _, size := range []int{8000, 20, 15, 10, 7, 5, 1} {
		s := sender.New(sender.Config{Part: size, Every: 1, Most: 1})
		s.Note(snapOf(5))
		l := s.Step(0)
		orders(len(l), func(order []int) {
			taker := New()
			for n, i := range order {
				if taker.K() != 0 || taker.Take(l[i]) != api.OK {
					t.Fatalf("%d of %d: %s", order, len(l), told(taker))
				}
				again := api.OK
				if n == len(l)-1 {
					again = api.ErrOld
				}
				if taker.Take(l[i]) != again || taker.Take(l[order[0]]) != again {
					t.Fatalf("%d of %d, twice: %s", order, len(l), told(taker))
				}
			}
			has(t, "all", taker, "5 0:0 []")
		})
	}
}

// wrongTake is a datagram that isn't taken.
type wrongTake struct {
	what string
	kind int
	nums []int
	want api.Errno
}

// Each error of a datagram, where nothing else is wrong, and where all that is named behind it is wrong too. The taker has the snap of K 5, and of the message 7 the second one of three parts.
var wrongTakes = []wrongTake{
	{"an Ack", gram.Ack, []int{7, 6, 5, 0, 3}, api.ErrKind}, {"an Ask", gram.Ask, []int{7, 6, 5, 0, 3}, api.ErrKind}, {"Lines", gram.Lines, []int{7, 6, 5, 0, 3}, api.ErrKind}, {"no kind", 0, []int{7, 6, 5, 0, 3}, api.ErrKind}, {"another kind", 5, []int{7, 6, 5, 0, 3}, api.ErrKind}, {"the least kind", math.MinInt, []int{7, 6, 5, 0, 3}, api.ErrKind}, {"the greatest kind", math.MaxInt, []int{7, 6, 5, 0, 3}, api.ErrKind}, {"an Ack without Nums", gram.Ack, nil, api.ErrKind}, {"an Ack that is old", gram.Ack, []int{0, 0, 1, 0, 0}, api.ErrKind},
	{"no Nums", gram.Diff, nil, api.ErrForm}, {"a Num", gram.Diff, []int{7}, api.ErrForm}, {"two Nums", gram.Diff, []int{7, 6}, api.ErrForm}, {"four Nums", gram.Diff, []int{7, 6, 5, 0}, api.ErrForm}, {"six Nums", gram.Diff, []int{7, 6, 5, 0, 3, 0}, api.ErrForm}, {"many Nums", gram.Diff, make([]int, 100), api.ErrForm}, {"four Nums, old", gram.Diff, []int{7, 5, 4, 0}, api.ErrForm}, {"six Nums, old", gram.Diff, []int{0, 5, 4, 0, 0, 0}, api.ErrForm},
	{"K as it has", gram.Diff, []int{7, 5, 5, 0, 3}, api.ErrOld}, {"K below", gram.Diff, []int{7, 4, 5, 0, 3}, api.ErrOld}, {"K 0", gram.Diff, []int{7, 0, 0, 0, 3}, api.ErrOld}, {"K below 0", gram.Diff, []int{7, -1, 0, 0, 3}, api.ErrOld}, {"the least K", gram.Diff, []int{7, math.MinInt, 5, 0, 3}, api.ErrOld}, {"K as it has, another base", gram.Diff, []int{7, 5, 4, 0, 3}, api.ErrOld}, {"K as it has, all wrong", gram.Diff, []int{0, 5, 4, 3, 3}, api.ErrOld}, {"K as it has, of a new message", gram.Diff, []int{8, 5, 5, 0, 1}, api.ErrOld},
	{"base below", gram.Diff, []int{7, 6, 4, 0, 3}, api.ErrBase}, {"base above", gram.Diff, []int{7, 7, 6, 0, 3}, api.ErrBase}, {"base 1", gram.Diff, []int{7, 6, 1, 0, 3}, api.ErrBase}, {"base below 0", gram.Diff, []int{7, 6, -1, 0, 3}, api.ErrBase}, {"base less K", gram.Diff, []int{7, 6, -5, 0, 3}, api.ErrBase}, {"the least base", gram.Diff, []int{7, 6, math.MinInt, 0, 3}, api.ErrBase}, {"the greatest base", gram.Diff, []int{7, 6, math.MaxInt, 0, 3}, api.ErrBase}, {"another base, an old id", gram.Diff, []int{6, 6, 4, 0, 3}, api.ErrBase}, {"another base, no id", gram.Diff, []int{0, 6, 4, 0, 3}, api.ErrBase}, {"another base, another count", gram.Diff, []int{7, 6, 4, 0, 2}, api.ErrBase}, {"another base, of a new message", gram.Diff, []int{8, 6, 4, 0, 1}, api.ErrBase},
	{"no id", gram.Diff, []int{0, 6, 5, 0, 3}, api.ErrArg}, {"an id below 0", gram.Diff, []int{-7, 6, 5, 0, 3}, api.ErrArg}, {"an index as the count", gram.Diff, []int{7, 6, 5, 3, 3}, api.ErrArg}, {"an index below 0", gram.Diff, []int{7, 6, 5, -1, 3}, api.ErrArg}, {"the greatest index", gram.Diff, []int{7, 6, 5, math.MaxInt, 3}, api.ErrArg}, {"no count", gram.Diff, []int{7, 6, 5, 0, 0}, api.ErrArg}, {"a count above 4096", gram.Diff, []int{8, 6, 5, 0, 4097}, api.ErrArg}, {"the least count", gram.Diff, []int{8, 6, 5, 0, math.MinInt}, api.ErrArg}, {"an index outside, an old id", gram.Diff, []int{6, 6, 5, 3, 3}, api.ErrArg}, {"an index outside, of a new message", gram.Diff, []int{8, 6, 0, 1, 1}, api.ErrArg},
	{"an old id", gram.Diff, []int{6, 6, 5, 0, 3}, api.ErrOld}, {"the first id", gram.Diff, []int{1, 6, 0, 0, 3}, api.ErrOld}, {"an old id, whole", gram.Diff, []int{6, 6, 5, 0, 1}, api.ErrOld}, {"another count", gram.Diff, []int{7, 6, 5, 0, 4}, api.ErrForm}, {"another count, below", gram.Diff, []int{7, 6, 0, 0, 2}, api.ErrForm}, {"another count, whole", gram.Diff, []int{7, 6, 5, 0, 1}, api.ErrForm},
}

func TestTakeWrong(t *testing.T) {
	for _, c := range wrongTakes {
		taker := holding(t, 5, 3, 1)
		// Data that might make a snap, and Epochs that don't count.
		for _, epoch := range []int{1, 0, -1, 2, math.MaxInt} {
			g := gram.Gram{Epoch: epoch, Kind: c.kind, Nums: slices.Clone(c.nums), Data: delta.Diff(snapOf(5), snapOf(6))}
			if got := taker.Take(g); got != c.want {
				t.Errorf("%s: %d, want %d", c.what, got, c.want)
			}
			if !slices.Equal(g.Nums, c.nums) {
				t.Errorf("%s: what is handed in is changed", c.what)
			}
		}
		has(t, c.what, taker, "5 7:3 [0 2]")
		// Nothing has changed: the parts that weren't there still make it.
		l := message(7, 6, 5, 3)
		if taker.Take(l[2]) != api.OK || taker.Take(l[0]) != api.OK {
			t.Errorf("%s: %s", c.what, told(taker))
		}
		has(t, c.what+", then all", taker, "6 0:0 []")
	}
}

// What is wrong of a new one.
func TestTakeWrongOfNew(t *testing.T) {
	for _, c := range []wrongTake{
		{"an Ack", gram.Ack, []int{1, 1, 0, 0, 1}, api.ErrKind}, {"no Nums", gram.Diff, nil, api.ErrForm}, {"K 0", gram.Diff, []int{1, 0, 0, 0, 1}, api.ErrOld}, {"K below 0", gram.Diff, []int{1, -1, 0, 0, 1}, api.ErrOld}, {"another base", gram.Diff, []int{1, 2, 1, 0, 1}, api.ErrBase}, {"no id", gram.Diff, []int{0, 1, 0, 0, 1}, api.ErrArg}, {"no count", gram.Diff, []int{1, 1, 0, 0, 0}, api.ErrArg}, {"too many", gram.Diff, []int{1, 1, 0, 0, 4097}, api.ErrArg},
	} {
		taker := New()
		if got := taker.Take(gram.Gram{Epoch: 1, Kind: c.kind, Nums: c.nums}); got != c.want {
			t.Errorf("%s: %d, want %d", c.what, got, c.want)
		}
		has(t, c.what, taker, fresh)
	}
	if got := New().Take(gram.Gram{}); got != api.ErrKind {
		t.Errorf("the zero one: %d", got)
	}
}

// Parts that are taken: each index of a new message, and ones of a message that is there.
func TestTakeParts(t *testing.T) {
	for _, c := range []struct {
		what string
		g    gram.Gram
		want string
	}{
		{"the first one", message(7, 6, 5, 3)[0], "5 7:3 [2]"}, {"the last one", message(7, 6, 5, 3)[2], "5 7:3 [0]"}, {"one that is there", message(7, 6, 5, 3)[1], "5 7:3 [0 2]"}, {"one of another K", message(7, 9, 5, 3)[0], "5 7:3 [2]"}, {"one of the base 0", message(7, 6, 0, 3)[0], "5 7:3 [2]"},
		{"a new message", message(8, 6, 5, 4)[3], "5 8:4 [0 1 2]"}, {"a new message of as many", message(8, 6, 5, 3)[0], "5 8:3 [1 2]"}, {"a new message upon none", message(8, 6, 0, 2)[0], "5 8:2 [1]"}, {"a message far above", message(math.MaxInt, 6, 0, 2)[1], "5 9223372036854775807:2 [0]"}, {"a new message of one part", message(8, 6, 5, 1)[0], "6 0:0 []"}, {"a new message of one part upon none", message(8, 9, 0, 1)[0], "9 0:0 []"},
	} {
		taker := holding(t, 5, 3, 1)
		if got := taker.Take(c.g); got != api.OK {
			t.Errorf("%s: %d", c.what, got)
		}
		has(t, c.what, taker, c.want)
	}
	taker := New()
	if e := taker.Take(gram.Gram{Kind: gram.Diff, Nums: []int{1, 1, 0, 4095, 4096}}); e != api.OK || taker.Count() != 4096 || len(taker.Lacks()) != 4095 {
		t.Errorf("as many parts as may be: %d, %d", e, taker.Count())
	}
	if g := taker.Ack(); g.Data != strings.Repeat("\x00", 511)+"\x80" || g.Check() != api.OK {
		t.Errorf("as many parts as may be: %x", g.Data)
	}
}

// The first one of two that differ stays, and makes the snap.
func TestFirstStays(t *testing.T) {
	taker := New()
	l := message(1, 5, 0, 2)
	other := messageOf(1, 5, 0, "\xff\xff", "\xff\xff")
	if taker.Take(l[0]) != api.OK || taker.Take(other[0]) != api.OK || taker.Take(l[1]) != api.OK {
		t.Errorf("%s", told(taker))
	}
	has(t, "the first one", taker, "5 0:0 []")
	taker = New()
	if taker.Take(other[1]) != api.OK || taker.Take(l[1]) != api.OK || taker.Take(l[0]) == api.OK {
		t.Errorf("%s", told(taker))
	}
	has(t, "the other one", taker, fresh)
}

// What is whole and isn't applied leaves no message, and the snap as it was.
func TestWholeWrong(t *testing.T) {
	right, fromNone := delta.Diff(snapOf(5), snapOf(6)), delta.Diff(snap.Snap{}, snapOf(6))
	for _, c := range []struct {
		what    string
		k, base int
		text    string
		want    api.Errno
	}{
		{"no bytes", 6, 5, "", api.ErrEnd}, {"no bytes, upon none", 6, 0, "", api.ErrEnd}, {"a byte less", 6, 5, right[:len(right)-1], api.ErrEnd}, {"a byte more", 6, 5, right + "\x00", api.ErrForm}, {"numbers that are none", 6, 5, strings.Repeat("\xff", 20), api.ErrForm}, {"a W that is too great", 6, 0, "\x00\x06" + "\xe9\x07", api.ErrForm},
		{"upon none, told as upon it", 6, 5, fromNone, api.ErrBase}, {"upon it, told as upon none", 6, 0, right, api.ErrBase}, {"upon another one", 6, 5, delta.Diff(snapOf(4), snapOf(6)), api.ErrBase}, {"the Sum of none", 6, 0, "\x01" + fromNone[1:], api.ErrBase},
		{"K above what is told", 6, 5, delta.Diff(snapOf(5), snapOf(7)), api.ErrForm}, {"K below what is told", 8, 5, delta.Diff(snapOf(5), snapOf(7)), api.ErrForm}, {"K below it", 6, 5, delta.Diff(snapOf(5), snapOf(4)), api.ErrForm}, {"K as it has", 6, 5, delta.Diff(snapOf(5), snapOf(5)), api.ErrForm}, {"another K, upon none", 7, 0, fromNone, api.ErrForm}, {"the greatest K", math.MaxInt, 0, fromNone, api.ErrForm}, {"K as it has, upon none", 6, 0, delta.Diff(snap.Snap{}, snapOf(5)), api.ErrForm},
		{"one that may not be", 6, 0, "\x00" + new(num.Out).Num(6, 1, 1, 1, 0, 0, 0, 0, 0, 1, 0, 0, 1, 32, 0, 0).Bytes(), api.ErrForm},
	} {
		for _, count := range []int{1, 3} {
			taker := holding(t, 5, 3, 1)
			l := messageOf(9, c.k, c.base, cut(c.text, count)...)
			for i, g := range l {
				want := api.OK
				if i == len(l)-1 {
					want = c.want
				}
				if got := taker.Take(g); got != want {
					t.Errorf("%s, %d of %d: %d, want %d", c.what, i, count, got, want)
				}
			}
			has(t, c.what, taker, "5 0:0 []")
			if g := taker.Ack(); !slices.Equal(g.Nums, []int{5, 0}) || g.Data != "" {
				t.Errorf("%s: %v", c.what, g)
			}
			// No id is old then, and the right one comes.
			again := message(1, 6, 5, 2)
			if taker.Take(again[1]) != api.OK || taker.Take(again[0]) != api.OK {
				t.Errorf("%s, then the right one: %s", c.what, told(taker))
			}
			has(t, c.what+", then the right one", taker, "6 0:0 []")
		}
	}
}

// Parts of two messages mixed: those of the elder one are old, as soon as one of the newer one came.
func TestMixed(t *testing.T) {
	a, b := message(1, 5, 0, 3), message(2, 6, 0, 3)
	for _, c := range []struct {
		what  string
		grams []gram.Gram
		codes []api.Errno
		want  string
	}{
		{"the newer one, then the elder one", []gram.Gram{a[0], b[0], a[1], b[1], a[2], b[2], a[0]}, []api.Errno{0, 0, api.ErrOld, 0, api.ErrOld, 0, api.ErrOld}, "6 0:0 []"},
		{"the elder one is whole ahead", []gram.Gram{a[0], a[2], a[1], b[2], a[1], b[0], b[1]}, []api.Errno{0, 0, 0, 0, api.ErrOld, 0, 0}, "6 0:0 []"},
		{"the newer one is whole ahead", []gram.Gram{b[1], b[0], b[2], a[0], a[1], a[2]}, []api.Errno{0, 0, 0, api.ErrOld, api.ErrOld, api.ErrOld}, "6 0:0 []"},
		{"none is whole", []gram.Gram{a[0], a[1], b[0], a[2], b[2]}, []api.Errno{0, 0, 0, api.ErrOld, 0}, "0 2:3 [1]"},
		{"upon the elder one", append(append([]gram.Gram{message(3, 6, 5, 2)[0]}, a...), message(3, 6, 5, 2)...), []api.Errno{api.ErrBase, 0, 0, 0, 0, 0}, "6 0:0 []"},
		{"upon another one", append(slices.Clone(b), message(4, 7, 5, 1)[0], message(5, 7, 6, 1)[0], message(6, 8, 6, 1)[0]), []api.Errno{0, 0, 0, api.ErrBase, 0, api.ErrBase}, "7 0:0 []"},
		{"an elder id with a newer K", []gram.Gram{b[0], message(1, 9, 0, 1)[0], b[1], b[2], message(1, 9, 0, 1)[0]}, []api.Errno{0, api.ErrOld, 0, 0, 0}, "9 0:0 []"},
	} {
		taker := New()
		for i, g := range c.grams {
			if got := taker.Take(g); got != c.codes[i] {
				t.Errorf("%s, %d: %d, want %d", c.what, i, got, c.codes[i])
			}
		}
		has(t, c.what, taker, c.want)
	}
}

// The base 0 is the empty snap, whatever it has; the K of what it has is that one.
func TestBases(t *testing.T) {
	for _, c := range [][3]int{{0, 1, 0}, {0, 9, 0}, {5, 6, 0}, {5, 6, 5}, {5, 9, 0}, {5, 9, 5}, {1, 2, 1}, {8, 9, 8}} {
		for _, count := range []int{1, 2, 9} {
			taker := holding(t, c[0], 2)
			for _, g := range message(1, c[1], c[2], count) {
				if e := taker.Take(g); e != api.OK {
					t.Errorf("%d: %d", c, e)
				}
			}
			has(t, "upon some base", taker, strconv.Itoa(c[1])+" 0:0 []")
		}
	}
}

// Ack of a message of up to 17 parts, none, some, all but one of which are there.
func TestAck(t *testing.T) {
	for _, c := range []struct {
		k, count int
		indexes  []int
		id       int
		have     string
	}{
		{0, 2, nil, 0, ""}, {5, 2, nil, 0, ""}, {0, 2, []int{0}, 7, "\x01"}, {5, 2, []int{1}, 7, "\x02"}, {5, 3, []int{1, 0}, 7, "\x03"}, {5, 7, []int{6}, 7, "\x40"}, {5, 8, []int{7}, 7, "\x80"}, {5, 8, []int{0, 1, 2, 3, 4, 5, 6}, 7, "\x7f"}, {5, 8, []int{7, 6, 5, 4, 3, 2, 1}, 7, "\xfe"},
		{5, 9, []int{0}, 7, "\x01\x00"}, {5, 9, []int{8}, 7, "\x00\x01"}, {5, 9, []int{0, 1, 2, 3, 4, 5, 6, 7}, 7, "\xff\x00"}, {0, 16, []int{8, 15}, 7, "\x00\x81"}, {0, 16, []int{0, 7}, 7, "\x81\x00"}, {5, 17, []int{16}, 7, "\x00\x00\x01"}, {5, 17, []int{2, 11, 3, 2}, 7, "\x0c\x08\x00"}, {5, 17, []int{0, 1, 2, 3, 4, 5, 6, 7, 8, 9, 10, 11, 12, 13, 14, 16}, 7, "\xff\x7f\x01"},
		{5, 1, []int{0}, 0, ""}, {5, 2, []int{0, 1}, 0, ""},
	} {
		taker := holding(t, c.k, c.count, c.indexes...)
		g := taker.Ack()
		k := c.k
		if len(c.indexes) == c.count {
			k++
		}
		if g.Epoch != 1 || g.Kind != gram.Ack || !slices.Equal(g.Nums, []int{k, c.id}) || g.Data != c.have {
			t.Errorf("%d of %d: %v, %x, want %x", c.indexes, c.count, g, g.Data, c.have)
		}
	}
	for count := 2; count <= 17; count++ {
		for not := range count {
			taker, want := New(), make([]byte, (count+7)/8)
			for i, g := range message(3, 4, 0, count) {
				if i != not {
					taker.Take(g)
					want[i/8] += 1 << (i % 8)
				}
			}
			if g := taker.Ack(); g.Data != string(want) || !slices.Equal(g.Nums, []int{0, 3}) || !slices.Equal(taker.Lacks(), []int{not}) {
				t.Errorf("all but %d of %d: %v, %x, want %x", not, count, g, g.Data, want)
			}
			if taker.Take(message(3, 4, 0, count)[not]) != api.OK || taker.K() != 4 {
				t.Errorf("then %d of %d: %s", not, count, told(taker))
			}
		}
	}
}

// Its Ack is one that a sender goes by.
func TestAckIsHeard(t *testing.T) {
	s, taker := sender.New(sender.Config{Part: 3, Every: 1, Most: 2}), New()
	s.Note(snapOf(3))
	l := s.Step(0)
	for _, i := range []int{1, 4, len(l) - 1} {
		taker.Take(l[i])
	}
	g := taker.Ack()
	if s.Ack(g.Num(0), g.Num(1), g.Data) || !slices.Equal(s.Lacks(), taker.Lacks()) || len(s.Lacks()) != len(l)-3 {
		t.Errorf("%d, and %d", s.Lacks(), taker.Lacks())
	}
	for _, g := range s.Step(1) {
		taker.Take(g)
	}
	g = taker.Ack()
	if !s.Ack(g.Num(0), g.Num(1), g.Data) || s.Acked() != 3 || s.Step(2) != nil {
		t.Errorf("%d is acked", s.Acked())
	}
	has(t, "all", taker, "3 0:0 []")
}

func TestReset(t *testing.T) {
	for _, k := range []int{0, 5} {
		for _, indexes := range [][]int{nil, {1}, {0, 1}} {
			taker := holding(t, k, 2, indexes...)
			taker.Reset()
			has(t, "Reset", taker, fresh)
			if g := taker.Ack(); !slices.Equal(g.Nums, []int{0, 0}) || g.Data != "" || !taker.Snap().Same(snap.Snap{}) {
				t.Errorf("%v", g)
			}
			// No K and no id is old then.
			for _, g := range message(1, 1, 0, 2) {
				if e := taker.Take(g); e != api.OK {
					t.Errorf("%v: %d", g, e)
				}
			}
			has(t, "Reset, then another one", taker, "1 0:0 []")
		}
	}
	taker := New()
	taker.Reset()
	has(t, "Reset of a new one", taker, fresh)
}

// A clone goes its own way, and so does what it was made of.
func TestClone(t *testing.T) {
	const was = "5 7:3 [0 2]"
	l := message(7, 6, 5, 3)
	for _, c := range []struct {
		what string
		do   func(taker *Taker)
		want string
	}{
		{"a part", func(taker *Taker) { taker.Take(l[0]) }, "5 7:3 [2]"}, {"all parts", func(taker *Taker) { taker.Take(l[0]); taker.Take(l[2]) }, "6 0:0 []"}, {"another message", func(taker *Taker) { taker.Take(message(9, 8, 0, 2)[0]) }, "5 9:2 [1]"}, {"another one that is whole", func(taker *Taker) { taker.Take(message(9, 8, 0, 1)[0]) }, "8 0:0 []"}, {"Reset", func(taker *Taker) { taker.Reset() }, fresh},
	} {
		for _, swap := range []bool{false, true} {
			a := holding(t, 5, 3, 1)
			b := a.Clone()
			if swap {
				a, b = b, a
			}
			c.do(a)
			has(t, c.what, a, c.want)
			has(t, c.what+", the other one", b, was)
			b.Take(l[2])
			has(t, c.what+", then the other one", a, c.want)
			has(t, c.what+", then the other one", b, "5 7:3 [0]")
			b.Take(l[0])
			has(t, c.what+", then all of the other one", a, c.want)
			has(t, c.what+", then all of the other one", b, "6 0:0 []")
		}
	}
	taker := New().Clone()
	has(t, "of a new one", taker, fresh)
	taker.Take(message(1, 2, 0, 1)[0])
	has(t, "of a new one", taker, "2 0:0 []")
}

// spoil changes all lists of a snap.
func spoil(x snap.Snap) {
	for _, r := range x.Rows {
		for i := range r.Cells {
			r.Cells[i] = row.Cell{Rune: '!', Style: 77, Part: 1}
		}
	}
	for i := range x.Begun {
		x.Begun[i] = row.Glyph{Rune: '!', Style: 77}
	}
	clear(x.Rows)
}

// What is handed in isn't kept, and what is answered shares nothing.
func TestSharesNothing(t *testing.T) {
	taker := New()
	other := taker
	for i, g := range message(1, 5, 0, 3) {
		taker.Take(g)
		clear(g.Nums[:cap(g.Nums)])
		if i == 1 {
			other = taker.Clone()
		}
	}
	other.Take(message(1, 5, 0, 3)[2])
	another := taker.Clone()
	for _, x := range []*Taker{taker, other, another} {
		one, two := x.Snap(), x.Snap()
		spoil(one)
		if !two.Same(snapOf(5)) {
			t.Error("two snaps share something")
		}
		spoil(two)
		g := x.Ack()
		clear(g.Nums[:cap(g.Nums)])
		if g = x.Ack(); !slices.Equal(g.Nums, []int{5, 0}) {
			t.Errorf("%v", g)
		}
	}
	has(t, "the taker", taker, "5 0:0 []")
	has(t, "its clone", another, "5 0:0 []")
	has(t, "an earlier clone", other, "5 0:0 []")
	taker.Take(message(2, 6, 5, 3)[1])
	l := taker.Lacks()
	clear(l[:cap(l)])
	has(t, "a part", taker, "5 2:3 [0 2]")
}
