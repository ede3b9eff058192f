package sender

import (
	"fmt"
	"math"
	"slices"
	"strings"
	"testing"

	"tidewrack/api"
	"tidewrack/book"
	"tidewrack/delta"
	"tidewrack/gram"
	"tidewrack/row"
	"tidewrack/screen"
	"tidewrack/snap"
)

// snapOf is a snap of one cell, of K k (0: the empty one). Those of other K have other runes. What makes it of the empty one has 17 bytes, of another one 20 or 21.
func snapOf(k int) snap.Snap {
	if k == 0 {
		return snap.Snap{}
	}
	return snap.Snap{K: k, W: 1, H: 1, Rows: []row.Row{{Cells: []row.Cell{{Rune: rune('0' + k)}}}}}
}

// The chapter's example.
func TestExample(t *testing.T) {
	s := New(Config{Part: 1000, Every: 5, Most: 4})
	x := snap.Of(1, screen.New(1, 1), book.New())
	if !s.Note(x) {
		t.Fatal("it may be")
	}
	got := s.Step(0)
	want := []gram.Gram{{Epoch: 1, Kind: gram.Diff, Nums: []int{1, 1, 0, 0, 1}, Data: delta.Diff(snap.Snap{}, x)}}
	if !sameGrams(got, want) {
		t.Errorf("%v, want %v", got, want)
	}
}

// Each part below, at and above its bounds.
func TestClip(t *testing.T) {
	for _, c := range [][2]Config{
		{{1, 1, 1}, {1, 1, 1}}, {{8000, 1 << 20, 64}, {8000, 1 << 20, 64}}, {{2, 2, 2}, {2, 2, 2}}, {{7999, 1<<20 - 1, 63}, {7999, 1<<20 - 1, 63}}, {{20, 3, 4}, {20, 3, 4}},
		{{0, 5, 5}, {1, 5, 5}}, {{-1, 5, 5}, {1, 5, 5}}, {{8001, 5, 5}, {8000, 5, 5}}, {{5, 0, 5}, {5, 1, 5}}, {{5, -1, 5}, {5, 1, 5}}, {{5, 1<<20 + 1, 5}, {5, 1 << 20, 5}}, {{5, 5, 0}, {5, 5, 1}}, {{5, 5, -1}, {5, 5, 1}}, {{5, 5, 65}, {5, 5, 64}},
		{{}, {1, 1, 1}}, {{math.MinInt, math.MinInt, math.MinInt}, {1, 1, 1}}, {{math.MaxInt, math.MaxInt, math.MaxInt}, {8000, 1 << 20, 64}}, {{1 << 32, 1 << 32, 1 << 32}, {8000, 1 << 20, 64}},
	} {
		if got := c[0].Clip(); got != c[1] || got.Clip() != got {
			t.Errorf("%d: %d, want %d", c[0], got, c[1])
		}
	}
}

// told is a sender in short: the current K, the acked one, those that are kept; the message's id, K and base; its parts that aren't there.
func told(s *Sender) string {
	id, k, base := s.Message()
	return fmt.Sprint(s.Current(), " ", s.Acked(), " ", s.Kept(), " ", id, ":", k, "/", base, " ", s.Lacks())
}

// fresh is told of a new one.
const fresh = "0 0 [] 0:0/0 []"

func TestNew(t *testing.T) {
	for _, c := range []Config{{}, {20, 3, 4}, {math.MinInt, 5, math.MaxInt}} {
		s := New(c)
		if told(s) != fresh || s.Kept() != nil || s.Lacks() != nil {
			t.Errorf("%v: %s", c, told(s))
		}
		if got := s.Step(0); got != nil || told(s) != fresh {
			t.Errorf("%v: %v, %s", c, got, told(s))
		}
	}
}

// A sender does as the configuration that it is made with counts.
func TestNewClips(t *testing.T) {
	long := snapOf(1)
	long.Begun = slices.Repeat([]row.Glyph{{Rune: 0x4e2d, Style: 647}}, 1024)
	n := len(delta.Diff(snap.Snap{}, long))
	for _, c := range []struct {
		c                   Config
		count, again, keeps int
	}{
		{Config{}, n, 1, 1}, {Config{math.MinInt, math.MinInt, math.MinInt}, n, 1, 1}, {Config{1, 1, 1}, n, 1, 1}, {Config{0, -7, 2}, n, 1, 2},
		{Config{1000, 5, 3}, (n + 999) / 1000, 5, 3}, {Config{8000, 1 << 20, 64}, 1, 1 << 20, 64}, {Config{8001, 1<<20 + 1, 65}, 1, 1 << 20, 64}, {Config{math.MaxInt, math.MaxInt, math.MaxInt}, 1, 1 << 20, 64},
	} {
		s := New(c.c)
		s.Note(long)
		if got := s.Step(7); len(got) != c.count || got[0].Nums[countPlace] != c.count {
			t.Errorf("%v: %d datagrams, want %d", c.c, len(got), c.count)
		}
		for _, now := range []int{7, 7 + c.again - 1} {
			if got := s.Step(now); (now == 7 || c.again > 1) && got != nil {
				t.Errorf("%v: %d at %d", c.c, len(got), now)
			}
		}
		if got := s.Step(7 + c.again); len(got) != c.count {
			t.Errorf("%v: %d behind %d", c.c, len(got), c.again)
		}
		for k := 2; k < 70; k++ {
			s.Note(snapOf(k))
			s.Step(0)
		}
		if got := s.Kept(); len(got) != c.keeps || got[0] != 70-c.keeps || got[c.keeps-1] != 69 {
			t.Errorf("%v: %d are kept", c.c, got)
		}
	}
}

// Note of what may be and may not be, of a K below, as, and above that of the current one.
func TestNote(t *testing.T) {
	change := func(k int, f func(x *snap.Snap)) snap.Snap {
		x := snapOf(k)
		f(&x)
		return x
	}
	for _, c := range []struct {
		what string
		x    snap.Snap
		want bool
	}{
		{"above", snapOf(6), true}, {"far above", snapOf(9), true}, {"the last K", change(7, func(x *snap.Snap) { x.K = 1 << 60 }), true}, {"another size", change(6, func(x *snap.Snap) { x.H, x.Rows = 2, append(x.Rows, x.Rows[0]) }), true},
		{"as", snapOf(5), false}, {"as, but another one", change(6, func(x *snap.Snap) { x.K = 5 }), false}, {"below", snapOf(4), false}, {"the first one", snapOf(1), false}, {"the empty one", snap.Snap{}, false}, {"the empty one, with lists", snap.Snap{Rows: []row.Row{}, Begun: []row.Glyph{}}, false},
		{"K alone", snap.Snap{K: 6}, false}, {"no K", change(6, func(x *snap.Snap) { x.K = 0 }), false}, {"K below 0", change(6, func(x *snap.Snap) { x.K = -1 }), false}, {"K too great", change(6, func(x *snap.Snap) { x.K = 1<<60 + 1 }), false}, {"the greatest K", change(6, func(x *snap.Snap) { x.K = math.MaxInt }), false}, {"the least K", change(6, func(x *snap.Snap) { x.K = math.MinInt }), false},
		{"a row less", change(6, func(x *snap.Snap) { x.Rows = nil }), false}, {"a wrong cell", change(6, func(x *snap.Snap) { x.Rows[0].Cells[0].Part = 4 }), false}, {"a long title", change(6, func(x *snap.Snap) { x.Title = strings.Repeat("t", 201) }), false}, {"a cursor outside", change(6, func(x *snap.Snap) { x.X = 1 }), false}, {"below, and wrong", change(4, func(x *snap.Snap) { x.X = 1 }), false},
	} {
		s := New(Config{8000, 5, 4})
		s.Note(snapOf(5))
		if got := s.Note(c.x); got != c.want {
			t.Errorf("%s: %t", c.what, got)
		}
		want := snapOf(5)
		if c.want {
			want = c.x
		}
		if s.Current() != want.K || s.Acked() != 0 || s.Kept() != nil {
			t.Errorf("%s: %s", c.what, told(s))
		}
		if got := s.Step(0); len(got) != 1 || got[0].Data != delta.Diff(snap.Snap{}, want) {
			t.Errorf("%s: %v", c.what, got)
		}
	}
	s := New(Config{})
	if s.Note(snap.Snap{}) || s.Note(snap.Snap{K: 1}) || told(s) != fresh {
		t.Errorf("of a new one: %s", told(s))
	}
	if x := snapOf(1); !s.Note(x) || s.Note(x) || told(s) != "1 0 [] 0:0/0 []" {
		t.Errorf("the first one: %s", told(s))
	}
}

// sent is datagrams in short, if they are as they ought to be: none, or the message, how many parts it has, and the indexes of those that go out.
func sent(t *testing.T, s *Sender, l []gram.Gram) string {
	t.Helper()
	if len(l) == 0 {
		return "none"
	}
	id, k, base := s.Message()
	text, size := delta.Diff(snapOf(base), snapOf(k)), s.Part
	count := (len(text) + size - 1) / size
	var indexes []int
	for _, g := range l {
		if g.Epoch != 1 || g.Kind != gram.Diff || len(g.Nums) != 5 || !slices.Equal(g.Nums[:3], []int{id, k, base}) || g.Nums[4] != count || g.Check() != api.OK {
			t.Errorf("%v, of %d parts of %s", g, count, told(s))
		}
		i := g.Num(3)
		indexes = append(indexes, i)
		if from := i * size; g.Data != text[from:min(from+size, len(text))] {
			t.Errorf("%v, of %q", g, text)
		}
	}
	return fmt.Sprint(id, ":", k, "/", base, " ", indexes, " of ", count)
}

// act is a call, and what it answers.
type act func(t *testing.T, s *Sender) string

func note(k int) act {
	return func(t *testing.T, s *Sender) string { return fmt.Sprint(s.Note(snapOf(k))) }
}

func step(now int) act {
	return func(t *testing.T, s *Sender) string { return sent(t, s, s.Step(now)) }
}

func ack(k, id int, have string) act {
	return func(t *testing.T, s *Sender) string { return fmt.Sprint(s.Ack(k, id, have)) }
}

// done is a call, what it answers, and what is told behind it ("": what was).
type done struct {
	act          act
	answer, told string
}

// play does calls to a new sender, and looks at all that is told behind each.
func play(t *testing.T, what string, c Config, l ...done) *Sender {
	t.Helper()
	s, was := New(c), fresh
	for i, d := range l {
		if d.told != "" {
			was = d.told
		}
		if got := d.act(t, s); got != d.answer || told(s) != was {
			t.Fatalf("%s: call %d: %s, want %s; %s, want %s", what, i, got, d.answer, told(s), was)
		}
	}
	return s
}

// In these, a message upon the empty one has 3 parts, and one upon another one 4.
var three = Config{Part: 6, Every: 5, Most: 4}

func TestStep(t *testing.T) {
	play(t, "nothing to tell", three, done{step(0), "none", fresh}, done{step(9), "none", ""}, done{ack(0, 0, "\xff"), "false", ""}, done{step(99), "none", ""})
	play(t, "ahead of, at and behind its tick", three,
		done{note(1), "true", "1 0 [] 0:0/0 []"}, done{step(10), "1:1/0 [0 1 2] of 3", "1 0 [1] 1:1/0 [0 1 2]"},
		done{step(10), "none", ""}, done{step(11), "none", ""}, done{step(14), "none", ""}, done{step(0), "none", ""}, done{step(15), "1:1/0 [0 1 2] of 3", ""},
		done{step(15), "none", ""}, done{step(19), "none", ""}, done{step(27), "1:1/0 [0 1 2] of 3", ""}, done{step(31), "none", ""}, done{step(32), "1:1/0 [0 1 2] of 3", ""}, done{step(1000), "1:1/0 [0 1 2] of 3", ""}, done{step(1004), "none", ""}, done{step(7), "none", ""})
	play(t, "some parts are there, or all", three,
		done{note(1), "true", "1 0 [] 0:0/0 []"}, done{step(0), "1:1/0 [0 1 2] of 3", "1 0 [1] 1:1/0 [0 1 2]"}, done{ack(0, 1, "\x02"), "false", "1 0 [1] 1:1/0 [0 2]"},
		done{step(4), "none", ""}, done{step(5), "1:1/0 [0 2] of 3", ""}, done{ack(0, 1, "\x01"), "false", "1 0 [1] 1:1/0 [2]"}, done{step(9), "none", ""}, done{step(10), "1:1/0 [2] of 3", ""},
		done{ack(0, 1, "\x04"), "false", "1 0 [1] 1:1/0 []"}, done{step(15), "none", ""}, done{step(99), "none", ""}, done{step(1 << 40), "none", ""})
	play(t, "all parts are there ahead of its tick", three, done{note(1), "true", "1 0 [] 0:0/0 []"}, done{step(0), "1:1/0 [0 1 2] of 3", "1 0 [1] 1:1/0 [0 1 2]"}, done{ack(0, 1, "\x07"), "false", "1 0 [1] 1:1/0 []"}, done{step(5), "none", ""}, done{step(10), "none", ""})
	play(t, "it is acked", three,
		done{note(1), "true", "1 0 [] 0:0/0 []"}, done{step(0), "1:1/0 [0 1 2] of 3", "1 0 [1] 1:1/0 [0 1 2]"}, done{ack(1, 1, ""), "true", "1 1 [] 1:1/0 [0 1 2]"},
		done{step(5), "none", "1 1 [] 0:0/0 []"}, done{step(99), "none", ""}, done{ack(0, 1, "\x01"), "false", ""}, done{ack(1, 0, "\x01"), "false", ""}, done{note(2), "true", "2 1 [] 0:0/0 []"}, done{step(99), "2:2/1 [0 1 2 3] of 4", "2 1 [2] 2:2/1 [0 1 2 3]"})
}

// Ticks are 0 to 2^40, and count as the nearest.
func TestTicks(t *testing.T) {
	const last = 1 << 40
	play(t, "below 0", three, done{note(1), "true", "1 0 [] 0:0/0 []"}, done{step(math.MinInt), "1:1/0 [0 1 2] of 3", "1 0 [1] 1:1/0 [0 1 2]"}, done{step(-1), "none", ""}, done{step(0), "none", ""}, done{step(4), "none", ""}, done{step(5), "1:1/0 [0 1 2] of 3", ""})
	play(t, "the last ones", three, done{note(1), "true", "1 0 [] 0:0/0 []"}, done{step(last - 5), "1:1/0 [0 1 2] of 3", "1 0 [1] 1:1/0 [0 1 2]"}, done{step(last - 1), "none", ""}, done{step(last), "1:1/0 [0 1 2] of 3", ""}, done{step(last), "none", ""}, done{step(last + 5), "none", ""}, done{step(math.MaxInt), "none", ""}, done{note(2), "true", "2 0 [1] 1:1/0 [0 1 2]"}, done{step(last), "2:2/0 [0 1 2] of 3", "2 0 [1 2] 2:2/0 [0 1 2]"})
	play(t, "above", three, done{note(1), "true", "1 0 [] 0:0/0 []"}, done{step(math.MaxInt), "1:1/0 [0 1 2] of 3", "1 0 [1] 1:1/0 [0 1 2]"}, done{step(math.MaxInt), "none", ""}, done{step(last), "none", ""}, done{step(-1), "none", ""})
	play(t, "the greatest Every", Config{6, 1 << 20, 4}, done{note(1), "true", "1 0 [] 0:0/0 []"}, done{step(3), "1:1/0 [0 1 2] of 3", "1 0 [1] 1:1/0 [0 1 2]"}, done{step(1<<20 + 2), "none", ""}, done{step(1<<20 + 3), "1:1/0 [0 1 2] of 3", ""})
}

// A message begins anew, since the current snap, or the acked one, is another one.
func TestBeginsAnew(t *testing.T) {
	play(t, "another current one", three,
		done{note(1), "true", "1 0 [] 0:0/0 []"}, done{step(0), "1:1/0 [0 1 2] of 3", "1 0 [1] 1:1/0 [0 1 2]"}, done{ack(0, 1, "\x03"), "false", "1 0 [1] 1:1/0 [2]"},
		done{note(2), "true", "2 0 [1] 1:1/0 [2]"}, done{step(1), "2:2/0 [0 1 2] of 3", "2 0 [1 2] 2:2/0 [0 1 2]"}, done{step(5), "none", ""}, done{step(6), "2:2/0 [0 1 2] of 3", ""},
		done{note(3), "true", "3 0 [1 2] 2:2/0 [0 1 2]"}, done{note(5), "true", "5 0 [1 2] 2:2/0 [0 1 2]"}, done{step(6), "3:5/0 [0 1 2] of 3", "5 0 [1 2 5] 3:5/0 [0 1 2]"}, done{step(6), "none", ""})
	play(t, "another acked one", three,
		done{note(1), "true", "1 0 [] 0:0/0 []"}, done{step(0), "1:1/0 [0 1 2] of 3", "1 0 [1] 1:1/0 [0 1 2]"}, done{note(2), "true", "2 0 [1] 1:1/0 [0 1 2]"}, done{step(0), "2:2/0 [0 1 2] of 3", "2 0 [1 2] 2:2/0 [0 1 2]"},
		done{ack(1, 2, "\x05"), "true", "2 1 [2] 2:2/0 [1]"}, done{step(1), "3:2/1 [0 1 2 3] of 4", "2 1 [2] 3:2/1 [0 1 2 3]"}, done{step(5), "none", ""}, done{step(6), "3:2/1 [0 1 2 3] of 4", ""}, done{ack(0, 2, "\xff"), "false", ""}, done{ack(1, 3, "\x08"), "false", "2 1 [2] 3:2/1 [0 1 2]"}, done{step(11), "3:2/1 [0 1 2] of 4", ""})
	play(t, "both", three,
		done{note(1), "true", "1 0 [] 0:0/0 []"}, done{step(0), "1:1/0 [0 1 2] of 3", "1 0 [1] 1:1/0 [0 1 2]"}, done{note(2), "true", "2 0 [1] 1:1/0 [0 1 2]"}, done{ack(1, 1, "\x07"), "true", "2 1 [] 1:1/0 []"}, done{step(2), "2:2/1 [0 1 2 3] of 4", "2 1 [2] 2:2/1 [0 1 2 3]"})
	play(t, "the empty one is acked", Config{6, 5, 2},
		done{note(1), "true", "1 0 [] 0:0/0 []"}, done{step(0), "1:1/0 [0 1 2] of 3", "1 0 [1] 1:1/0 [0 1 2]"}, done{ack(1, 1, "\x07"), "true", "1 1 [] 1:1/0 []"},
		done{note(2), "true", "2 1 [] 1:1/0 []"}, done{note(3), "true", "3 1 [] 1:1/0 []"}, done{step(1), "2:3/1 [0 1 2 3] of 4", "3 1 [3] 2:3/1 [0 1 2 3]"}, done{ack(1, 2, "\x01"), "false", "3 1 [3] 2:3/1 [1 2 3]"},
		done{ack(2, 2, "\x02"), "false", "3 0 [3] 2:3/1 [2 3]"}, done{step(1), "3:3/0 [0 1 2] of 3", "3 0 [3] 3:3/0 [0 1 2]"}, done{ack(1, 3, "\x01"), "false", "3 0 [3] 3:3/0 [1 2]"}, done{step(2), "none", ""}, done{ack(3, 3, "\x07"), "true", "3 3 [] 3:3/0 []"}, done{step(3), "none", "3 3 [] 0:0/0 []"})
	play(t, "there was none meanwhile", three,
		done{note(1), "true", "1 0 [] 0:0/0 []"}, done{step(0), "1:1/0 [0 1 2] of 3", "1 0 [1] 1:1/0 [0 1 2]"}, done{ack(1, 1, "\x07"), "true", "1 1 [] 1:1/0 []"}, done{step(1), "none", "1 1 [] 0:0/0 []"}, done{note(2), "true", "2 1 [] 0:0/0 []"}, done{step(1), "2:2/1 [0 1 2 3] of 4", "2 1 [2] 2:2/1 [0 1 2 3]"})
}

// How many snaps are kept, and which of them goes.
func TestKept(t *testing.T) {
	kept := func(most int) *Sender {
		s := New(Config{8000, 1, most})
		for k := 1; k <= 70; k++ {
			s.Note(snapOf(k))
			s.Step(k)
			if got, want := s.Kept(), upTo(max(k-most+1, 1), k); !slices.Equal(got, want) {
				t.Errorf("at most %d: %d, want %d", most, got, want)
			}
		}
		return s
	}
	for _, most := range []int{1, 2, 3, 64} {
		s := kept(most)
		if s.Step(99); !slices.Equal(s.Kept(), upTo(71-most, 70)) {
			t.Errorf("at most %d: %d", most, s.Kept())
		}
		// The eldest one that is kept is acked, and only that one goes.
		if !s.Ack(71-most, 0, "") || s.Acked() != 71-most || !slices.Equal(s.Kept(), upTo(72-most, 70)) {
			t.Errorf("at most %d: %s", most, told(s))
		}
		s = kept(most)
		// The one that went isn't acked, and all stay.
		if s.Ack(70-most, 0, "") || s.Acked() != 0 || !slices.Equal(s.Kept(), upTo(71-most, 70)) {
			t.Errorf("at most %d: %s", most, told(s))
		}
		if !s.Ack(70, 0, "") || s.Acked() != 70 || s.Kept() != nil {
			t.Errorf("at most %d: %s", most, told(s))
		}
	}
	// Only one for which a message began is kept, and that but once.
	s := play(t, "once", Config{6, 5, 2}, done{note(1), "true", "1 0 [] 0:0/0 []"}, done{note(2), "true", "2 0 [] 0:0/0 []"}, done{step(0), "1:2/0 [0 1 2] of 3", "2 0 [2] 1:2/0 [0 1 2]"}, done{step(5), "1:2/0 [0 1 2] of 3", ""},
		done{note(3), "true", "3 0 [2] 1:2/0 [0 1 2]"}, done{step(5), "2:3/0 [0 1 2] of 3", "3 0 [2 3] 2:3/0 [0 1 2]"}, done{ack(2, 2, ""), "true", "3 2 [3] 2:3/0 [0 1 2]"}, done{step(6), "3:3/2 [0 1 2 3] of 4", "3 2 [3] 3:3/2 [0 1 2 3]"})
	s.Note(snapOf(4))
	s.Step(7)
	if got := s.Kept(); !slices.Equal(got, []int{3, 4}) {
		t.Errorf("%d", got)
	}
}

func upTo(from, to int) []int {
	var l []int
	for n := from; n <= to; n++ {
		l = append(l, n)
	}
	return l
}

// behind is a sender of K 6, of which 2 is acked, and 4, 5 and 6 are kept; its message is 5, of 4 parts, of which the second one is there.
func behind(t *testing.T) *Sender {
	t.Helper()
	return play(t, "behind", three,
		done{note(2), "true", "2 0 [] 0:0/0 []"}, done{step(0), "1:2/0 [0 1 2] of 3", "2 0 [2] 1:2/0 [0 1 2]"}, done{ack(2, 1, "\x07"), "true", "2 2 [] 1:2/0 []"},
		done{note(4), "true", "4 2 [] 1:2/0 []"}, done{step(1), "2:4/2 [0 1 2 3] of 4", "4 2 [4] 2:4/2 [0 1 2 3]"}, done{note(5), "true", "5 2 [4] 2:4/2 [0 1 2 3]"}, done{step(2), "3:5/2 [0 1 2 3] of 4", "5 2 [4 5] 3:5/2 [0 1 2 3]"},
		done{note(6), "true", "6 2 [4 5] 3:5/2 [0 1 2 3]"}, done{step(3), "4:6/2 [0 1 2 3] of 4", "6 2 [4 5 6] 4:6/2 [0 1 2 3]"}, done{ack(2, 4, "\x02"), "false", "6 2 [4 5 6] 4:6/2 [0 2 3]"})
}

func TestAck(t *testing.T) {
	const was = "6 2 [4 5 6] 4:6/2 [0 2 3]"
	for _, c := range []struct {
		what  string
		k, id int
		have  string
		want  bool
		told  string
	}{
		{"below", 1, 0, "", false, was}, {"of none", 0, 0, "", false, was}, {"below 0", -1, 0, "", false, was}, {"the least", math.MinInt, 0, "", false, was}, {"as", 2, 0, "", false, was}, {"above the current one", 7, 0, "", false, was}, {"the greatest", math.MaxInt, 0, "", false, was},
		{"not kept", 3, 0, "", false, "6 0 [4 5 6] 4:6/2 [0 2 3]"}, {"the first one that is kept", 4, 0, "", true, "6 4 [5 6] 4:6/2 [0 2 3]"}, {"one that is kept", 5, 0, "", true, "6 5 [6] 4:6/2 [0 2 3]"}, {"the current one", 6, 0, "", true, "6 6 [] 4:6/2 [0 2 3]"},
		{"another id", 2, 3, "\xff", false, was}, {"an id above", 2, 5, "\xff", false, was}, {"no id", 2, 0, "\xff", false, was}, {"an id below 0", 2, -4, "\xff", false, was}, {"the greatest id", 2, math.MaxInt, "\xff", false, was},
		{"no bytes", 2, 4, "", false, was}, {"no bits", 2, 4, "\x00", false, was}, {"no bits, more bytes", 2, 4, "\x00\x00\x00", false, was}, {"those that are there", 2, 4, "\x02", false, was}, {"another one", 2, 4, "\x01", false, "6 2 [4 5 6] 4:6/2 [2 3]"}, {"the third one", 2, 4, "\x04", false, "6 2 [4 5 6] 4:6/2 [0 3]"}, {"the last one", 2, 4, "\x08", false, "6 2 [4 5 6] 4:6/2 [0 2]"}, {"two", 2, 4, "\x05", false, "6 2 [4 5 6] 4:6/2 [3]"}, {"all", 2, 4, "\x0f", false, "6 2 [4 5 6] 4:6/2 []"}, {"all bits", 2, 4, "\xff", false, "6 2 [4 5 6] 4:6/2 []"}, {"bits beyond", 2, 4, "\xf0", false, was}, {"bytes beyond", 2, 4, "\x00\xff\xff", false, was}, {"more bytes", 2, 4, "\x09\xff" + strings.Repeat("\xff", 9000), false, "6 2 [4 5 6] 4:6/2 [2]"},
		{"below, and bits", 1, 4, "\x01", false, "6 2 [4 5 6] 4:6/2 [2 3]"}, {"above, and bits", 7, 4, "\x01", false, "6 2 [4 5 6] 4:6/2 [2 3]"}, {"not kept, and bits", 3, 4, "\x01", false, "6 0 [4 5 6] 4:6/2 [2 3]"}, {"kept, and bits", 5, 4, "\x01", true, "6 5 [6] 4:6/2 [2 3]"}, {"kept, of another id", 5, 3, "\x01", true, "6 5 [6] 4:6/2 [0 2 3]"}, {"the current one, and all", 6, 4, "\xff", true, "6 6 [] 4:6/2 []"},
	} {
		s := behind(t)
		if got := s.Ack(c.k, c.id, c.have); got != c.want || told(s) != c.told {
			t.Errorf("%s: %t; %s, want %t; %s", c.what, got, told(s), c.want, c.told)
		}
	}
}

// An Ack ahead of any message, and what goes out behind one of a snap that is kept, or isn't.
func TestAckAndStep(t *testing.T) {
	play(t, "of a new one", three, done{ack(0, 0, ""), "false", fresh}, done{ack(1, 1, "\xff"), "false", ""}, done{ack(-1, -1, "\xff"), "false", ""}, done{note(1), "true", "1 0 [] 0:0/0 []"}, done{ack(0, 0, "\xff"), "false", ""}, done{ack(0, 1, "\xff"), "false", ""}, done{ack(1, 0, "\xff"), "false", ""}, done{step(0), "1:1/0 [0 1 2] of 3", "1 0 [1] 1:1/0 [0 1 2]"})
	for _, c := range []struct {
		k    int
		sent string
	}{{1, "none"}, {2, "none"}, {7, "none"}, {3, "5:6/0 [0 1 2] of 3"}, {4, "5:6/4 [0 1 2 3] of 4"}, {5, "5:6/5 [0 1 2 3] of 4"}, {6, "none"}} {
		s := behind(t)
		s.Ack(c.k, 0, "")
		if got := sent(t, s, s.Step(4)); got != c.sent {
			t.Errorf("%d: %s, want %s", c.k, got, c.sent)
		}
	}
	// Behind an Ack of one that isn't kept, those that are may be acked still, and older ones begin from the empty one again.
	s := behind(t)
	if s.Ack(3, 0, "") || !s.Ack(4, 0, "") || told(s) != "6 4 [5 6] 4:6/2 [0 2 3]" {
		t.Errorf("%s", told(s))
	}
	s = behind(t)
	if s.Ack(3, 0, "") || s.Ack(2, 0, "") || s.Ack(1, 0, "") || told(s) != "6 0 [4 5 6] 4:6/2 [0 2 3]" {
		t.Errorf("%s", told(s))
	}
}

// Which bit is whose, of messages of up to 17 parts.
func TestBits(t *testing.T) {
	text := delta.Diff(snap.Snap{}, snapOf(1))
	for size := 1; size <= len(text); size++ {
		count := (len(text) + size - 1) / size
		for i := range count {
			s := New(Config{size, 1, 1})
			s.Note(snapOf(1))
			s.Step(0)
			have := make([]byte, i/8+1)
			have[i/8] = 1 << (i % 8)
			s.Ack(0, 1, string(have))
			want := slices.Delete(upTo(0, count-1), i, i+1)
			if got := s.Lacks(); !slices.Equal(got, want) {
				t.Errorf("%d of %d: %d, want %d", i, count, got, want)
			}
			if got := len(s.Step(1)); got != count-1 {
				t.Errorf("%d of %d: %d datagrams", i, count, got)
			}
		}
	}
}

// P19.3: behind Acks of all parts nothing goes out again, in whatever order they come, as long as the current snap and the acked one stay.
func TestNothingAgain(t *testing.T) {
	for _, acks := range [][]string{{"\xff\xff\xff"}, {"\xff\xff\x01"}, {"\xff", "\x00\xff", "\x00\x00\x01"}, {"\x00\x00\x01", "\x00\xff", "\xff"}, {"\x55\x55\x01", "\xaa\xaa"}, {"\xfe\xff\x01", "", "\x01"}} {
		s := New(Config{1, 3, 2})
		s.Note(snapOf(1))
		now := 0
		for i, have := range acks {
			if got := s.Step(now); len(got) != len(s.Lacks()) || len(got) == 0 {
				t.Errorf("%x: %d datagrams ahead of the Ack %d", acks, len(got), i)
			}
			s.Ack(0, 1, have)
			now += 3
		}
		for ; now < 40; now++ {
			if got := s.Step(now); got != nil {
				t.Errorf("%x: %v at %d", acks, got, now)
			}
		}
		if id, k, base := s.Message(); id != 1 || k != 1 || base != 0 || s.Lacks() != nil {
			t.Errorf("%x: %s", acks, told(s))
		}
		s.Note(snapOf(2))
		if got := s.Step(40); len(got) != 17 {
			t.Errorf("%x: %v behind another one", acks, got)
		}
	}
}

// A message has as many parts as it needs, more than any Slot takes, too.
func TestManyParts(t *testing.T) {
	x := snapOf(1)
	x.Begun = slices.Repeat([]row.Glyph{{Rune: 0x4e2d, Style: 647}}, 1024)
	text := delta.Diff(snap.Snap{}, x)
	s := New(Config{1, 1, 1})
	s.Note(x)
	l := s.Step(0)
	if len(text) <= 4096 || len(l) != len(text) || len(s.Lacks()) != len(text) {
		t.Fatalf("%d datagrams, of %d bytes", len(l), len(text))
	}
	for i, g := range l {
		if !slices.Equal(g.Nums, []int{1, 1, 0, i, len(text)}) || g.Data != text[i:i+1] {
			t.Fatalf("%d: %v", i, g)
		}
	}
	s.Ack(0, 1, strings.Repeat("\xff", len(text)/8))
	if got, want := s.Lacks(), upTo(len(text)/8*8, len(text)-1); !slices.Equal(got, want) {
		t.Errorf("%d, want %d", got, want)
	}
}

// A clone goes its own way, and so does what it was made of.
func TestClone(t *testing.T) {
	const was = "6 2 [4 5 6] 4:6/2 [0 2 3]"
	for _, c := range []struct {
		act          act
		answer, told string
	}{
		{note(7), "true", "7 2 [4 5 6] 4:6/2 [0 2 3]"}, {step(8), "4:6/2 [0 2 3] of 4", was}, {ack(2, 4, "\x0f"), "false", "6 2 [4 5 6] 4:6/2 []"}, {ack(3, 0, ""), "false", "6 0 [4 5 6] 4:6/2 [0 2 3]"}, {ack(4, 4, "\x01"), "true", "6 4 [5 6] 4:6/2 [2 3]"}, {ack(6, 0, ""), "true", "6 6 [] 4:6/2 [0 2 3]"},
	} {
		for _, swap := range []bool{false, true} {
			a := behind(t)
			b := a.Clone()
			if swap {
				a, b = b, a
			}
			if got := c.act(t, a); got != c.answer || told(a) != c.told || told(b) != was {
				t.Errorf("%s; %s, and %s", got, told(a), told(b))
			}
			a.Step(99)
			a.Note(snapOf(9))
			a.Step(99)
			if told(b) != was || sent(t, b, b.Step(7)) != "none" || sent(t, b, b.Step(8)) != "4:6/2 [0 2 3] of 4" {
				t.Errorf("the other one: %s", told(b))
			}
			// Both keep other snaps from here on.
			b.Note(snapOf(8))
			if got := sent(t, b, b.Step(9)); got != "5:8/2 [0 1 2 3] of 4" || told(b) != "8 2 [4 5 6 8] 5:8/2 [0 1 2 3]" || a.Current() != 9 || a.Kept()[len(a.Kept())-1] != 9 {
				t.Errorf("%s; %s, and %s", got, told(b), told(a))
			}
			if !b.Ack(8, 0, "") || a.Ack(8, 0, "") {
				t.Error("what one keeps the other one has")
			}
		}
	}
	s := New(three).Clone()
	if s.Note(snapOf(1)); sent(t, s, s.Step(0)) != "1:1/0 [0 1 2] of 3" {
		t.Errorf("of a new one: %s", told(s))
	}
}

// spoil changes all lists of a snap.
func spoil(x snap.Snap) {
	for _, r := range x.Rows {
		for i := range r.Cells {
			r.Cells[i] = row.Cell{Rune: '!', Style: 77, Part: 1}
		}
	}
	for i := range x.Begun {
		x.Begun[i] = row.Glyph{Rune: '!', Style: 77}
	}
	clear(x.Rows)
}

// What is handed in isn't kept, and what is answered shares nothing.
func TestSharesNothing(t *testing.T) {
	s := New(Config{6, 1, 4})
	x := snapOf(1)
	x.Begun = []row.Glyph{{Rune: 'b'}}
	want := delta.Diff(snap.Snap{}, x)
	s.Note(x)
	spoil(x)
	for now := range 3 {
		text := ""
		for i, g := range s.Step(now) {
			text += g.Data
			if !slices.Equal(g.Nums, []int{1, 1, 0, i, (len(want) + 5) / 6}) {
				t.Errorf("%v", g)
			}
			nums := g.Nums[:cap(g.Nums)]
			for k := range nums {
				nums[k] = -7
			}
		}
		if text != want {
			t.Errorf("%q, want %q", text, want)
		}
		for _, l := range [][]int{s.Kept(), s.Lacks()} {
			l = l[:cap(l)]
			for k := range l {
				l[k] = -7
			}
		}
		if got := told(s); got != "1 0 [1] 1:1/0 [0 1 2 3]" {
			t.Errorf("%s", got)
		}
	}
	// No two datagrams of one answer share their numbers.
	l := New(Config{6, 1, 4})
	l.Note(snapOf(1))
	grams := l.Step(0)
	nums := append(grams[0].Nums, 9)
	nums[0] = -7
	if !slices.Equal(grams[1].Nums, []int{1, 1, 0, 1, 3}) {
		t.Errorf("%v", grams)
	}
}
