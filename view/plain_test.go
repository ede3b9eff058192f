package view

import (
	"fmt"
	"maps"
	"math"
	"math/rand"
	"slices"
	"testing"

	"tidewrack/client"
	"tidewrack/model"
	"tidewrack/row"
	"tidewrack/sender"
	"tidewrack/server"
	"tidewrack/spans"
	runes "tidewrack/wide"
)

// plainCut is the rows of glyphs at a width that may be, as the chapters tell them.
func plainCut(kind, index int, l []row.Glyph, w int) []Row {
	cut := []Row{{Kind: kind, Index: index}}
	columns := 0
	for _, g := range l {
		last := &cut[len(cut)-1]
		if columns+runes.Of(g.Rune) > w {
			cut = append(cut, Row{Kind: kind, Index: index, Part: last.Part + 1})
			last, columns = &cut[len(cut)-1], 0
		}
		last.Glyphs = append(last.Glyphs, g)
		columns += runes.Of(g.Rune)
	}
	return cut
}

// plainRows is all rows, as the chapter tells them.
func plainRows(c *client.Client, w int) []Row {
	w = min(max(w, 2), 1000)
	s := c.Snap()
	var all []Row
	for i := range s.Len {
		l, ok := c.Line(i)
		if ok {
			all = append(all, plainCut(Line, i, l, w)...)
		} else {
			all = append(all, Row{Kind: Lack, Index: i})
		}
		if s.Len-i > 4096 {
			all = nil
		}
	}
	if len(s.Begun) > 0 {
		all = append(all, plainCut(Begun, 0, s.Begun, w)...)
	}
	for y, r := range s.Rows {
		all = append(all, Row{Screen, y, 0, r.Glyphs()})
	}
	return all
}

// plainAt is some of these rows.
func plainAt(all []Row, h, off int) []Row {
	h = min(max(h, 1), 1000)
	for ; off > 0 && len(all) > h; off-- {
		all = all[:len(all)-1]
	}
	for len(all) > h {
		all = all[1:]
	}
	return all
}

// plainVisible is the lines of these rows.
func plainVisible(l []Row) spans.Span {
	var all []int
	for _, r := range l {
		if r.Kind == Line || r.Kind == Lack {
			all = append(all, r.Index)
		}
	}
	if all == nil {
		return spans.Span{}
	}
	return spans.Span{From: slices.Min(all), To: slices.Max(all) + 1}
}

// joined is what rows of one kind and number are together.
func joined(l []Row, kind, index int) []row.Glyph {
	var all []row.Glyph
	for _, r := range l {
		if r.Kind == kind && r.Index == index {
			all = append(all, r.Glyphs...)
		}
	}
	return all
}

func pick[T any](random *rand.Rand, l ...T) T {
	return l[random.Intn(len(l))]
}

func randomText(random *rand.Rand, most int) string {
	text := ""
	for range random.Intn(most + 1) {
		text += pick(random, "a", "b", " ", "\u4e2d", "\u0301", "\u00e4", "\U0001f600")
	}
	return text
}

// check holds all that is seen of a client, at widths and places, against the second reading.
func check(t *testing.T, random *rand.Rand, c *client.Client) {
	t.Helper()
	widths := map[int][]Row{}
	for _, w := range []int{1 + random.Intn(9), 1 + random.Intn(30), pick(random, 1000, 999, 1001, 0, -1, math.MaxInt, math.MinInt)} {
		all := Rows(c, w)
		if want := plainRows(c, w); !slices.EqualFunc(all, want, same) {
			t.Fatalf("%d: %s, want %s", w, short(all), short(want))
		}
		for _, h := range []int{1, 1 + random.Intn(9), 1 + random.Intn(len(all)+9), pick(random, 0, -1, 1000, math.MaxInt, math.MinInt)} {
			for _, off := range []int{0, random.Intn(len(all) + 9), pick(random, -1, math.MaxInt, math.MinInt)} {
				got, want := At(c, w, h, off), plainAt(all, h, off)
				if !slices.EqualFunc(got, want, same) {
					t.Fatalf("%d, %d, %d: %s, want %s", w, h, off, short(got), short(want))
				}
				if got, want := Visible(c, w, h, off), plainVisible(want); got != want {
					t.Fatalf("%d, %d, %d: %v, want %v", w, h, off, got, want)
				}
			}
		}
		widths[w] = all
	}
	// P7, P24.2: rows that are joined are the line; at another width and back the rows are the same.
	for _, w := range slices.Sorted(maps.Keys(widths)) {
		for i := range c.Snap().Len {
			l, ok := c.Line(i)
			if got := joined(widths[w], Line, i); ok && !slices.Equal(got, l) || !ok && got != nil {
				t.Fatalf("%d: the line %d is %v, want %v", w, i, got, l)
			}
		}
		if got := joined(widths[w], Begun, 0); !slices.Equal(got, c.Snap().Begun) {
			t.Fatalf("%d: %v is begun", w, got)
		}
		if again := Rows(c, w); !slices.EqualFunc(again, widths[w], same) {
			t.Fatalf("%d, again: %s, was %s", w, short(again), short(widths[w]))
		}
	}
}

// P24.1, P24.2: any scene.
func TestAnyScene(t *testing.T) {
	random := rand.New(rand.NewSource(241))
	for range 600 {
		s := scene{length: random.Intn(9), lines: map[int]string{}, w: 1 + random.Intn(6)}
		for i := range s.length + 2 {
			if random.Intn(3) > 0 {
				s.lines[i] = randomText(random, 20)
			}
		}
		if random.Intn(2) == 0 {
			s.begun = randomText(random, 20)
		}
		for range 1 + random.Intn(4) {
			s.screen = append(s.screen, pick(random, "", "x", " y", "\u4e2d"))
		}
		check(t, random, s.client(t))
	}
}

// way is datagrams under way: some are lost, some come twice, and in any order.
type way struct {
	random *rand.Rand
	good   bool // nothing is lost, and all comes in its order
	under  []server.Out
}

// take is those that come now.
func (w *way) take() []server.Out {
	if w.good {
		l := w.under
		w.under = nil
		return l
	}
	var now, later []server.Out
	for _, o := range w.under {
		switch w.random.Intn(7) {
		case 0:
		case 1, 2:
			later = append(later, o)
		case 3:
			now, later = append(now, o), append(later, o)
		default:
			now = append(now, o)
		}
	}
	w.random.Shuffle(len(now), func(i, k int) { now[i], now[k] = now[k], now[i] })
	w.under = later
	return now
}

// seen is what is to be seen of a server's model, by what its screen and its book were behind an event.
func seen(m *model.Model) string {
	s := m.Snap()
	return fmt.Sprint(s.Len, s.Begun, s.Rows)
}

// shows: what is seen of a client is what its epoch's server came to: its lines, or their places, what is begun, and its screen.
func shows(t *testing.T, c *client.Client, m *model.Model, came map[int]string) {
	t.Helper()
	s := c.Snap()
	if s.K == 0 {
		if l := Rows(c, 7); len(l) > 0 {
			t.Fatalf("of nothing: %s", short(l))
		}
		return
	}
	if got := fmt.Sprint(s.Len, s.Begun, s.Rows); got != came[s.K] {
		t.Fatalf("K %d: %s, want %s", s.K, got, came[s.K])
	}
	all := Rows(c, 7)
	for i := range s.Len {
		want, ok := m.Line(i)
		at := slices.IndexFunc(all, func(r Row) bool { return (r.Kind == Line || r.Kind == Lack) && r.Index == i })
		if !ok || at < 0 || all[at].Kind == Line && !slices.Equal(joined(all, Line, i), want) {
			t.Fatalf("K %d, the line %d: %s, want %v", s.K, i, short(all), want)
		}
	}
	if !slices.Equal(joined(all, Begun, 0), s.Begun) {
		t.Fatalf("K %d: %s", s.K, short(all))
	}
	for y, r := range s.Rows {
		if !slices.Equal(joined(all, Screen, y), r.Glyphs()) {
			t.Fatalf("K %d, the row %d: %s", s.K, y, short(all))
		}
	}
}

// randomEvent is one that may be.
func randomEvent(random *rand.Rand) model.Event {
	if random.Intn(9) == 0 {
		return model.Event{Kind: model.Size, W: 1 + random.Intn(6), H: 1 + random.Intn(3)}
	}
	return model.Event{Text: randomText(random, 6) + pick(random, "", "\r\n", "\n\n", "\x1b[7m", "\x1b[H")}
}

// P2, P6, P7: a server, a client and a view together, whose datagrams are lost, doubled and mixed, within an epoch and across a newer one; a person scrolls, and what is visible is wanted.
func TestTogether(t *testing.T) {
	random := rand.New(rand.NewSource(242))
	lines := 0
	for round := range 40 {
		config := server.Config{Epoch: 1, W: 2 + random.Intn(5), H: 1 + random.Intn(3), To: 1, Sender: sender.Config{Part: pick(random, 9, 40, 8000), Every: 1 + random.Intn(4), Most: 1 + random.Intn(4)}}
		s := server.New(config)
		c := client.New(client.Config{Cache: 8 + random.Intn(30), Every: 1 + random.Intn(4), Addr: 1})
		down, up := &way{random: random}, &way{random: random}
		models, came := map[int]*model.Model{}, map[int]map[int]string{}
		off := 0
		for now := range 220 {
			down.good, up.good = now > 130, now > 130
			if now == 70 && round%2 == 0 {
				config.Epoch = 2 + random.Intn(3)
				s = server.New(config)
			}
			if now < 130 && random.Intn(2) == 0 {
				s.Do(randomEvent(random))
			}
			if m := s.Model(); came[s.Epoch()] == nil || came[s.Epoch()][m.Snap().K] == "" {
				if came[s.Epoch()] == nil {
					came[s.Epoch()] = map[int]string{}
				}
				models[s.Epoch()], came[s.Epoch()][m.Snap().K] = m, seen(m)
			}
			if now < 130 && random.Intn(5) == 0 || now == 150 {
				off = random.Intn(20)
				x := Visible(c, 7, 4, off)
				c.Want(x.From, x.To)
			}
			down.under = append(down.under, s.Step(now)...)
			for _, data := range c.Step(now) {
				up.under = append(up.under, server.Out{To: c.Addr(), Data: data})
			}
			for _, o := range up.take() {
				l, _ := s.Hear(now, o.To, o.Data)
				down.under = append(down.under, l...)
			}
			for _, o := range down.take() {
				c.Hear(now, o.Data)
			}
			if m := models[c.Epoch()]; m != nil {
				shows(t, c, m, came[c.Epoch()])
			}
		}
		check(t, random, c)
		if !c.Snap().Same(s.Model().Snap()) || c.Epoch() != s.Epoch() {
			t.Errorf("round %d: epoch %d, K %d", round, c.Epoch(), c.Snap().K)
		}
		for _, x := range c.Spans() {
			lines += x.To - x.From
		}
		// Lines that were seen, and their places, when they were wanted, are at hand now.
		if got := c.Wanted(); len(got) > 0 {
			t.Errorf("round %d: %v of %d are wanted", round, got, c.Snap().Len)
		}
	}
	if lines < 200 {
		t.Errorf("%d lines came", lines)
	}
}
