package model

import (
	"math/rand"
	"slices"
	"strings"
	"testing"

	"tidewrack/api"
	"tidewrack/book"
	"tidewrack/row"
	"tidewrack/screen"
	"tidewrack/seq"
	"tidewrack/snap"
)

// plain is a model as the chapter tells it: all bytes so far are said anew, and all that ever went off is kept as rows.
type plain struct {
	w, h   int
	events []Event
}

func (p *plain) do(e Event) {
	p.events = append(p.events, e)
}

// told is the screen, and the book, behind all events.
func (p *plain) told() (*screen.Screen, *book.Book) {
	var parser seq.Parser
	var off []row.Row
	s := screen.New(p.w, p.h)
	for _, e := range p.events {
		if e.Kind == 1 {
			off = append(off, s.Resize(e.W, e.H)...)
			continue
		}
		for i := range len(e.Text) {
			for _, a := range parser.Feed(e.Text[i : i+1]) {
				off = append(off, s.Do(a)...)
			}
		}
	}
	b := book.New()
	b.Add(off...)
	return s, b
}

// sameLines: both tell the same lines, and what is begun too.
func sameLines(m *Model, b *book.Book) bool {
	if m.Len() != b.Len() || !slices.Equal(m.Begun(), b.Begun()) || m.Chain(m.Len()) != b.Chain(b.Len()) {
		return false
	}
	for i := -1; i <= b.Len(); i++ {
		got, ok := m.Line(i)
		want, there := b.Line(i)
		if ok != there || !slices.Equal(got, want) {
			return false
		}
	}
	return true
}

// sameScreen: all that is told of two screens is alike.
func sameScreen(s, q *screen.Screen) bool {
	x, y := s.Cursor()
	qx, qy := q.Cursor()
	top, bottom := s.Region()
	qtop, qbottom := q.Region()
	return s.Grid().Same(q.Grid()) && [4]int{x, y, top, bottom} == [4]int{qx, qy, qtop, qbottom} && s.Title() == q.Title() && s.Style() == q.Style() && s.Waiting() == q.Waiting()
}

// check: a model is what the chapter tells of its events.
func (p *plain) check(t *testing.T, m *Model) {
	t.Helper()
	s, b := p.told()
	k := len(p.events)
	if m.K() != k || !sameLines(m, b) || !sameScreen(m.Screen(), s) {
		t.Fatalf("%d, %d, %+v: %d events, %d lines, %q, want %d, %d, %q", p.w, p.h, p.events, m.K(), m.Len(), m.Screen().Grid().Text(), k, b.Len(), s.Grid().Text())
	}
	if got := m.Snap(); got.K != k+1 || !got.Same(snap.Of(k+1, s, b)) || got.Check() != api.OK {
		t.Fatalf("%d, %d, %+v: %v", p.w, p.h, p.events, got)
	}
}

func pick[T any](random *rand.Rand, l ...T) T {
	return l[random.Intn(len(l))]
}

// said is something that an application may put out.
func said(random *rand.Rand) string {
	return pick(random,
		"a", "bc", "word ", "\u4e2d", "e\u0301", "\r\n", "\r\n", "\n", "\n\n\n", "\b", "\t", "\r", "\x1b[1;31m", "\x1b[m", "\x1b[H", "\x1b[9;9H", "\x1b[2J", "\x1b[K", "\x1b[2S", "\x1b[S", "\x1b[T", "\x1b[L", "\x1b[M", "\x1b[2@", "\x1b[P", "\x1b[1;2r", "\x1b[2;3r", "\x1b[r", "\x1b[?7l", "\x1b[?7h", "\x1b7", "\x1b8", "\x1bM", "\x1bD", "\x1bE", "\x1bc",
		"\x1b]0;title\x07", "\x1b]2;t\u4e2d\x1b\\", "\x1b", "\x1b[", "\x1b[3", "\x1b]0;", "\xe4", "\xe4\xb8", "\xad", "\xff", "\xf0\x9f", "\x98\x80", "\x7f", "\x18", strings.Repeat("long", random.Intn(12)), string([]byte{byte(random.Intn(256))}),
	)
}

func output(random *rand.Rand) string {
	s := ""
	for range random.Intn(8) {
		s += said(random)
	}
	return s
}

// event is one that may be, most often bytes.
func event(random *rand.Rand) Event {
	if random.Intn(6) == 0 {
		return Event{Kind: Size, Text: pick(random, "", "x"), W: pick(random, 1, 2, 3, 5, 9), H: pick(random, 1, 1, 2, 3, 4)}
	}
	return Event{Text: output(random), W: random.Intn(3), H: -random.Intn(3)}
}

// P18.1: any events, and clones of models on their own ways.
func TestAnyEvents(t *testing.T) {
	random := rand.New(rand.NewSource(181))
	for range 400 {
		w, h := 1+random.Intn(6), 1+random.Intn(4)
		models, plains := []*Model{New(w, h)}, []*plain{{w: w, h: h}}
		for range 30 {
			i := random.Intn(len(models))
			if len(models) < 4 && random.Intn(8) == 0 {
				models = append(models, models[i].Clone())
				plains = append(plains, &plain{w, h, slices.Clone(plains[i].events)})
			}
			e := event(random)
			if random.Intn(10) == 0 {
				e = pick(random, Event{Kind: -1, Text: "no"}, Event{Kind: 2, Text: "no", W: 1, H: 1}, Event{Kind: Size, W: 0, H: 1}, Event{Kind: Size, W: 1, H: 1001})
				if models[i].Do(e) == api.OK {
					t.Fatalf("%v may be", e)
				}
			} else if wrong := models[i].Do(e); wrong != api.OK {
				t.Fatalf("%v: %d", e, wrong)
			} else {
				plains[i].do(e)
			}
		}
		for i, m := range models {
			plains[i].check(t, m)
		}
	}
}

// P18.2: what is a line once stays it.
func TestLinesStay(t *testing.T) {
	random := rand.New(rand.NewSource(182))
	for range 200 {
		m := New(1+random.Intn(6), 1+random.Intn(3))
		var lines [][]row.Glyph
		for range 40 {
			m.Do(event(random))
			if m.Len() < len(lines) {
				t.Fatalf("%d lines, and there were %d", m.Len(), len(lines))
			}
			for i := range m.Len() {
				l, ok := m.Line(i)
				if i < len(lines) && !slices.Equal(l, lines[i]) || !ok {
					t.Fatalf("the line %d was %v, is %v", i, lines[i], l)
				}
				if i >= len(lines) {
					lines = append(lines, l)
				}
			}
		}
	}
}

// P18.2: bytes that come in parts do what they do together, but for K.
func TestParts(t *testing.T) {
	random := rand.New(rand.NewSource(183))
	for range 1500 {
		w, h, text := 1+random.Intn(6), 1+random.Intn(3), ""
		for range 4 {
			text += output(random)
		}
		whole, parts := New(w, h), New(w, h)
		whole.Do(Event{Text: text})
		n := 0
		for left := text; left != ""; n++ {
			cut := 1 + random.Intn(min(len(left), 5))
			parts.Do(Event{Text: left[:cut]})
			left = left[cut:]
		}
		// Both are still alike behind something more: a sequence that isn't whole may be on its way.
		for range 2 {
			one, two := whole.Snap(), parts.Snap()
			if two.K != parts.K()+1 || one.K != whole.K()+1 {
				t.Fatalf("%q: %d, %d", text, one.K, two.K)
			}
			one.K = two.K
			if !one.Same(two) || !sameScreen(whole.Screen(), parts.Screen()) || !sameLines(whole, parts.Book) {
				t.Fatalf("%q in %d parts: %v, want %v", text, n, two, one)
			}
			whole.Do(Event{Text: "\xad1mz"})
			parts.Do(Event{Text: "\xad1mz"})
		}
		if parts.K() != n+2 || whole.K() != 3 {
			t.Fatalf("%q: %d events, and %d", text, parts.K(), whole.K())
		}
	}
}
