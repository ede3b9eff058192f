package server

import (
	"fmt"
	"math"
	"math/rand"
	"slices"
	"testing"

	"tidewrack/api"
	"tidewrack/fetch"
	"tidewrack/gram"
	"tidewrack/model"
	"tidewrack/row"
	"tidewrack/sender"
	"tidewrack/snap"
	"tidewrack/spans"
	"tidewrack/sum"
	"tidewrack/taker"
)

// plain is a server as the chapter tells it.
type plain struct {
	epoch, to int
	model     *model.Model
	sender    *sender.Sender
}

func newPlain(c Config) *plain {
	p := &plain{c.Epoch, c.To, model.New(c.W, c.H), sender.New(c.Sender)}
	p.sender.Note(p.model.Snap())
	return p
}

func (p *plain) clone() *plain {
	return &plain{p.epoch, p.to, p.model.Clone(), p.sender.Clone()}
}

func (p *plain) do(e model.Event) api.Errno {
	wrong := p.model.Do(e)
	p.sender.Note(p.model.Snap())
	return wrong
}

func (p *plain) step(now int) []Out {
	var l []Out
	for _, g := range p.sender.Step(now) {
		l = append(l, Out{p.to, gram.Gram{Epoch: p.epoch, Kind: g.Kind, Nums: g.Nums, Data: g.Data}.Pack()})
	}
	return l
}

func (p *plain) hear(from int, data string) ([]Out, api.Errno) {
	g, e := gram.Parse(data)
	if e != api.OK {
		return nil, e
	}
	if g.Kind == gram.Diff || g.Kind == gram.Lines {
		return nil, api.ErrKind
	}
	if from < 0 {
		from = 0
	}
	if from > 1<<32 {
		from = 1 << 32
	}
	if g.Epoch < p.epoch {
		return []Out{{from, gram.Gram{Epoch: p.epoch, Kind: gram.Lines, Nums: []int{0, 0}}.Pack()}}, api.ErrOld
	}
	if g.Epoch != p.epoch {
		return nil, api.ErrArg
	}
	if g.Kind == gram.Ack {
		if len(g.Nums) != 2 {
			return nil, api.ErrForm
		}
		p.sender.Ack(g.Nums[0], g.Nums[1], g.Data)
		p.to = from
		return nil, api.OK
	}
	if len(g.Nums) == 0 || len(g.Nums)%2 == 1 {
		return nil, api.ErrForm
	}
	p.to = from
	var l []spans.Span
	for pair := range slices.Chunk(g.Nums, 2) {
		l = append(l, spans.Span{From: pair[0], To: pair[1]})
	}
	var outs []Out
	for _, g := range fetch.Answer(p.epoch, p.model.Line, l...) {
		outs = append(outs, Out{from, g.Pack()})
	}
	return outs, api.OK
}

// told is as that of a server.
func (p *plain) told() string {
	c := p.clone()
	return fmt.Sprint(p.epoch, " ", p.to, " ", p.sender.Acked(), " ", p.model.K(), " ", p.model.Len(), " ", p.model.Snap().Pack(), " ", c.step(1<<38), c.step(1<<38+1), c.step(1<<39))
}

func pick[T any](random *rand.Rand, l ...T) T {
	return l[random.Intn(len(l))]
}

// randomEvent is one that may be, mostly.
func randomEvent(random *rand.Rand) model.Event {
	switch random.Intn(8) {
	case 0:
		return size(random.Intn(5), random.Intn(4))
	case 1:
		return model.Event{Kind: random.Intn(4) - 1, Text: "x", W: 2, H: 1}
	}
	text := ""
	for range random.Intn(5) {
		text += pick(random, "a", "b\u4e2d", "\r\n", "\x1b[2J", "\x1b[1;3", "2m", "\n", "\xe4\xb8", "\x08", "\x1b[H", "\x1b]0;t\x07")
	}
	return bytes(text)
}

// randomData is a datagram that is nearly one for a server of an epoch, which has some K, and sends the message of some id.
func randomData(random *rand.Rand, epoch, k, id int) string {
	g := gram.Gram{Epoch: pick(random, epoch, epoch, epoch, epoch, epoch, epoch, epoch-1, epoch+1, 1), Kind: pick(random, gram.Ack, gram.Ack, gram.Ask, gram.Ask, gram.Ack, gram.Ask, gram.Diff, gram.Lines)}
	if g.Kind == gram.Ack {
		g.Nums = []int{max(0, k-random.Intn(4)+1), max(0, id-random.Intn(2))}
		g.Data = pick(random, "", "\x01", "\x02", "\x07", "\xff\xff")
	} else {
		for range 2 * (1 + random.Intn(3)) {
			g.Nums = append(g.Nums, random.Intn(8))
		}
	}
	switch random.Intn(12) {
	case 0:
		g.Nums = make([]int, random.Intn(5))
	case 1:
		g.Nums[0] = 1 << 62
	}
	data := g.Pack()
	switch random.Intn(20) {
	case 0:
		data = sum.Turn(data, random.Intn(8*len(data)+1), random.Uint32())
	case 1:
		data = data[:random.Intn(len(data)+1)]
	case 2:
		data = sum.Seal(data)
	case 3:
		b := make([]byte, random.Intn(12))
		random.Read(b)
		data = sum.Seal(string(b))
	}
	return data
}

type both struct {
	s *Server
	p *plain
}

// do does something to both: the code of what came, -1 if nothing did.
func (b both) do(t *testing.T, random *rand.Rand, clock *int) api.Errno {
	t.Helper()
	switch random.Intn(6) {
	case 0, 1:
		e := randomEvent(random)
		was := told(b.s)
		got, want := b.s.Do(e), b.p.do(e)
		if got != want || got != api.OK && told(b.s) != was {
			t.Fatalf("Do %v: %d, want %d", e, got, want)
		}
	case 2:
		*clock += random.Intn(4)
		now := pick(random, *clock, *clock, *clock, -1, math.MaxInt, math.MinInt)
		if got, want := b.s.Step(now), b.p.step(now); !slices.Equal(got, want) {
			t.Fatalf("Step of %d: %v, want %v", now, got, want)
		}
	default:
		id, _, _ := b.p.sender.Message()
		data := randomData(random, b.p.epoch, b.p.sender.Current(), id)
		from := pick(random, 0, 1, 2, 3, 1<<32, 1<<32+1, -1, math.MaxInt, math.MinInt)
		was := told(b.s)
		got, e := b.s.Hear(pick(random, *clock, 0, -1, math.MaxInt), from, data)
		want, wantE := b.p.hear(from, data)
		if e != wantE || !slices.Equal(got, want) || e != api.OK && told(b.s) != was {
			t.Fatalf("Hear of %q: %v, %d, want %v, %d", data, got, e, want, wantE)
		}
		return e
	}
	return -1
}

// P22.1, P22.2: any calls, and clones of servers on their own ways.
func TestAnyCalls(t *testing.T) {
	random := rand.New(rand.NewSource(221))
	codes := map[api.Errno]int{}
	for range 300 {
		c := Config{Epoch: pick(random, 1, 2, 5, 1<<32-1), W: 1 + random.Intn(4), H: 1 + random.Intn(3), To: random.Intn(3), Sender: sender.Config{Part: pick(random, 3, 10, 8000), Every: 1 + random.Intn(4), Most: 1 + random.Intn(3)}}
		all := []both{{New(c), newPlain(c)}}
		clocks := []int{0}
		for range 60 {
			i := random.Intn(len(all))
			if len(all) < 3 && random.Intn(30) == 0 {
				all = append(all, both{all[i].s.Clone(), all[i].p.clone()})
				clocks = append(clocks, clocks[i])
			}
			codes[all[i].do(t, random, &clocks[i])]++
			for _, b := range all {
				if got, want := told(b.s), b.p.told(); got != want {
					t.Fatalf("%v: %s, want %s", c, got, want)
				}
			}
		}
	}
	for _, e := range []api.Errno{api.OK, api.ErrForm, api.ErrEnd, api.ErrSum, api.ErrKind, api.ErrArg, api.ErrOld} {
		if codes[e] < 20 {
			t.Errorf("%d of the code %d", codes[e], e)
		}
	}
}

// end is a taker and a fetch, which hear what a server sends to them.
type end struct {
	at    int
	taker *taker.Taker
	fetch *fetch.Fetch
	lines map[int][]row.Glyph
}

// hear takes a datagram of the server's.
func (c *end) hear(t *testing.T, data string) {
	t.Helper()
	g, e := gram.Parse(data)
	if e != api.OK || g.Epoch != 4 {
		t.Fatalf("%q: %d, of epoch %d", data, e, g.Epoch)
	}
	if g.Kind == gram.Diff {
		c.taker.Take(g)
		return
	}
	first, lines, e := fetch.Read(g)
	if e != api.OK {
		t.Fatalf("%v: %d", g, e)
	}
	for i, l := range lines {
		if c.fetch.Got(first + i) {
			c.lines[first+i] = l
		}
	}
}

// says is what goes out to the server at a tick.
func (c *end) says(now int) []string {
	g := c.taker.Ack()
	g.Epoch = 4
	l := []string{g.Pack()}
	var nums []int
	for _, x := range c.fetch.Ask(now, c.taker.Snap().Len) {
		nums = append(nums, x.From, x.To)
	}
	if nums != nil {
		l = append(l, gram.Gram{Epoch: 4, Kind: gram.Ask, Nums: nums}.Pack())
	}
	return l
}

// way is datagrams under way: some are lost, some come twice, and in any order.
type way struct {
	random *rand.Rand
	good   bool // nothing is lost, and all comes in its order
	under  []Out
}

// take is those that come now.
func (w *way) take() []Out {
	if w.good {
		l := w.under
		w.under = nil
		return l
	}
	var now, later []Out
	for _, o := range w.under {
		switch w.random.Intn(7) {
		case 0:
		case 1, 2:
			later = append(later, o)
		case 3:
			now, later = append(now, o), append(later, o)
		default:
			now = append(now, o)
		}
	}
	w.random.Shuffle(len(now), func(i, k int) { now[i], now[k] = now[k], now[i] })
	w.under = later
	return now
}

// A server, a taker and a fetch together: the taker's snap is always one that the server came to, each line that came is the server's, and where nothing is lost any more it has all.
func TestTogether(t *testing.T) {
	random := rand.New(rand.NewSource(222))
	count := 0
	for round := range 40 {
		s := New(Config{Epoch: 4, W: 4, H: 2, To: 1, Sender: sender.Config{Part: pick(random, 7, 30, 8000), Every: 1 + random.Intn(4), Most: 1 + random.Intn(4)}})
		c := &end{1, taker.New(), fetch.New(20, 1+random.Intn(4)), map[int][]row.Glyph{}}
		down, up := &way{random: random}, &way{random: random}
		came := map[int]snap.Snap{0: {}, 1: s.Model().Snap()}
		for now := range 160 {
			down.good, up.good = now > 100, now > 100
			if now < 100 && random.Intn(2) == 0 {
				s.Do(randomEvent(random))
				x := s.Model().Snap()
				came[x.K] = x
			}
			if now < 100 && random.Intn(9) == 0 {
				c.at = random.Intn(4)
			}
			if now < 100 && random.Intn(9) == 0 || now == 110 {
				from := random.Intn(s.Model().Len() + 1)
				c.fetch.Want(spans.Span{From: from, To: from + 30})
			}
			down.under = append(down.under, s.Step(now)...)
			for _, data := range c.says(now) {
				up.under = append(up.under, Out{c.at, data})
			}
			for _, o := range up.take() {
				l, e := s.Hear(now, o.To, o.Data)
				if e != api.OK || s.To() != o.To {
					t.Fatalf("round %d: %d, to %d", round, e, s.To())
				}
				down.under = append(down.under, l...)
			}
			k := c.taker.K()
			for _, o := range down.take() {
				if o.To == c.at {
					c.hear(t, o.Data)
				}
			}
			if x, ok := came[c.taker.K()]; !ok || c.taker.K() < k || !x.Same(c.taker.Snap()) {
				t.Fatalf("round %d, %d: a snap that there never was", round, now)
			}
		}
		m := s.Model()
		if !m.Snap().Same(c.taker.Snap()) || s.Acked() != m.K()+1 {
			t.Errorf("round %d: it has %d, %d is acked", round, c.taker.K(), s.Acked())
		}
		if len(c.fetch.Ask(math.MaxInt, m.Len())) > 0 {
			t.Errorf("round %d: %v of %d are wanted", round, c.fetch.Wanted(), m.Len())
		}
		for i, l := range c.lines {
			if x, ok := m.Line(i); !ok || !slices.Equal(x, l) {
				t.Errorf("round %d: the line %d", round, i)
			}
		}
		count += len(c.lines)
	}
	if count < 300 {
		t.Errorf("%d lines came", count)
	}
}
