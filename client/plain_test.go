package client

import (
	"fmt"
	"math"
	"math/rand"
	"slices"
	"strings"
	"testing"

	"tidewrack/api"
	"tidewrack/delta"
	"tidewrack/fetch"
	"tidewrack/gram"
	"tidewrack/model"
	"tidewrack/row"
	"tidewrack/sender"
	"tidewrack/server"
	"tidewrack/snap"
	"tidewrack/sum"
	"tidewrack/taker"
)

// held is a line at hand.
type held struct {
	number int
	glyphs []row.Glyph
}

// plain is a client as the chapter tells it. Its numbers are such as may be.
type plain struct {
	epoch, addr, every, most int
	next, nextAsk            int
	taker                    *taker.Taker
	lines                    []held // the eldest one first
	wanted                   []int  // rising
}

func newPlain(c Config) *plain {
	return &plain{addr: c.Addr, every: c.Every, most: c.Cache, taker: taker.New()}
}

func (p *plain) clone() *plain {
	c := *p
	c.taker, c.lines, c.wanted = p.taker.Clone(), slices.Clone(p.lines), slices.Clone(p.wanted)
	return &c
}

// place is where a line stands, or -1.
func (p *plain) place(i int) int {
	return slices.IndexFunc(p.lines, func(x held) bool { return x.number == i })
}

func (p *plain) hear(data string) api.Errno {
	g, e := gram.Parse(data)
	if e != api.OK {
		return e
	}
	if g.Kind == gram.Ack || g.Kind == gram.Ask {
		return api.ErrKind
	}
	if g.Epoch < p.epoch {
		return api.ErrOld
	}
	if g.Epoch > p.epoch {
		p.epoch, p.taker, p.lines, p.wanted, p.nextAsk = g.Epoch, taker.New(), nil, nil, 0
	}
	if g.Kind == gram.Diff {
		return p.taker.Take(g)
	}
	first, l, e := fetch.Read(g)
	for i, x := range l {
		at, wanted := slices.BinarySearch(p.wanted, first+i)
		if !wanted {
			continue
		}
		p.wanted = slices.Delete(p.wanted, at, at+1)
		p.lines = append(p.lines, held{first + i, x})
		if len(p.lines) > p.most {
			p.lines = p.lines[1:]
		}
	}
	return e
}

// asks is which lines are asked for, as Nums.
func (p *plain) asks() []int {
	var nums []int
	for _, i := range p.wanted {
		if i >= p.taker.Snap().Len {
			continue
		}
		if n := len(nums); n > 0 && nums[n-1] == i {
			nums[n-1] = i + 1
		} else if n < 16 {
			nums = append(nums, i, i+1)
		}
	}
	return nums
}

func (p *plain) step(now int) []string {
	now = min(max(now, 0), 1<<40)
	epoch := p.epoch
	if epoch == 0 {
		epoch = 1
	}
	var l []string
	if p.next <= now {
		p.next = now + p.every
		g := p.taker.Ack()
		l = append(l, gram.Gram{Epoch: epoch, Kind: gram.Ack, Nums: g.Nums, Data: g.Data}.Pack())
	}
	if nums := p.asks(); nums != nil && p.nextAsk <= now {
		p.nextAsk = now + p.every
		l = append(l, gram.Gram{Epoch: epoch, Kind: gram.Ask, Nums: nums}.Pack())
	}
	return l
}

func (p *plain) want(from, to int) int {
	p.wanted, p.nextAsk = nil, 0
	count := 0
	for i := max(from, 0); i < to && i < 1<<60 && count < p.most; i++ {
		if at := p.place(i); at >= 0 {
			x := p.lines[at]
			p.lines = append(slices.Delete(p.lines, at, at+1), x)
		} else {
			p.wanted = append(p.wanted, i)
		}
		count++
	}
	return len(p.wanted)
}

func (p *plain) line(i int) ([]row.Glyph, bool) {
	at := p.place(i)
	if at < 0 || i >= p.taker.Snap().Len {
		return nil, false
	}
	return p.lines[at].glyphs, true
}

// spansText is rising numbers as spans, in short.
func spansText(l []int) string {
	s := ""
	for i, n := range l {
		if i == 0 || l[i-1] != n-1 {
			s += fmt.Sprint(" ", n, "-")
		}
		if i+1 == len(l) || l[i+1] != n+1 {
			s += fmt.Sprint(n + 1)
		}
	}
	if s == "" {
		return "none"
	}
	return s[1:]
}

// told is as that of a client.
func (p *plain) told(t *testing.T) string {
	var at, order []int
	for _, x := range p.lines {
		at = append(at, x.number)
	}
	if p.epoch > 0 {
		order = slices.Clone(at)
	}
	slices.Sort(at)
	s := fmt.Sprint("epoch ", p.epoch, ", at ", p.addr, ", has ", spansText(at), ", wants ", spansText(p.wanted), ", K ", p.taker.K(), " ", p.taker.Snap().Pack())
	for _, i := range at {
		l, ok := p.line(i)
		s += fmt.Sprint(" ", i, ok, l)
	}
	return s + fmt.Sprint(order) + ticks(t, p.clone().step)
}

func pick[T any](random *rand.Rand, l ...T) T {
	return l[random.Intn(len(l))]
}

// randomSnap is one of K k, upon which others can be made.
func randomSnap(random *rand.Rand, k int) snap.Snap {
	return snapOf(k, random.Intn(20))
}

// randomDiff is a part of a message that is nearly one for a client which has a snap, and a message of some id.
func randomDiff(random *rand.Rand, has snap.Snap, id int) gram.Gram {
	to := randomSnap(random, has.K+1+random.Intn(2))
	from := pick(random, has, has, snapOf(0, 0))
	data := delta.Diff(from, to)
	g := gram.Gram{Kind: gram.Diff, Nums: []int{max(id, 1) + random.Intn(3), to.K, from.K, 0, 1}, Data: data}
	if random.Intn(2) == 0 {
		half := len(data) / 2
		g.Nums[0], g.Nums[3], g.Nums[4] = max(id, 1), random.Intn(2), 2
		g.Data = pick(random, data[:half], data[half:])
	}
	switch random.Intn(12) {
	case 0:
		g.Nums = g.Nums[:random.Intn(5)]
	case 1:
		g.Nums[random.Intn(5)] += random.Intn(3) - 1
	case 2:
		g.Data = g.Data[:random.Intn(len(g.Data)+1)]
	}
	g.Nums = slices.DeleteFunc(g.Nums, func(n int) bool { return n < 0 })
	return g
}

// randomLines is lines that are nearly read.
func randomLines(random *rand.Rand) gram.Gram {
	texts := strings.Fields(pick(random, "", "a", "b c", "d e f", "g h i j k l"))
	g := gram.Gram{Kind: gram.Lines, Nums: []int{random.Intn(10), len(texts)}, Data: linesOf(texts...)}
	switch random.Intn(12) {
	case 0:
		g.Nums = make([]int, random.Intn(4))
	case 1:
		g.Nums[random.Intn(2)]++
	case 2:
		g.Data = g.Data[:random.Intn(len(g.Data)+1)]
	case 3:
		g.Nums[0] = pick(random, 1<<60-2, 1<<62)
	}
	return g
}

// randomData is a datagram that is nearly one for a client.
func randomData(random *rand.Rand, p *plain) string {
	g := randomLines(random)
	if random.Intn(2) == 0 {
		g = randomDiff(random, p.taker.Snap(), p.taker.Ack().Nums[1])
	}
	g.Epoch = max(1, p.epoch)
	switch random.Intn(50) {
	case 0:
		g.Epoch++
	case 1, 2:
		g.Epoch = max(1, p.epoch-1)
	}
	if random.Intn(20) == 0 {
		g.Kind = pick(random, gram.Ack, gram.Ask)
	}
	data := g.Pack()
	switch random.Intn(25) {
	case 0:
		data = sum.Turn(data, random.Intn(8*len(data)+1), random.Uint32())
	case 1:
		data = data[:random.Intn(len(data)+1)]
	case 2:
		b := make([]byte, random.Intn(12))
		random.Read(b)
		data = sum.Seal(string(b))
	}
	return data
}

type both struct {
	c *Client
	p *plain
}

// do does something to both: the code of what came, -1 if nothing did.
func (b both) do(t *testing.T, random *rand.Rand, clock *int) api.Errno {
	t.Helper()
	switch random.Intn(8) {
	case 0:
		addr := random.Intn(9)
		b.c.Move(addr)
		b.p.addr = addr
	case 1, 2:
		*clock += random.Intn(4)
		now := pick(random, *clock, *clock, *clock, *clock, *clock, 0, -1)
		if got, want := b.c.Step(now), b.p.step(now); !slices.Equal(got, want) {
			t.Fatalf("Step of %d: %s, want %s", now, said(t, got), said(t, want))
		}
	case 3:
		from := pick(random, random.Intn(10), random.Intn(10), random.Intn(10), random.Intn(10), random.Intn(10), random.Intn(10), -random.Intn(5), 1<<60-random.Intn(5), math.MinInt, math.MaxInt)
		to := pick(random, from+random.Intn(12), random.Intn(16), math.MaxInt, math.MinInt)
		if got, want := b.c.Want(from, to), b.p.want(from, to); got != want {
			t.Fatalf("Want of %d, %d: %d, want %d", from, to, got, want)
		}
	default:
		data := randomData(random, b.p)
		got, want := b.c.Hear(pick(random, *clock, 0, -1, math.MaxInt), data), b.p.hear(data)
		if got != want {
			t.Fatalf("Hear of %q: %d, want %d", data, got, want)
		}
		return got
	}
	return -1
}

// P23.1, P23.2, P23.3: any calls, and clones of clients on their own ways; the epoch never falls, nor the K within one, and never more lines are at hand than may be.
func TestAnyCalls(t *testing.T) {
	random := rand.New(rand.NewSource(231))
	codes := map[api.Errno]int{}
	newer, full, count := 0, 0, 0
	for range 250 {
		c := Config{Cache: 1 + random.Intn(7), Every: 1 + random.Intn(6), Addr: random.Intn(9)}
		all := []both{{New(c), newPlain(c)}}
		clocks := []int{0}
		for range 80 {
			i := random.Intn(len(all))
			if len(all) < 3 && random.Intn(30) == 0 {
				all = append(all, both{all[i].c.Clone(), all[i].p.clone()})
				clocks = append(clocks, clocks[i])
			}
			epoch, k := all[i].c.Epoch(), all[i].c.Snap().K
			codes[all[i].do(t, random, &clocks[i])]++
			if all[i].c.Epoch() < epoch || all[i].c.Epoch() == epoch && all[i].c.Snap().K < k {
				t.Fatalf("epoch %d, K %d, was %d, %d", all[i].c.Epoch(), all[i].c.Snap().K, epoch, k)
			}
			if all[i].c.Epoch() > epoch {
				newer++
			}
			n := 0
			for _, x := range all[i].c.Spans() {
				n += x.To - x.From
			}
			if n > c.Cache {
				t.Fatalf("%d lines of %d", n, c.Cache)
			}
			if n == c.Cache {
				full++
			}
			count += n
			for _, b := range all {
				if got, want := told(t, b.c), b.p.told(t); got != want {
					t.Fatalf("%v: %s, want %s", c, got, want)
				}
			}
		}
	}
	for _, e := range []api.Errno{api.OK, api.ErrForm, api.ErrEnd, api.ErrSum, api.ErrKind, api.ErrArg, api.ErrBase, api.ErrOld} {
		if codes[e] < 20 {
			t.Errorf("%d of the code %d", codes[e], e)
		}
	}
	if newer < 200 || full < 400 || count < 6000 {
		t.Errorf("%d epochs, %d times as many as may be, %d lines", newer, full, count)
	}
}

// way is datagrams under way: some are lost, some come twice, and in any order.
type way struct {
	random *rand.Rand
	good   bool // nothing is lost, and all comes in its order
	under  []server.Out
}

// take is those that come now.
func (w *way) take() []server.Out {
	if w.good {
		l := w.under
		w.under = nil
		return l
	}
	var now, later []server.Out
	for _, o := range w.under {
		switch w.random.Intn(7) {
		case 0:
		case 1, 2:
			later = append(later, o)
		case 3:
			now, later = append(now, o), append(later, o)
		default:
			now = append(now, o)
		}
	}
	w.random.Shuffle(len(now), func(i, k int) { now[i], now[k] = now[k], now[i] })
	w.under = later
	return now
}

// world is servers, one behind the other, a client, and what is under way between them.
type world struct {
	t        *testing.T
	random   *rand.Rand
	server   *server.Server
	client   *Client
	down, up *way
	models   map[int]*model.Model      // the newest one of each epoch
	came     map[int]map[int]snap.Snap // what each epoch's server came to
}

// start begins another epoch.
func (w *world) start(epoch, to int) {
	c := sender.Config{Part: pick(w.random, 7, 30, 8000), Every: 1 + w.random.Intn(4), Most: 1 + w.random.Intn(4)}
	w.server = server.New(server.Config{Epoch: epoch, W: 2 + w.random.Intn(4), H: 1 + w.random.Intn(2), To: to, Sender: c})
	w.came[epoch] = map[int]snap.Snap{0: {}}
	w.note()
}

// note keeps what the server came to.
func (w *world) note() {
	m := w.server.Model()
	x := m.Snap()
	w.models[w.server.Epoch()], w.came[w.server.Epoch()][x.K] = m, x
}

// event is something that the application puts out, or another size.
func (w *world) event() {
	e := model.Event{Text: pick(w.random, "a", "b\u4e2d", "c\r\nd\r\n", "\x1b[1;31me", "efghij", "\n", "\x1b[H\n", "\xe4\xb8")}
	if w.random.Intn(9) == 0 {
		e = model.Event{Kind: model.Size, W: 1 + w.random.Intn(6), H: 1 + w.random.Intn(3)}
	}
	w.server.Do(e)
	w.note()
}

// tick sends what both say, and delivers what comes.
func (w *world) tick(now int) {
	w.down.under = append(w.down.under, w.server.Step(now)...)
	for _, data := range w.client.Step(now) {
		w.up.under = append(w.up.under, server.Out{To: w.client.Addr(), Data: data})
	}
	for _, o := range w.up.take() {
		l, _ := w.server.Hear(now, o.To, o.Data)
		w.down.under = append(w.down.under, l...)
	}
	for _, o := range w.down.take() {
		if o.To == w.client.Addr() {
			w.client.Hear(now, o.Data)
			w.check()
		}
	}
}

// check: the client's snap is one that its epoch's server came to, and each line at hand is that server's.
func (w *world) check() {
	w.t.Helper()
	epoch, x := w.client.Epoch(), w.client.Snap()
	if want, ok := w.came[epoch][x.K]; !ok || !want.Same(x) {
		w.t.Fatalf("epoch %d, K %d: a snap that there never was", epoch, x.K)
	}
	for _, s := range w.client.Spans() {
		for i := s.From; i < s.To; i++ {
			got, ok := w.client.Line(i)
			want, is := w.models[epoch].Line(i)
			if ok != (i < x.Len) || !is || ok && !slices.Equal(got, want) {
				w.t.Fatalf("epoch %d: the line %d of %d is %v, %v", epoch, i, x.Len, got, ok)
			}
		}
	}
}

// P23.2, and P2, P3, P6: a server and a client together, within an epoch and across newer ones, while the client moves; and where nothing is lost any more it has all.
func TestTogether(t *testing.T) {
	random := rand.New(rand.NewSource(232))
	count := 0
	for range 60 {
		c := New(Config{Cache: 5 + random.Intn(20), Every: 1 + random.Intn(4), Addr: 1})
		w := &world{t, random, nil, c, &way{random: random}, &way{random: random}, map[int]*model.Model{}, map[int]map[int]snap.Snap{0: {0: {}}}}
		w.start(1, 1)
		for now := range 200 {
			bad := now < 120
			w.down.good, w.up.good = !bad, !bad
			if bad && random.Intn(2) == 0 {
				w.event()
			}
			if bad && random.Intn(12) == 0 {
				c.Move(1 + random.Intn(3))
			}
			if bad && random.Intn(60) == 0 {
				w.start(w.server.Epoch()+1+random.Intn(2), c.Addr())
			}
			if bad && random.Intn(7) == 0 || now == 150 {
				from := random.Intn(w.server.Model().Len() + 1)
				c.Want(from, from+random.Intn(30))
			}
			epoch, k := c.Epoch(), c.Snap().K
			w.tick(now)
			if c.Epoch() < epoch || c.Epoch() == epoch && c.Snap().K < k {
				t.Fatalf("epoch %d, K %d, was %d, %d", c.Epoch(), c.Snap().K, epoch, k)
			}
		}
		m := w.server.Model()
		if c.Epoch() != w.server.Epoch() || !c.Snap().Same(m.Snap()) || w.server.Acked() != m.K()+1 {
			t.Errorf("epoch %d of %d, K %d, %d is acked", c.Epoch(), w.server.Epoch(), c.Snap().K, w.server.Acked())
		}
		for _, x := range c.Wanted() {
			if x.From < m.Len() {
				t.Errorf("%d-%d of %d are wanted", x.From, x.To, m.Len())
			}
		}
		for _, x := range c.Spans() {
			count += x.To - x.From
		}
	}
	if count < 200 {
		t.Errorf("%d lines came", count)
	}
}
