package sender

import (
	"fmt"
	"math"
	"math/rand"
	"slices"
	"testing"

	"tidewrack/delta"
	"tidewrack/gram"
	"tidewrack/row"
	"tidewrack/snap"
)

// plain is a sender as the chapter tells it: all snaps that were noted are there, and sets say which of them is what.
type plain struct {
	c           Config
	noted       map[int]snap.Snap
	now, acked  int // the current one's K, the acked one's
	kept        map[int]bool
	ids         int
	id, k, base int
	text        string
	there       map[int]bool
	due         int
}

func newPlain(c Config) *plain {
	return &plain{c: c, noted: map[int]snap.Snap{0: {}}, kept: map[int]bool{}}
}

func copied[V any](m map[int]V) map[int]V {
	c := map[int]V{}
	for k, v := range m {
		c[k] = v
	}
	return c
}

func (p *plain) clone() *plain {
	c := *p
	c.noted, c.kept, c.there = copied(p.noted), copied(p.kept), copied(p.there)
	return &c
}

func (p *plain) note(x snap.Snap, mayBe bool) bool {
	if !mayBe || x.K <= p.now {
		return false
	}
	p.now = x.K
	p.noted[x.K] = x.Clone()
	return true
}

// count is how many parts the message has.
func (p *plain) count() int {
	return (len(p.text) + p.c.Part - 1) / p.c.Part
}

func (p *plain) lacks() []int {
	var l []int
	for i := 0; p.id != 0 && i < p.count(); i++ {
		if !p.there[i] {
			l = append(l, i)
		}
	}
	return l
}

func (p *plain) keeps() []int {
	var l []int
	for k := range p.kept {
		l = append(l, k)
	}
	slices.Sort(l)
	return l
}

func (p *plain) step(now int) []gram.Gram {
	if p.now == p.acked {
		p.id, p.k, p.base = 0, 0, 0
		return nil
	}
	if now < 0 {
		now = 0
	}
	if now > 1<<40 {
		now = 1 << 40
	}
	if p.id == 0 || p.k != p.now || p.base != p.acked {
		p.ids++
		p.id, p.k, p.base = p.ids, p.now, p.acked
		p.text = delta.Diff(p.noted[p.acked], p.noted[p.now])
		p.there = map[int]bool{}
		p.due = now
		p.kept[p.now] = true
		if len(p.kept) > p.c.Most {
			delete(p.kept, p.keeps()[0])
		}
	}
	if p.due > now {
		return nil
	}
	p.due = now + p.c.Every
	var l []gram.Gram
	for _, i := range p.lacks() {
		from := i * p.c.Part
		to := min(from+p.c.Part, len(p.text))
		l = append(l, gram.Gram{Epoch: 1, Kind: 1, Nums: []int{p.id, p.now, p.acked, i, p.count()}, Data: p.text[from:to]})
	}
	return l
}

func (p *plain) ack(k, id int, have string) bool {
	if p.id != 0 && id == p.id {
		for bit := range 8 * len(have) {
			if have[bit/8]&(1<<(bit%8)) != 0 && bit < p.count() {
				p.there[bit] = true
			}
		}
	}
	if k <= p.acked || k > p.now {
		return false
	}
	if !p.kept[k] {
		p.acked = 0
		return false
	}
	p.acked = k
	for other := range p.kept {
		if other <= k {
			delete(p.kept, other)
		}
	}
	return true
}

// check: what a sender tells is what the chapter tells.
func (p *plain) check(t *testing.T, what string, s *Sender) {
	t.Helper()
	id, k, base := s.Message()
	got := fmt.Sprint(s.Current(), s.Acked(), s.Kept(), id, k, base, s.Lacks())
	want := fmt.Sprint(p.now, p.acked, p.keeps(), p.id, p.k, p.base, p.lacks())
	if got != want {
		t.Fatalf("%s: %s, want %s", what, got, want)
	}
	if n := len(s.Kept()); n > p.c.Most {
		t.Fatalf("%s: %d snaps are kept", what, n)
	}
}

// sameGrams: both are the same datagrams.
func sameGrams(l, m []gram.Gram) bool {
	return slices.EqualFunc(l, m, func(a, b gram.Gram) bool {
		return a.Epoch == b.Epoch && a.Kind == b.Kind && slices.Equal(a.Nums, b.Nums) && a.Data == b.Data
	})
}

func pick[T any](random *rand.Rand, l ...T) T {
	return l[random.Intn(len(l))]
}

// randomSnap is one that may be, of K k.
func randomSnap(random *rand.Rand, k int) snap.Snap {
	s := snap.Snap{K: k, W: 1 + random.Intn(4), H: 1 + random.Intn(3), Len: random.Intn(300)}
	for range s.H {
		r := row.Row{}
		for range s.W {
			r.Cells = append(r.Cells, row.Cell{Rune: pick(random, ' ', 'a', 0x4e2d)})
		}
		s.Rows = append(s.Rows, r)
	}
	return s
}

// wrongSnap is one that may not be, or is the empty one.
func wrongSnap(random *rand.Rand, k int) snap.Snap {
	s := randomSnap(random, k)
	switch random.Intn(4) {
	case 0:
		s.W = 0
	case 1:
		s.Rows[0].Cells[0].Style = 648
	case 2:
		s.Y = s.H
	default:
		return snap.Snap{}
	}
	return s
}

func randomBits(random *rand.Rand) string {
	b := make([]byte, random.Intn(8))
	for i := range b {
		b[i] = pick[byte](random, 0, 1, 0x80, 0xff, byte(random.Intn(256)))
	}
	return string(b)
}

// both is a sender, and what the chapter tells of it.
type both struct {
	s *Sender
	p *plain
}

// do does something to both.
func (b both) do(t *testing.T, random *rand.Rand, clock *int) {
	t.Helper()
	k := pick(random, b.p.now-1, b.p.now, b.p.now+1, b.p.now+1, b.p.now+3)
	switch random.Intn(10) {
	case 0, 1:
		x := randomSnap(random, k)
		if got, want := b.s.Note(x), b.p.note(x, k > 0); got != want {
			t.Fatalf("Note of %d: %t", k, got)
		}
	case 2:
		x := wrongSnap(random, k)
		if got := b.s.Note(x); got {
			t.Fatalf("Note of %v: %t", x, got)
		}
	case 3, 4, 5:
		*clock += random.Intn(4)
		now := pick(random, *clock, *clock, *clock, *clock, -1, *clock-5, 1<<40, math.MaxInt, math.MinInt)
		if got, want := b.s.Step(now), b.p.step(now); !sameGrams(got, want) {
			t.Fatalf("Step of %d: %v, want %v", now, got, want)
		}
	default:
		k := pick(random, append(b.p.keeps(), 0, b.p.acked, b.p.acked, b.p.acked, b.p.acked-1, b.p.acked+1, b.p.now, b.p.now+1, math.MaxInt, math.MinInt)...)
		id := pick(random, b.p.id, b.p.id, b.p.id, b.p.id-1, b.p.id+1, b.p.ids, 0, math.MinInt, math.MaxInt)
		have := randomBits(random)
		if got, want := b.s.Ack(k, id, have), b.p.ack(k, id, have); got != want {
			t.Fatalf("Ack of %d, %d, %x: %t", k, id, have, got)
		}
	}
}

// P19.1, P19.2: any calls, and clones of senders on their own ways.
func TestAnyCalls(t *testing.T) {
	random := rand.New(rand.NewSource(191))
	for range 800 {
		c := Config{pick(random, 1, 3, 7, 20, 8000), 1 + random.Intn(4), pick(random, 1, 2, 3, 64)}
		all := []both{{New(c), newPlain(c)}}
		clocks := []int{0}
		for range 120 {
			i := random.Intn(len(all))
			if len(all) < 4 && random.Intn(30) == 0 {
				all = append(all, both{all[i].s.Clone(), all[i].p.clone()})
				clocks = append(clocks, clocks[i])
			}
			all[i].do(t, random, &clocks[i])
			for _, b := range all {
				b.p.check(t, fmt.Sprint(c), b.s)
			}
		}
	}
}
