package taker

import (
	"fmt"
	"math"
	"math/rand"
	"slices"
	"testing"

	"tidewrack/api"
	"tidewrack/delta"
	"tidewrack/gram"
	"tidewrack/row"
	"tidewrack/sender"
	"tidewrack/snap"
)

// plain is a taker as the chapters 4 and 20 tell it: the parts that are there stand one behind the other, each with its index.
type plain struct {
	has        snap.Snap
	key, count int
	indexes    []int
	data       []string
}

func (p *plain) clone() *plain {
	c := *p
	c.indexes, c.data = slices.Clone(p.indexes), slices.Clone(p.data)
	return &c
}

func (p *plain) put(key, index, count int, data string) api.Errno {
	if count < 1 || count > 4096 || index < 0 || index >= count || key < 1 {
		return api.ErrArg
	}
	if p.key != 0 && key < p.key {
		return api.ErrOld
	}
	if key != p.key {
		p.key, p.count, p.indexes, p.data = key, count, nil, nil
	}
	if count != p.count {
		return api.ErrForm
	}
	if !slices.Contains(p.indexes, index) {
		p.indexes, p.data = append(p.indexes, index), append(p.data, data)
	}
	return api.OK
}

func (p *plain) take(g gram.Gram) api.Errno {
	if g.Kind != 1 {
		return api.ErrKind
	}
	if len(g.Nums) != 5 {
		return api.ErrForm
	}
	id, k, base, index, count := g.Nums[0], g.Nums[1], g.Nums[2], g.Nums[3], g.Nums[4]
	if k <= p.has.K {
		return api.ErrOld
	}
	if base != 0 && base != p.has.K {
		return api.ErrBase
	}
	if e := p.put(id, index, count, g.Data); e != api.OK {
		return e
	}
	if len(p.indexes) < p.count {
		return api.OK
	}
	text := ""
	for i := range p.count {
		text += p.data[slices.Index(p.indexes, i)]
	}
	p.key, p.count, p.indexes, p.data = 0, 0, nil, nil
	upon := snap.Snap{}
	if base != 0 {
		upon = p.has
	}
	made, e := delta.Apply(upon, text)
	if e != api.OK {
		return e
	}
	if made.K != k {
		return api.ErrForm
	}
	p.has = made
	return api.OK
}

func (p *plain) lacks() []int {
	var l []int
	for i := range p.count {
		if !slices.Contains(p.indexes, i) {
			l = append(l, i)
		}
	}
	return l
}

// bits is those of an Ack, one by one, padded to whole bytes.
func (p *plain) bits() string {
	s := ""
	for from := 0; from < p.count; from += 8 {
		b := 0
		for i := range 8 {
			if slices.Contains(p.indexes, from+i) {
				b += 1 << i
			}
		}
		s += string([]byte{byte(b)})
	}
	return s
}

// check: what a taker tells is what the chapter tells.
func (p *plain) check(t *testing.T, what string, k *Taker) {
	t.Helper()
	g := k.Ack()
	if g.Epoch != 1 || g.Kind != 2 || !slices.Equal(g.Nums, []int{p.has.K, p.key}) || g.Data != p.bits() || g.Check() != api.OK {
		t.Fatalf("%s: %v, want %d, %d, %x", what, g, p.has.K, p.key, p.bits())
	}
	if k.K() != p.has.K || !k.Snap().Same(p.has) || !slices.Equal(k.Lacks(), p.lacks()) {
		t.Fatalf("%s: %s, want %v, %d", what, told(k), p.has, p.lacks())
	}
}

func pick[T any](random *rand.Rand, l ...T) T {
	return l[random.Intn(len(l))]
}

// randomSnap is one that may be, of K k.
func randomSnap(random *rand.Rand, k int) snap.Snap {
	s := snap.Snap{K: k, W: 1 + random.Intn(4), H: 1 + random.Intn(3), Len: random.Intn(300)}
	for range s.H {
		r := row.Row{}
		for range s.W {
			r.Cells = append(r.Cells, row.Cell{Rune: pick(random, ' ', 'a', 0x4e2d)})
		}
		s.Rows = append(s.Rows, r)
	}
	return s
}

// told is a taker in short: the K of its snap; the slot's key, and how many parts it has; the parts that aren't there.
func told(t *Taker) string {
	return fmt.Sprint(t.K(), " ", t.Key(), ":", t.Count(), " ", t.Lacks())
}

// randomGram is a part of a message, now and then with something wrong.
func randomGram(random *rand.Rand, p *plain, ids *int) gram.Gram {
	if p.key == 0 || random.Intn(8) == 0 {
		*ids += random.Intn(3) - 1
	}
	k, base := p.has.K+1+*ids%3, p.has.K
	upon := p.has
	if *ids%2 == 0 {
		base, upon = 0, snap.Snap{}
	}
	// A message of one id is always the same, so that its parts go together.
	message := cut(delta.Diff(upon, randomSnap(rand.New(rand.NewSource(int64(*ids))), k)), 1+max(*ids, 0)%12)
	i := random.Intn(len(message))
	g := gram.Gram{Epoch: random.Intn(3), Kind: gram.Diff, Nums: []int{*ids, k, base, i, len(message)}, Data: message[i]}
	switch random.Intn(40) {
	case 0:
		g.Kind = random.Intn(6)
	case 1:
		g.Nums = g.Nums[:random.Intn(5)]
	case 2:
		g.Nums = append(g.Nums, 1)
	case 3:
		g.Data += "\x00"
	case 4, 5, 6:
		at := random.Intn(5)
		g.Nums[at] = pick(random, g.Nums[at]-1, g.Nums[at]+1, g.Nums[at]+1, 0, -1, 4096, 4097, math.MaxInt, math.MinInt)
		if at == idPlace && g.Nums[at] > 1<<40 {
			g.Nums[at] = 0 // nothing would come behind it
		}
	}
	return g
}

// P20.1: any calls, and clones of takers on their own ways.
func TestAnyCalls(t *testing.T) {
	random := rand.New(rand.NewSource(201))
	counts := map[api.Errno]int{}
	for range 1200 {
		takers, plains, ids := []*Taker{New()}, []*plain{{}}, []int{1}
		for range 80 {
			i := random.Intn(len(takers))
			if len(takers) < 3 && random.Intn(30) == 0 {
				takers, plains, ids = append(takers, takers[i].Clone()), append(plains, plains[i].clone()), append(ids, ids[i])
			}
			if random.Intn(60) == 0 {
				takers[i].Reset()
				*plains[i] = plain{}
			}
			g := randomGram(random, plains[i], &ids[i])
			want := plains[i].take(g)
			counts[want]++
			if got := takers[i].Take(g); got != want {
				t.Fatalf("%v: %d, want %d", g, got, want)
			}
			for k, p := range plains {
				p.check(t, fmt.Sprint(g), takers[k])
			}
		}
	}
	for _, e := range []api.Errno{api.OK, api.ErrForm, api.ErrKind, api.ErrArg, api.ErrBase, api.ErrOld} {
		if counts[e] < 100 {
			t.Errorf("too few of the error %d: %d", e, counts[e])
		}
	}
}

// pair is a sender and a taker, and what is under way between them.
type pair struct {
	s     *sender.Sender
	t     *Taker
	noted map[int]snap.Snap
	out   []gram.Gram // to the taker
	back  []gram.Gram // to the sender
}

// deliver takes one datagram of each way out of its place; now and then it stays too, or is lost.
func (p *pair) deliver(t *testing.T, random *rand.Rand) {
	t.Helper()
	take := func(l []gram.Gram) ([]gram.Gram, gram.Gram, bool) {
		if len(l) == 0 {
			return nil, gram.Gram{}, false
		}
		i := random.Intn(len(l))
		g := l[i]
		if random.Intn(4) != 0 {
			l = slices.Delete(l, i, i+1)
		}
		return l, g, random.Intn(3) != 0
	}
	var g gram.Gram
	var ok bool
	if p.out, g, ok = take(p.out); ok {
		p.arrive(t, g)
	}
	if p.back, g, ok = take(p.back); ok {
		p.s.Ack(g.Num(0), g.Num(1), g.Data)
	}
}

// arrive: what the taker has is what the sender had once, and isn't an earlier one.
func (p *pair) arrive(t *testing.T, g gram.Gram) {
	t.Helper()
	was := p.t.K()
	if e := p.t.Take(g); e != api.OK && e != api.ErrOld && e != api.ErrBase {
		t.Fatalf("%v: %d", g, e)
	}
	if k := p.t.K(); k < was || !p.t.Snap().Same(p.noted[k]) {
		t.Fatalf("%v: %d, and it was %d", g, k, was)
	}
}

// tick is one at which all goes out that is to; the taker answers now and then.
func (p *pair) tick(t *testing.T, random *rand.Rand, now int) {
	t.Helper()
	if random.Intn(3) == 0 {
		x := randomSnap(random, p.s.Current()+1+random.Intn(3))
		p.s.Note(x)
		p.noted[x.K] = x
	}
	for _, g := range p.s.Step(now) {
		if got, e := gram.Parse(g.Pack()); e != api.OK || !slices.Equal(got.Nums, g.Nums) || got.Data != g.Data {
			t.Fatalf("%v: %v, %d", g, got, e)
		}
		p.out = append(p.out, g)
	}
	if random.Intn(3) == 0 {
		p.back = append(p.back, p.t.Ack())
	}
}

// P20.2, and P19.3: a sender and a taker, whose datagrams and Acks are lost, doubled and mixed; and all come at last.
func TestTogether(t *testing.T) {
	random := rand.New(rand.NewSource(202))
	got := 0
	for range 250 {
		c := sender.Config{Part: pick(random, 1, 5, 12, 8000), Every: 1 + random.Intn(6), Most: pick(random, 1, 2, 4, 64)}
		p := &pair{sender.New(c), New(), map[int]snap.Snap{0: {}}, nil, nil}
		now := random.Intn(1000)
		for ; now < 1060; now++ {
			p.tick(t, random, now)
			for range random.Intn(4) {
				p.deliver(t, random)
			}
			if len(p.s.Kept()) > c.Most {
				t.Fatalf("%v: %d are kept", c, p.s.Kept())
			}
		}
		got += p.t.K()
		p.finish(t, random, c, now)
	}
	if got < 500 {
		t.Errorf("hardly any snap came: %d", got)
	}
}

// finish: where all comes, in whatever order, the taker has the current snap, and nothing goes out again.
func (p *pair) finish(t *testing.T, random *rand.Rand, c sender.Config, now int) {
	t.Helper()
	for end := now + 4*c.Every + 4; now < end; now++ {
		p.out, p.back = append(p.out, p.s.Step(now)...), append(p.back, p.t.Ack())
		random.Shuffle(len(p.out), func(i, k int) { p.out[i], p.out[k] = p.out[k], p.out[i] })
		for _, g := range p.out {
			p.arrive(t, g)
		}
		p.back = append(p.back, p.t.Ack())
		for _, g := range p.back {
			p.s.Ack(g.Num(0), g.Num(1), g.Data)
		}
		p.out, p.back = nil, nil
	}
	if p.t.K() != p.s.Current() || p.s.Acked() != p.s.Current() || !p.t.Snap().Same(p.noted[p.t.K()]) || p.s.Kept() != nil || p.t.Lacks() != nil {
		t.Fatalf("%v: %s, and the current one is %d, %d is acked", c, told(p.t), p.s.Current(), p.s.Acked())
	}
	if l := p.s.Step(now + c.Every); l != nil {
		t.Fatalf("%v: %v", c, l)
	}
	if id, k, base := p.s.Message(); id != 0 || k != 0 || base != 0 || p.s.Lacks() != nil {
		t.Fatalf("%v: the message %d is still there", c, id)
	}
}
