package fetch

import (
	"fmt"
	"math"
	"math/rand"
	"slices"
	"testing"

	"tidewrack/api"
	"tidewrack/book"
	"tidewrack/gram"
	"tidewrack/num"
	"tidewrack/row"
	"tidewrack/spans"
)

// plain is a fetch as the chapter tells it: the numbers of all lines that are wanted.
type plain struct {
	most, every int
	wanted      map[int]bool
	asked       bool // since it was time at whatever tick
	last        int
}

func newPlain(most, every int) *plain {
	return &plain{most: most, every: every, wanted: map[int]bool{}}
}

func (p *plain) clone() *plain {
	c := *p
	c.wanted = map[int]bool{}
	for i := range p.wanted {
		c.wanted[i] = true
	}
	return &c
}

// in: a span has that number.
func in(l []spans.Span, i int) bool {
	return slices.ContainsFunc(l, func(x spans.Span) bool { return x.From <= i && i < x.To })
}

func (p *plain) want(x spans.Span, have []spans.Span) int {
	p.wanted, p.asked = map[int]bool{}, false
	x.From = min(max(x.From, 0), 1<<60)
	for n := range p.most {
		if i := x.From + n; i < x.To && i < 1<<60 && !in(have, i) {
			p.wanted[i] = true
		}
	}
	return len(p.wanted)
}

func (p *plain) got(i int) bool {
	was := p.wanted[i]
	delete(p.wanted, i)
	return was
}

// below is all that are wanted below length, as spans.
func (p *plain) below(length int) []spans.Span {
	var numbers []int
	for i := range p.wanted {
		if i < length {
			numbers = append(numbers, i)
		}
	}
	slices.Sort(numbers)
	var l []spans.Span
	for _, i := range numbers {
		if n := len(l); n > 0 && l[n-1].To == i {
			l[n-1].To++
		} else {
			l = append(l, spans.Span{From: i, To: i + 1})
		}
	}
	return l
}

func (p *plain) ask(now, length int) []spans.Span {
	now = min(max(now, 0), 1<<40)
	l := p.below(length)
	if len(l) == 0 || p.asked && now < p.last+p.every {
		return nil
	}
	p.asked, p.last = true, now
	if len(l) > 8 {
		l = l[:8]
	}
	return l
}

func pick[T any](random *rand.Rand, l ...T) T {
	return l[random.Intn(len(l))]
}

// randomSpan is one near some number, mostly, turned round at times.
func randomSpan(random *rand.Rand, near int) spans.Span {
	edge := func() int {
		return pick(random, near+random.Intn(20), near+random.Intn(20), near+random.Intn(20), near-random.Intn(9), math.MinInt, math.MaxInt)
	}
	return spans.Span{From: edge(), To: edge()}
}

type both struct {
	f *Fetch
	p *plain
}

func (b both) do(t *testing.T, random *rand.Rand, clock *int, near int) {
	t.Helper()
	switch random.Intn(8) {
	case 0:
		x := randomSpan(random, near)
		var have []spans.Span
		for range random.Intn(6) {
			have = append(have, randomSpan(random, near))
			if random.Intn(3) > 0 {
				have[len(have)-1].To = have[len(have)-1].From/2*2 + 1
			}
		}
		if got, want := b.f.Want(x, have...), b.p.want(x, have); got != want || got > b.p.most {
			t.Fatalf("Want %v without %v: %d, want %d", x, have, got, want)
		}
	case 1, 2, 3:
		i := pick(random, near+random.Intn(20), near+random.Intn(20), -1, math.MaxInt, math.MinInt)
		if got, want := b.f.Got(i), b.p.got(i); got != want {
			t.Fatalf("Got %d: %t", i, got)
		}
	case 4:
		if random.Intn(9) == 0 {
			b.f.Reset()
			b.p.want(spans.Span{}, nil)
		}
	default:
		*clock += random.Intn(4)
		now := pick(random, *clock, *clock, *clock, *clock, -1, *clock-5, 1<<40, math.MaxInt, math.MinInt)
		length := pick(random, near+random.Intn(20), near+random.Intn(20), math.MaxInt, 0, math.MinInt)
		if got, want := b.f.Ask(now, length), b.p.ask(now, length); !slices.Equal(got, want) {
			t.Fatalf("Ask at %d, below %d: %s, want %s", now, length, text(got), text(want))
		}
	}
}

// P21.1, P21.2: any calls, and clones of fetches on their own ways.
func TestAnyCalls(t *testing.T) {
	random := rand.New(rand.NewSource(211))
	for range 3000 {
		most, every, near := pick(random, 1, 2, 5, 30), 1+random.Intn(5), pick(random, 0, 0, 7, 1<<60-10)
		all := []both{{New(most, every), newPlain(most, every)}}
		clocks := []int{0}
		for range 80 {
			i := random.Intn(len(all))
			if len(all) < 4 && random.Intn(30) == 0 {
				all = append(all, both{all[i].f.Clone(), all[i].p.clone()})
				clocks = append(clocks, clocks[i])
			}
			all[i].do(t, random, &clocks[i], near)
			for _, b := range all {
				if got, want := text(b.f.Wanted()), text(b.p.below(math.MaxInt)); got != want || len(b.p.wanted) > b.p.most {
					t.Fatalf("%s are wanted, want %s", got, want)
				}
			}
		}
	}
}

// plainAnswer is Answer as the chapter tells it: a datagram takes the next line, as long as it has room.
func plainAnswer(epoch int, line func(i int) ([]row.Glyph, bool), l []spans.Span) []gram.Gram {
	var all []gram.Gram
	for _, x := range l {
		open := false
		for i := x.From; i < x.To; i++ {
			glyphs, ok := line(i)
			if !ok {
				break
			}
			data := book.Pack(glyphs...)
			if open && len(all[len(all)-1].Data)+len(data) <= 4000 {
				all[len(all)-1].Nums[1]++
				all[len(all)-1].Data += data
			} else {
				all = append(all, gram.Gram{Epoch: epoch, Kind: 4, Nums: []int{i, 1}, Data: data})
			}
			open = true
		}
	}
	return all[:min(len(all), 16)]
}

// randomLine is one that layer 12 reads, mostly a short one.
func randomLine(random *rand.Rand) []row.Glyph {
	l := make([]row.Glyph, pick(random, 0, 1, random.Intn(80), random.Intn(1025), 1024))
	most, style := pick(random, 128, 20000, 1114112), pick(random, 1, 648)
	for i := range l {
		l[i] = row.Glyph{Rune: rune(random.Intn(most)), Style: random.Intn(style)}
	}
	return l
}

// P21.2: what Answer sends is Read as it was, and is a datagram that may be.
func TestAnswerIsRead(t *testing.T) {
	random := rand.New(rand.NewSource(212))
	for range 400 {
		x := &lines{there: map[int][]row.Glyph{}}
		first := pick(random, 0, 0, 5, 1<<60-20)
		for i := range random.Intn(60) {
			if random.Intn(15) > 0 {
				x.there[first+i] = randomLine(random)
			}
		}
		var l []spans.Span
		for range random.Intn(12) {
			from := first + random.Intn(60)
			l = append(l, spans.Span{From: from, To: pick(random, from+random.Intn(20), from+1, from, from-1, math.MaxInt)})
		}
		epoch := pick(random, 1, 9, 1<<32)
		got, want := Answer(epoch, x.line, l...), plainAnswer(epoch, x.line, l)
		if len(got) != len(want) {
			t.Fatalf("%v: %d datagrams, want %d", l, len(got), len(want))
		}
		for i, g := range got {
			if fmt.Sprint(g) != fmt.Sprint(want[i]) {
				t.Fatalf("%v, %d: %v, want %v", l, i, g.Nums, want[i].Nums)
			}
			back, e := gram.Parse(g.Pack())
			n, read, wrong := Read(back)
			if e != api.OK || wrong != api.OK || n != g.Num(0) || len(read) != g.Num(1) {
				t.Fatalf("%v: %d, %d, %d, %d lines", g.Nums, e, wrong, n, len(read))
			}
			for k, line := range read {
				if !slices.Equal(line, x.there[n+k]) {
					t.Fatalf("the line %d", n+k)
				}
			}
		}
	}
}

// plainRead is Read as the chapter tells it.
func plainRead(g gram.Gram) (int, [][]row.Glyph, api.Errno) {
	if g.Kind != 4 {
		return 0, nil, api.ErrKind
	}
	if len(g.Nums) != 2 {
		return 0, nil, api.ErrForm
	}
	from := num.Of(g.Data)
	var l [][]row.Glyph
	for from.Left() != 0 && len(l) < g.Nums[1] {
		line := book.Read(from)
		if e := from.Err(); e != api.OK {
			return 0, nil, e
		}
		l = append(l, line)
	}
	if from.Left() != 0 || len(l) != g.Nums[1] {
		return 0, nil, api.ErrForm
	}
	return g.Nums[0], l, api.OK
}

// P21.1: Read of any bytes, and of such as are nearly right.
func TestReadAnyBytes(t *testing.T) {
	random := rand.New(rand.NewSource(213))
	codes := map[api.Errno]int{}
	for range 40000 {
		var data []byte
		count := random.Intn(4)
		for range count {
			line := randomLine(random)
			data = append(data, book.Pack(line[:min(len(line), random.Intn(5))]...)...)
		}
		for range random.Intn(3) {
			at := random.Intn(len(data) + 1)
			switch random.Intn(3) {
			case 0:
				data = data[:at]
			case 1:
				data = slices.Insert(data, at, byte(random.Intn(256)))
			case 2:
				if at < len(data) {
					data[at] = byte(random.Intn(256))
				}
			}
		}
		g := gram.Gram{Epoch: 1, Kind: pick(random, 4, 4, 4, 4, 4, 4, 4, 3), Nums: []int{random.Intn(9), pick(random, count, count, count, count, count+1, count-1, math.MaxInt, math.MinInt)}, Data: string(data)}
		if random.Intn(12) == 0 {
			g.Nums = make([]int, random.Intn(4))
		}
		first, l, e := Read(g)
		wantFirst, want, wantE := plainRead(g)
		if first != wantFirst || e != wantE || !slices.EqualFunc(l, want, slices.Equal) || e != api.OK && l != nil {
			t.Fatalf("%v: %d, %d lines, %d, want %d, %d lines, %d", g, first, len(l), e, wantFirst, len(want), wantE)
		}
		codes[e]++
	}
	for _, e := range []api.Errno{api.OK, api.ErrKind, api.ErrForm, api.ErrEnd} {
		if codes[e] < 500 {
			t.Errorf("%d of the code %d", codes[e], e)
		}
	}
}
