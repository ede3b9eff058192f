package server

import (
	"fmt"
	"math"
	"slices"
	"strings"
	"testing"

	"tidewrack/api"
	"tidewrack/delta"
	"tidewrack/fetch"
	"tidewrack/gram"
	"tidewrack/model"
	"tidewrack/num"
	"tidewrack/row"
	"tidewrack/sender"
	"tidewrack/snap"
	"tidewrack/spans"
	"tidewrack/sum"
)

const lastNumber = 1 << 32

// bytes is an event.
func bytes(text string) model.Event {
	return model.Event{Text: text}
}

// size is an event.
func size(w, h int) model.Event {
	return model.Event{Kind: model.Size, W: w, H: h}
}

// packed is a datagram's bytes.
func packed(t *testing.T, epoch, kind int, data string, nums ...int) string {
	t.Helper()
	s := gram.Gram{Epoch: epoch, Kind: kind, Nums: nums, Data: data}.Pack()
	if s == "" {
		t.Fatalf("%d, %d, %d: no datagram", epoch, kind, nums)
	}
	return s
}

// parsed is the datagrams that go out, which must all go to that address, and be of that epoch.
func parsed(t *testing.T, what string, epoch, to int, l []Out) []gram.Gram {
	t.Helper()
	var all []gram.Gram
	for _, o := range l {
		g, e := gram.Parse(o.Data)
		if e != api.OK || g.Epoch != epoch || o.To != to {
			t.Errorf("%s: %d: epoch %d, to %d, want %d, to %d", what, e, g.Epoch, o.To, epoch, to)
		}
		all = append(all, g)
	}
	return all
}

// told is all that can be told of a server, in short; and all that goes out of a clone at ticks far behind.
func told(s *Server) string {
	m := s.Model()
	c := s.Clone()
	return fmt.Sprint(s.Epoch(), " ", s.To(), " ", s.Acked(), " ", m.K(), " ", m.Len(), " ", m.Snap().Pack(), " ", c.Step(1<<38), c.Step(1<<38+1), c.Step(1<<39))
}

// step is Step in short, if it is as it ought to be: the message's id, K and base, and which of its parts go out.
func step(t *testing.T, what string, s *Server, now int) string {
	t.Helper()
	l := parsed(t, what, s.Epoch(), s.To(), s.Step(now))
	if l == nil {
		return "none"
	}
	var indexes []int
	for _, g := range l {
		if g.Kind != gram.Diff || len(g.Nums) != 5 || !slices.Equal(g.Nums[:3], l[0].Nums[:3]) || g.Nums[4] != l[0].Nums[4] {
			t.Errorf("%s: %v", what, g)
		}
		indexes = append(indexes, g.Num(3))
	}
	return fmt.Sprint(l[0].Num(0), ":", l[0].Num(1), "/", l[0].Num(2), " ", indexes, " of ", l[0].Num(4))
}

// whole: one datagram goes out, which makes the one snap of the other one.
func whole(t *testing.T, what string, s *Server, now int, from, to snap.Snap) {
	t.Helper()
	l := parsed(t, what, s.Epoch(), s.To(), s.Step(now))
	if len(l) != 1 || l[0].Kind != gram.Diff || l[0].Num(1) != to.K || l[0].Num(2) != from.K || l[0].Data != delta.Diff(from, to) {
		t.Errorf("%s: %v", what, l)
	}
}

// The chapter's example.
func TestExample(t *testing.T) {
	s := New(Config{Epoch: 3, W: 5, H: 2})
	got, e := s.Hear(0, 7, packed(t, 2, gram.Ack, "", 1, 0))
	want := Out{7, packed(t, 3, gram.Lines, "", 0, 0)}
	if e != api.ErrOld || len(got) != 1 || got[0] != want {
		t.Errorf("%v, %d", got, e)
	}
}

// Each number of a configuration below, at and above its bounds.
func TestNew(t *testing.T) {
	for _, c := range []struct{ epoch, w, h, to, epochCounts, wCounts, hCounts, toCounts int }{
		{1, 1, 1, 0, 1, 1, 1, 0}, {2, 3, 4, 5, 2, 3, 4, 5}, {lastNumber, 1000, 1, lastNumber, lastNumber, 1000, 1, lastNumber}, {lastNumber - 1, 1, 1000, lastNumber - 1, lastNumber - 1, 1, 1000, lastNumber - 1}, {7, 999, 2, 1, 7, 999, 2, 1},
		{0, 5, 6, 7, 1, 5, 6, 7}, {-1, 5, 6, 7, 1, 5, 6, 7}, {lastNumber + 1, 5, 6, 7, lastNumber, 5, 6, 7},
		{4, 0, 6, 7, 4, 1, 6, 7}, {4, -1, 6, 7, 4, 1, 6, 7}, {4, 1001, 6, 7, 4, 1000, 6, 7},
		{4, 5, 0, 7, 4, 5, 1, 7}, {4, 5, -1, 7, 4, 5, 1, 7}, {4, 5, 1001, 7, 4, 5, 1000, 7},
		{4, 5, 6, -1, 4, 5, 6, 0}, {4, 5, 6, lastNumber + 1, 4, 5, 6, lastNumber},
		{math.MinInt, math.MinInt, math.MinInt, math.MinInt, 1, 1, 1, 0}, {math.MaxInt, math.MaxInt, 1, math.MaxInt, lastNumber, 1000, 1, lastNumber}, {1, 1, math.MaxInt, 1, 1, 1, 1000, 1}, {0, 0, 0, 0, 1, 1, 1, 0},
	} {
		s := New(Config{c.epoch, c.w, c.h, c.to, sender.Config{Part: 8000, Every: 5, Most: 4}})
		x := s.Model().Snap()
		if s.Epoch() != c.epochCounts || s.To() != c.toCounts || s.Acked() != 0 || x.W != c.wCounts || x.H != c.hCounts || x.K != 1 || !x.Same(model.New(c.w, c.h).Snap()) {
			t.Errorf("%v: %d, %d, %d, %d, %d, %d", c, s.Epoch(), s.To(), s.Acked(), x.W, x.H, x.K)
		}
		whole(t, fmt.Sprint(c), s, 0, snap.Snap{}, x)
	}
}

// The sender does as its configuration counts.
func TestNewSender(t *testing.T) {
	first := len(delta.Diff(snap.Snap{}, model.New(90, 90).Snap()))
	for _, c := range []struct {
		sender       sender.Config
		count, again int
		keepsOne     bool
	}{
		{sender.Config{}, first, 1, true}, {sender.Config{Part: math.MinInt, Every: math.MinInt, Most: math.MinInt}, first, 1, true}, {sender.Config{Part: 1, Every: 1, Most: 1}, first, 1, true},
		{sender.Config{Part: 10, Every: 5, Most: 2}, (first + 9) / 10, 5, false}, {sender.Config{Part: 8000, Every: 1 << 20, Most: 64}, 1, 1 << 20, false}, {sender.Config{Part: 8001, Every: 1<<20 + 1, Most: 65}, 1, 1 << 20, false}, {sender.Config{Part: math.MaxInt, Every: math.MaxInt, Most: math.MaxInt}, 1, 1 << 20, false},
	} {
		s := New(Config{Epoch: 9, W: 90, H: 90, To: 4, Sender: c.sender})
		if got := s.Step(3); len(got) != c.count {
			t.Errorf("%v: %d datagrams, want %d", c.sender, len(got), c.count)
		}
		if got := s.Step(3 + c.again - 1); got != nil {
			t.Errorf("%v: %d datagrams ahead of the tick", c.sender, len(got))
		}
		if got := s.Step(3 + c.again); len(got) != c.count {
			t.Errorf("%v: %d datagrams at the tick", c.sender, len(got))
		}
		s.Do(bytes("x"))
		s.Step(4)
		s.Hear(0, 4, packed(t, 9, gram.Ack, "", 1, 0))
		if got := s.Acked(); got == 0 != c.keepsOne {
			t.Errorf("%v: %d is acked", c.sender, got)
		}
	}
}

// plenty is how a sender sends all at once.
var plenty = sender.Config{Part: 8000, Every: 5, Most: 4}

// Do of each event, behind which the sender has another snap.
func TestDo(t *testing.T) {
	s, m := New(Config{Epoch: 2, W: 4, H: 2, To: 6, Sender: plenty}), model.New(4, 2)
	for i, c := range []struct {
		e    model.Event
		want api.Errno
	}{
		{bytes("ab"), 0}, {bytes(""), 0}, {bytes("\x1b["), 0}, {bytes("1mc\r\nd\r\ne\r\n"), 0}, {size(3, 1), 0}, {size(1, 5), 0}, {bytes(strings.Repeat("\x1b", api.MaxText)), 0},
		{bytes(strings.Repeat("\x1b", api.MaxText+1)), api.ErrBig}, {size(0, 1), api.ErrArg}, {size(1, 1001), api.ErrArg}, {size(math.MinInt, math.MaxInt), api.ErrArg}, {model.Event{Kind: 2, Text: "x", W: 1, H: 1}, api.ErrKind}, {model.Event{Kind: -1}, api.ErrKind},
		{bytes("y"), 0}, {size(1000, 1), 0},
	} {
		was := told(s)
		if got := s.Do(c.e); got != c.want || m.Do(c.e) != c.want {
			t.Errorf("%d: %d, want %d", i, got, c.want)
		}
		if c.want != api.OK && told(s) != was {
			t.Errorf("%d: %d, and something has changed", i, c.want)
		}
		x := s.Model().Snap()
		if !x.Same(m.Snap()) || s.Model().Len() != m.Len() || s.To() != 6 || s.Epoch() != 2 || s.Acked() != 0 {
			t.Errorf("%d: %s", i, told(s))
		}
		if c.want == api.OK {
			whole(t, fmt.Sprint(i), s, i, snap.Snap{}, x)
		}
	}
}

// What goes out at a tick.
func TestStep(t *testing.T) {
	s := New(Config{Epoch: 5, W: 1, H: 1, To: 8, Sender: sender.Config{Part: 6, Every: 5, Most: 4}})
	ack := func(from int, data string, nums ...int) {
		t.Helper()
		if got, e := s.Hear(0, from, packed(t, 5, gram.Ack, data, nums...)); got != nil || e != api.OK {
			t.Errorf("Ack: %v, %d", got, e)
		}
	}
	for _, c := range []struct {
		what string
		do   func()
		now  int
		want string
	}{
		{"a new one", func() {}, 0, "1:1/0 [0 1 2] of 3"}, {"ahead of its tick", func() {}, 4, "none"}, {"at its tick", func() {}, 5, "1:1/0 [0 1 2] of 3"},
		{"a part is there, the client elsewhere", func() { ack(3, "\x02", 0, 1) }, 10, "1:1/0 [0 2] of 3"}, {"all are, and it is elsewhere again", func() { ack(4, "\x05", 0, 1) }, 99, "none"},
		{"it is acked", func() { ack(4, "", 1, 0) }, 100, "none"}, {"nothing to tell", func() {}, 200, "none"},
		{"an event", func() { s.Do(bytes("b")) }, 201, "2:2/1 [0 1 2 3] of 4"}, {"ahead of its tick", func() {}, 205, "none"}, {"at its tick", func() {}, 206, "2:2/1 [0 1 2 3] of 4"},
		{"another one", func() { s.Do(bytes("c")) }, 207, "3:3/1 [0 1 2 3] of 4"}, {"the elder one is acked", func() { ack(lastNumber, "", 2, 0) }, 208, "4:3/2 [0 1 2 3] of 4"}, {"a wrong event", func() { s.Do(size(0, 0)) }, 209, "none"},
		{"a tick below 0", func() { s.Do(bytes("d")) }, math.MinInt, "5:4/2 [0 1 2 3 4] of 5"}, {"the first ones", func() {}, 4, "none"}, {"at its tick", func() {}, 5, "5:4/2 [0 1 2 3 4] of 5"}, {"a tick above", func() {}, math.MaxInt, "5:4/2 [0 1 2 3 4] of 5"}, {"it is acked, too", func() { ack(0, "", 4, 0) }, math.MaxInt, "none"},
	} {
		c.do()
		if got := step(t, c.what, s, c.now); got != c.want {
			t.Errorf("%s: %s, want %s", c.what, got, c.want)
		}
	}
}

// behind is a server of epoch 5, its client at 9: four lines, snaps up to K 3, of which that of K 1 is acked, and a message of 2 parts that goes out.
func behind(t *testing.T) *Server {
	t.Helper()
	s := New(Config{Epoch: 5, W: 3, H: 1, To: 9, Sender: sender.Config{Part: 20, Every: 5, Most: 2}})
	s.Step(0)
	s.Hear(0, 9, packed(t, 5, gram.Ack, "", 1, 0))
	s.Do(bytes("a\r\nb\r\n\r\n"))
	s.Step(1)
	s.Do(bytes("\x1b[1;31mcdefg\r\nxy"))
	if got := step(t, "behind", s, 2); got != "3:3/1 [0 1] of 2" || s.Model().Len() != 4 {
		t.Fatalf("%s; %d", got, s.Model().Len())
	}
	return s
}

// sealed is numbers as bytes, and their sum.
func sealed(l ...int) string {
	var out num.Out
	return sum.Seal(out.Num(l...).Bytes())
}

// heard is a datagram, and what comes of it.
type heard struct {
	what, data string
	e          api.Errno
}

// wrong is datagrams with errors, that of an older epoch left out.
func wrong(t *testing.T) []heard {
	t.Helper()
	ack := packed(t, 5, gram.Ack, "\xff", 2, 3)
	var l []heard
	for i, data := range []string{"", "x", ack[1:], ack[:len(ack)-1], ack + "x", strings.Repeat("\x00", 8192), sum.Turn(ack, 11, 1)} {
		l = append(l, heard{fmt.Sprint("unsealed, ", i), data, api.ErrSum})
	}
	l = append(l, heard{"too long", strings.Repeat("x", 8193), api.ErrBig}, heard{"too long, and sealed", sum.Seal(strings.Repeat("x", 8189)), api.ErrBig}, heard{"no bytes, sealed", sealed(), api.ErrEnd}, heard{"cut off", sealed(5, gram.Ack, 2, 1), api.ErrEnd}, heard{"bytes left", sealed(5, gram.Ack, 2, 1, 0, 0, 0), api.ErrForm}, heard{"too many Nums", sealed(5, gram.Ack, 65), api.ErrForm}, heard{"no epoch", sealed(0, gram.Ack, 2, 1, 0, 0), api.ErrArg}, heard{"an epoch too great", sealed(lastNumber+1, gram.Ack, 2, 1, 0, 0), api.ErrArg}, heard{"no kind", sealed(5, 0, 2, 1, 0, 0), api.ErrArg}, heard{"the kind 5", sealed(4, 5, 2, 1, 0, 0), api.ErrArg})
	for _, kind := range []int{gram.Diff, gram.Lines} {
		for _, epoch := range []int{1, 4, 5, 6, lastNumber} {
			for _, nums := range [][]int{nil, {0, 0}, {0, 4}, {4, 3, 1, 0, 1}, {3, 0}} {
				l = append(l, heard{fmt.Sprint("the kind ", kind, " of ", epoch, " with ", nums), packed(t, epoch, kind, "", nums...), api.ErrKind})
			}
		}
	}
	for _, epoch := range []int{6, 7, lastNumber} {
		for _, nums := range [][]int{nil, {0}, {2, 3}, {1, 2, 3}, {0, 4, 0, 4}} {
			l = append(l, heard{fmt.Sprint("Ack of ", epoch, " with ", nums), packed(t, epoch, gram.Ack, "\xff", nums...), api.ErrArg}, heard{fmt.Sprint("Ask of ", epoch, " with ", nums), packed(t, epoch, gram.Ask, "", nums...), api.ErrArg})
		}
	}
	for _, nums := range [][]int{nil, {0}, {3}, {3, 3, 3}, {3, 3, 3, 3}, make([]int, 64)} {
		l = append(l, heard{fmt.Sprint("Ack with ", nums), packed(t, 5, gram.Ack, "\xff", nums...), api.ErrForm})
	}
	for _, nums := range [][]int{nil, {0}, {4}, {0, 4, 0}, {0, 4, 0, 4, 0}, make([]int, 63)} {
		l = append(l, heard{fmt.Sprint("Ask with ", nums), packed(t, 5, gram.Ask, "", nums...), api.ErrForm})
	}
	return l
}

// old is datagrams of older epochs.
func old(t *testing.T) []heard {
	t.Helper()
	var l []heard
	for _, kind := range []int{gram.Ack, gram.Ask} {
		for _, epoch := range []int{1, 3, 4} {
			for _, nums := range [][]int{nil, {0}, {0, 4}, {3, 0}, {3, 3}, {1, 2, 3}, make([]int, 64)} {
				l = append(l, heard{fmt.Sprint("the kind ", kind, " of ", epoch, " with ", nums), packed(t, epoch, kind, "\xff", nums...), api.ErrOld})
			}
		}
	}
	return l
}

// addresses is such as are, and as what they count.
var addresses = [][2]int{{0, 0}, {1, 1}, {9, 9}, {77, 77}, {lastNumber, lastNumber}, {lastNumber + 1, lastNumber}, {-1, 0}, {math.MinInt, 0}, {math.MaxInt, lastNumber}}

// P22.2: a datagram with an error changes nothing; nothing but a notice goes out, of an older epoch.
func TestHearWrong(t *testing.T) {
	for _, h := range append(wrong(t), old(t)...) {
		s := behind(t)
		was := told(s)
		for i, from := range addresses {
			got, e := s.Hear([]int{0, 2, math.MinInt, math.MaxInt}[i%4], from[0], h.data)
			if e != h.e || told(s) != was {
				t.Errorf("%s: %d, want %d; %s", h.what, e, h.e, told(s))
			}
			if e != api.ErrOld {
				if got != nil {
					t.Errorf("%s: %v", h.what, got)
				}
				continue
			}
			if want := (Out{from[1], packed(t, 5, gram.Lines, "", 0, 0)}); len(got) != 1 || got[0] != want {
				t.Errorf("%s: %v", h.what, got)
			}
		}
	}
}

// A server of the first epoch has no older one, one of the last epoch no newer one.
func TestHearFirstAndLastEpoch(t *testing.T) {
	for _, c := range []struct {
		epoch, of int
		e         api.Errno
	}{{1, 1, api.OK}, {1, 2, api.ErrArg}, {1, lastNumber, api.ErrArg}, {2, 1, api.ErrOld}, {2, 2, api.OK}, {lastNumber, lastNumber, api.OK}, {lastNumber, lastNumber - 1, api.ErrOld}, {lastNumber, 1, api.ErrOld}, {lastNumber - 1, lastNumber, api.ErrArg}} {
		for _, kind := range []int{gram.Ack, gram.Ask} {
			s := New(Config{Epoch: c.epoch, W: 1, H: 1, To: 3, Sender: plenty})
			got, e := s.Hear(0, 4, packed(t, c.of, kind, "", 0, 1))
			to := 3
			if c.e == api.OK {
				to = 4
			}
			if e != c.e || s.To() != to || len(got) == 1 != (e == api.ErrOld) {
				t.Errorf("%v: %d, to %d, %v", c, e, s.To(), got)
			}
			if e == api.ErrOld {
				parsed(t, "a notice", c.epoch, 4, got)
			}
		}
	}
}

// An Ack: where the client is behind it, what is acked, and what goes out then.
func TestHearAck(t *testing.T) {
	for _, c := range []struct {
		what  string
		k, id int
		have  string
		acked int
		sent  string
	}{
		{"of nothing", 0, 0, "", 1, "3:3/1 [0 1] of 2"}, {"an older one", 0, 3, "", 1, "3:3/1 [0 1] of 2"}, {"the one that is", 1, 0, "", 1, "3:3/1 [0 1] of 2"},
		{"a newer one", 2, 0, "", 2, "4:3/2 [0 1] of 2"}, {"the newest one", 3, 0, "", 3, "none"}, {"one that there isn't", 4, 0, "", 1, "3:3/1 [0 1] of 2"}, {"the greatest one", 1 << 62, 1 << 62, "", 1, "3:3/1 [0 1] of 2"},
		{"of a part", 1, 3, "\x01", 1, "3:3/1 [1] of 2"}, {"of another part", 0, 3, "\x02", 1, "3:3/1 [0] of 2"}, {"of all parts", 1, 3, "\x03", 1, "none"}, {"of far more parts", 1, 3, strings.Repeat("\xff", 8000), 1, "none"}, {"of parts of another message", 1, 2, "\xff", 1, "3:3/1 [0 1] of 2"}, {"a newer one, of all parts", 2, 3, "\x03", 2, "4:3/2 [0 1] of 2"},
	} {
		for _, from := range addresses {
			s := behind(t)
			got, e := s.Hear(math.MaxInt, from[0], packed(t, 5, gram.Ack, c.have, c.k, c.id))
			if got != nil || e != api.OK || s.To() != from[1] || s.Acked() != c.acked || s.Epoch() != 5 || s.Model().K() != 2 {
				t.Errorf("%s: %v, %d, to %d, %d is acked", c.what, got, e, s.To(), s.Acked())
			}
			if got := step(t, c.what, s, 7); got != c.sent {
				t.Errorf("%s: %s, want %s", c.what, got, c.sent)
			}
			if got := step(t, c.what, s, 12); (got == "none") != (c.sent == "none") {
				t.Errorf("%s: %s, later", c.what, got)
			}
		}
	}
	// The snap of K 2 isn't kept any more: all begins from the empty one.
	s := behind(t)
	s.Do(bytes("z"))
	s.Step(3)
	if got, e := s.Hear(0, 9, packed(t, 5, gram.Ack, "", 2, 0)); got != nil || e != api.OK || s.Acked() != 0 {
		t.Errorf("one that isn't kept: %v, %d, %d", got, e, s.Acked())
	}
	if l := parsed(t, "one that isn't kept", 5, 9, s.Step(4)); len(l) == 0 || l[0].Num(2) != 0 {
		t.Errorf("%v", l)
	}
}

// An Ask, of spans from the first to the second Num of each pair: the lines, and where the client is behind it.
func TestHearAsk(t *testing.T) {
	many := make([]int, 64)
	for i := range many {
		many[i] = i % 2 * 4
	}
	for _, c := range []struct {
		what string
		nums []int
		want string
	}{
		{"all", []int{0, 4}, "0+4"}, {"some", []int{1, 3}, "1+2"}, {"one", []int{3, 4}, "3+1"}, {"two spans", []int{2, 4, 0, 1}, "2+2 0+1"}, {"three spans, with none in one", []int{0, 1, 2, 2, 3, 4}, "0+1 3+1"}, {"more than there are", []int{2, 99}, "2+2"}, {"the same twice", []int{0, 4, 0, 4}, "0+4 0+4"},
		{"none", []int{0, 0}, ""}, {"behind the last one", []int{4, 9}, ""}, {"turned round", []int{3, 1}, ""}, {"the greatest numbers", []int{1 << 62, 1 << 62}, ""}, {"up to the greatest number", []int{0, 1 << 62}, "0+4"}, {"from there", []int{1 << 62, 0}, ""}, {"none, and one", []int{4, 9, 1, 2}, "1+1"},
		{"64 Nums", many, strings.TrimSpace(strings.Repeat("0+4 ", 16))},
	} {
		for _, data := range []string{"", "\xff\x00"} {
			for _, from := range addresses {
				s := behind(t)
				sent := s.Clone()
				got, e := s.Hear(-1, from[0], packed(t, 5, gram.Ask, data, c.nums...))
				if e != api.OK || s.To() != from[1] || s.Acked() != 1 {
					t.Errorf("%s: %d, to %d, %d is acked", c.what, e, s.To(), s.Acked())
				}
				var l []string
				for _, g := range parsed(t, c.what, 5, from[1], got) {
					first, lines, e := fetch.Read(g)
					l = append(l, fmt.Sprint(first, "+", len(lines)))
					for i, line := range lines {
						if x, ok := s.Model().Line(first + i); e != api.OK || !ok || !slices.Equal(x, line) {
							t.Errorf("%s: %d, the line %d: %v", c.what, e, first+i, line)
						}
					}
				}
				if got := strings.Join(l, " "); got != c.want {
					t.Errorf("%s: %s, want %s", c.what, got, c.want)
				}
				// Nothing but where the client is has changed.
				sent.Hear(0, from[0], packed(t, 5, gram.Ack, "", 0, 0))
				if told(s) != told(sent) {
					t.Errorf("%s: %s, want %s", c.what, told(s), told(sent))
				}
			}
		}
	}
	s := New(Config{Epoch: 5, W: 3, H: 3, Sender: plenty})
	if got, e := s.Hear(0, 4, packed(t, 5, gram.Ask, "", 0, 9)); got != nil || e != api.OK || s.To() != 4 {
		t.Errorf("of no lines: %v, %d, to %d", got, e, s.To())
	}
}

// Lines that need many datagrams go out in at most 16.
func TestHearAskForMuch(t *testing.T) {
	s := New(Config{Epoch: lastNumber, W: 100, H: 2, To: 1, Sender: plenty})
	for range 40 {
		s.Do(bytes("\x1b[1;2;4;7;38;5;7;48;5;7m" + strings.Repeat("\U0001f600", 1030) + "\r\n"))
	}
	got, e := s.Hear(0, 2, packed(t, lastNumber, gram.Ask, "", 3, 70, 0, 3))
	l := parsed(t, "much", lastNumber, 2, got)
	if e != api.OK || len(l) != 16 {
		t.Fatalf("%d, %d datagrams", e, len(l))
	}
	next := 3
	for i, g := range l {
		first, lines, e := fetch.Read(g)
		if e != api.OK || first != next {
			t.Fatalf("%d: %d, from %d on, want %d", i, e, first, next)
		}
		for k, line := range lines {
			if x, _ := s.Model().Line(first + k); !slices.Equal(x, line) {
				t.Errorf("the line %d", first+k)
			}
		}
		next += len(lines)
	}
	want := fetch.Answer(lastNumber, s.Model().Line, spans.Span{From: 3, To: 70}, spans.Span{From: 0, To: 3})
	for i, g := range want {
		if got[i].Data != g.Pack() {
			t.Errorf("the datagram %d", i)
		}
	}
}

// The model that is answered goes its own way.
func TestModel(t *testing.T) {
	s := behind(t)
	was := told(s)
	m := s.Model()
	other := s.Model()
	m.Do(bytes("q\r\nq\r\n"))
	m.Do(size(7, 7))
	l, _ := m.Line(0)
	for i := range l {
		l[i] = row.Glyph{Rune: '!'}
	}
	if told(s) != was || other.K() != 2 || other.Len() != 4 {
		t.Errorf("%s, was %s", told(s), was)
	}
	s.Do(bytes("r\r\nr\r\n"))
	if m.K() != 4 || other.K() != 2 || s.Model().K() != 3 {
		t.Errorf("%d, %d, %d", m.K(), other.K(), s.Model().K())
	}
}

// A clone goes its own way, and so does what it was made of.
func TestClone(t *testing.T) {
	for _, c := range []struct {
		what string
		do   func(s *Server)
	}{
		{"an event", func(s *Server) { s.Do(bytes("\r\nw\r\n")) }}, {"another size", func(s *Server) { s.Do(size(5, 5)) }}, {"Step", func(s *Server) { s.Do(bytes("v")); s.Step(3) }},
		{"Ack", func(s *Server) { s.Hear(0, 7, packed(t, 5, gram.Ack, "\x01", 2, 3)) }}, {"Ack of a part", func(s *Server) { s.Hear(0, 9, packed(t, 5, gram.Ack, "\x01", 1, 3)) }}, {"Ask", func(s *Server) { s.Hear(0, 7, packed(t, 5, gram.Ask, "", 0, 4)) }},
	} {
		for _, swap := range []bool{false, true} {
			a := behind(t)
			b := a.Clone()
			was := told(a)
			if told(b) != was {
				t.Errorf("%s: %s, was %s", c.what, told(b), was)
			}
			if swap {
				a, b = b, a
			}
			c.do(a)
			if told(a) == was || told(b) != was {
				t.Errorf("%s: %s, was %s", c.what, told(b), was)
			}
			does := told(a)
			c.do(b)
			if told(b) != does || told(a) != does {
				t.Errorf("%s, then the other one: %s, and %s", c.what, told(a), told(b))
			}
		}
	}
	s := New(Config{Epoch: 3, W: 2, H: 2, To: 7, Sender: plenty}).Clone()
	whole(t, "of a new one", s, 0, snap.Snap{}, model.New(2, 2).Snap())
}
