package gram

import (
	"math"
	"math/rand"
	"reflect"
	"slices"
	"strings"
	"testing"

	"tidewrack/api"
	"tidewrack/num"
	"tidewrack/sum"
)

// packed is a datagram's bytes as the chapter tells them, whether it may be or not.
func packed(epoch, kind, count int, nums []int, data string) string {
	var o num.Out
	return sum.Seal(o.Num(epoch, kind, count).Num(nums...).Text(data).Bytes())
}

func packedWhole(g Gram) string {
	return packed(g.Epoch, g.Kind, len(g.Nums), g.Nums, g.Data)
}

// alike are two datagrams with the same fields; no Nums are the same as a nil list.
func alike(a, b Gram) bool {
	return a.Epoch == b.Epoch && a.Kind == b.Kind && slices.Equal(a.Nums, b.Nums) && a.Data == b.Data
}

func same(n, count int) []int {
	return slices.Repeat([]int{n}, count)
}

// filled is a datagram of that many bytes. How long Data is takes bytes, too: it is cut till all of them are as many.
func filled(size int, nums ...int) Gram {
	g := Gram{Epoch: 1, Kind: Lines, Nums: nums}
	g.Data = strings.Repeat("d", size-len(packedWhole(g)))
	for len(packedWhole(g)) > size {
		g.Data = g.Data[1:]
	}
	return g
}

// sound are datagrams that may be: the edges of each field, and some between.
func sound() []Gram {
	l := []Gram{
		{Epoch: 1, Kind: Ack}, {Epoch: 1, Kind: Diff, Nums: []int{}},
		{Epoch: 127, Kind: Ask, Nums: []int{3, 6}}, {Epoch: 128, Kind: Lines, Nums: []int{0, 0}},
		{Epoch: 1<<32 - 1, Kind: Lines, Nums: []int{0, 127, 128, 1<<62 - 1, 1 << 62}, Data: "\x00\xff"},
		{Epoch: 1 << 32, Kind: Diff, Nums: same(1<<62, 64), Data: "a text"},
		{Epoch: 1 << 32, Kind: Ack, Nums: same(0, 63), Data: strings.Repeat("\x80", 128)},
		filled(api.MaxGram), filled(api.MaxGram - 1), filled(api.MaxGram, same(1<<62, 64)...),
	}
	random := rand.New(rand.NewSource(5))
	for range 300 {
		g := Gram{Epoch: 1 + random.Intn(1<<(1+random.Intn(32))), Kind: Diff + random.Intn(4)}
		for range random.Intn(65) {
			g.Nums = append(g.Nums, random.Intn(1<<(1+random.Intn(62))))
		}
		data := make([]byte, random.Intn(300))
		random.Read(data)
		g.Data = string(data)
		l = append(l, g)
	}
	return l
}

func TestKinds(t *testing.T) {
	if Diff != 1 || Ack != 2 || Ask != 3 || Lines != 4 {
		t.Error(Diff, Ack, Ask, Lines)
	}
}

// The chapter's example, and one with all parts, byte by byte.
func TestPackBytes(t *testing.T) {
	for _, c := range []struct {
		g    Gram
		want string
	}{
		{Gram{Epoch: 1, Kind: Ack}, "\x01\x02\x00\x00" + "\x17\x6c\x7c\x9a"},
		{
			Gram{Epoch: 1 << 32, Kind: Lines, Nums: []int{0, 300, 1 << 62}, Data: "ab"},
			"\x80\x80\x80\x80\x10\x04\x03\x00\xac\x02\x80\x80\x80\x80\x80\x80\x80\x80\x40\x02ab" + "\x1b\xc7\x8d\xf0",
		},
	} {
		if got := c.g.Pack(); got != c.want {
			t.Errorf("%v: %x", c.g, got)
		}
		if got, e := Parse(c.want); e != api.OK || !alike(got, c.g) {
			t.Errorf("%x: %v, %d", c.want, got, e)
		}
	}
}

// P3.2: a datagram that may be is parsed from its bytes.
func TestPackedIsParsed(t *testing.T) {
	for _, g := range sound() {
		s := g.Pack()
		if g.Check() != api.OK || s != packedWhole(g) || g.size() != len(s) {
			t.Errorf("%v: %d, %d bytes: %x", g, g.Check(), g.size(), s)
		}
		got, e := Parse(s)
		if e != api.OK || !alike(got, g) {
			t.Errorf("%x: %v, %d; want %v", s, got, e, g)
		}
		if len(g.Nums) == 0 && got.Nums != nil {
			t.Errorf("%x: Nums of none", s)
		}
	}
}

// What may not be, at each edge; ErrArg is named ahead of ErrBig.
func TestCheck(t *testing.T) {
	big := strings.Repeat("d", api.MaxGram)
	for _, c := range []struct {
		g    Gram
		want api.Errno
	}{
		{Gram{}, api.ErrArg}, {Gram{Epoch: 1}, api.ErrArg}, {Gram{Kind: Diff}, api.ErrArg},
		{Gram{Epoch: 0, Kind: Ack}, api.ErrArg}, {Gram{Epoch: -1, Kind: Ack}, api.ErrArg},
		{Gram{Epoch: math.MinInt, Kind: Ack}, api.ErrArg}, {Gram{Epoch: math.MaxInt, Kind: Ack}, api.ErrArg},
		{Gram{Epoch: 1 << 32, Kind: Ack}, api.OK}, {Gram{Epoch: 1<<32 + 1, Kind: Ack}, api.ErrArg},
		{Gram{Epoch: 1, Kind: 0}, api.ErrArg}, {Gram{Epoch: 1, Kind: 1}, api.OK},
		{Gram{Epoch: 1, Kind: 4}, api.OK}, {Gram{Epoch: 1, Kind: 5}, api.ErrArg},
		{Gram{Epoch: 1, Kind: -1}, api.ErrArg}, {Gram{Epoch: 1, Kind: math.MaxInt}, api.ErrArg},
		{Gram{Epoch: 1, Kind: math.MinInt}, api.ErrArg},
		{Gram{1, Ack, same(0, 64), ""}, api.OK}, {Gram{1, Ack, same(0, 65), ""}, api.ErrArg},
		{Gram{1, Ack, same(0, 1<<16), ""}, api.ErrArg},
		{Gram{1, Ack, []int{1 << 62}, ""}, api.OK}, {Gram{1, Ack, []int{1<<62 + 1}, ""}, api.ErrArg},
		{Gram{1, Ack, []int{0, -1}, ""}, api.ErrArg}, {Gram{1, Ack, []int{math.MinInt, 0}, ""}, api.ErrArg},
		{Gram{1, Ack, []int{0, 0, math.MaxInt}, ""}, api.ErrArg},
		{filled(api.MaxGram), api.OK}, {filled(api.MaxGram + 1), api.ErrBig},
		{filled(api.MaxGram, same(1<<62, 64)...), api.OK}, {filled(api.MaxGram+1, same(1<<62, 64)...), api.ErrBig},
		{Gram{1, Ack, nil, big}, api.ErrBig}, {Gram{1, Ack, nil, strings.Repeat("d", 1<<20)}, api.ErrBig},
		{Gram{0, Ack, nil, big}, api.ErrArg}, {Gram{1, 5, nil, big}, api.ErrArg},
		{Gram{1, Ack, []int{-1}, big}, api.ErrArg}, {Gram{1, Ack, same(1, 65), big}, api.ErrArg},
	} {
		if got := c.g.Check(); got != c.want {
			t.Errorf("%d %d %d, %d of Data: %d, want %d", c.g.Epoch, c.g.Kind, c.g.Nums, len(c.g.Data), got, c.want)
		}
		if got := c.g.Pack(); (got != "") != (c.want == api.OK) {
			t.Errorf("%d %d %d, %d of Data: packed: %x", c.g.Epoch, c.g.Kind, c.g.Nums, len(c.g.Data), got)
		}
	}
	if got := len(filled(api.MaxGram).Pack()); got != api.MaxGram {
		t.Errorf("the greatest one has %d bytes", got)
	}
}

// The errors of bytes, the one that is named first first.
func TestParseErrors(t *testing.T) {
	many, nine := strings.Repeat("x", api.MaxGram), strings.Repeat("\x80", 9)
	for _, c := range []struct {
		s    string
		want api.Errno
	}{
		{many + "x", api.ErrBig}, {packedWhole(filled(api.MaxGram + 1)), api.ErrBig}, {sum.Seal(many), api.ErrBig},
		{many, api.ErrSum}, {packedWhole(filled(api.MaxGram)), api.OK},
		{"", api.ErrSum}, {"\x01\x02\x00", api.ErrSum}, {"\x01\x02\x00\x00", api.ErrSum},
		{"\x01\x02\x00\x00\x17\x6c\x7c", api.ErrSum}, {"\x01\x02\x00\x00\x17\x6c\x7c\x9a\x00", api.ErrSum},
		{sum.Seal(""), api.ErrEnd}, {sum.Seal("\x80"), api.ErrEnd}, {sum.Seal("\x80\x00"), api.ErrForm},
		{sum.Seal(nine), api.ErrForm}, {sum.Seal("\x01"), api.ErrEnd}, {sum.Seal("\x01\x82\x00"), api.ErrForm},
		{sum.Seal("\x01\x02"), api.ErrEnd}, {sum.Seal("\x01\x02\x00"), api.ErrEnd},
		{sum.Seal("\x01\x02\x80\x00\x00"), api.ErrForm}, {sum.Seal("\x01\x02\x01"), api.ErrEnd},
		{sum.Seal("\x01\x02\x02\x05"), api.ErrEnd}, {sum.Seal("\x01\x02\x02\x80\x00"), api.ErrForm},
		{sum.Seal("\x01\x02\x02\x05\x80"), api.ErrEnd}, {sum.Seal("\x01\x02\x02\x05\x05"), api.ErrEnd},
		{sum.Seal("\x01\x02\x00\x01"), api.ErrEnd}, {sum.Seal("\x01\x02\x00\x81\x00"), api.ErrForm},
		{sum.Seal("\x01\x02\x00\x03ab"), api.ErrEnd}, {sum.Seal("\x01\x02\x00\x02ab"), api.OK},
		{sum.Seal("\x01\x02\x00\x00\x00"), api.ErrForm}, {sum.Seal("\x01\x02\x00\x02abc"), api.ErrForm},
		// More than 64 Nums: ahead of what layer 1 tells of these, behind what it tells of what is ahead.
		{packed(1, Ack, 64, same(7, 64), "a"), api.OK}, {packed(1, Ack, 65, same(7, 65), "a"), api.ErrForm},
		{sum.Seal("\x01\x02\x40"), api.ErrEnd}, {sum.Seal("\x01\x02\x41"), api.ErrForm},
		{packed(1, Ack, 1<<62, nil, ""), api.ErrForm}, {sum.Seal("\x01\x02\x41\x80"), api.ErrForm},
		{sum.Seal("\x01\x02\xc1\x80"), api.ErrEnd}, {sum.Seal("\x80"), api.ErrEnd},
		// The first wrong part from the left, ahead of bytes that are left, ahead of Check.
		{sum.Seal("\x00\x00\x01\x80"), api.ErrEnd}, {sum.Seal("\x00\x00\x01\x80\x00\x09"), api.ErrForm},
		{sum.Seal("\x00\x02\x00\x00\x00"), api.ErrForm}, {sum.Seal("\x01\x05\x00\x00\x00"), api.ErrForm},
		{packed(0, Ack, 0, nil, ""), api.ErrArg}, {packed(1<<32, Ack, 0, nil, ""), api.OK},
		{packed(1<<32+1, Ack, 0, nil, ""), api.ErrArg}, {packed(1<<62, Ack, 0, nil, ""), api.ErrArg},
		{packed(1, 0, 0, nil, ""), api.ErrArg}, {packed(1, 4, 0, nil, ""), api.OK},
		{packed(1, 5, 0, nil, ""), api.ErrArg}, {packed(1, 1<<62, 0, nil, ""), api.ErrArg},
		{packed(0, 5, 2, []int{1, 2}, "data"), api.ErrArg},
	} {
		got, e := Parse(c.s)
		if e != c.want || e != api.OK && !reflect.DeepEqual(got, Gram{}) {
			t.Errorf("%x: %v, %d, want %d", c.s, got, e, c.want)
		}
	}
}

// plain is the datagram of which s is the body, by what num writes alone: of each part, tried from the least length on, the bytes must be that number's. false: there is none.
func plain(s string) (Gram, bool) {
	fine := true
	number := func() int {
		n := 0
		for i := range min(9, len(s)) {
			n += int(s[i]%128) << (7 * i)
			var o num.Out
			if n >= 0 && n <= 1<<62 && o.Num(n).Bytes() == s[:i+1] {
				s = s[i+1:]
				return n
			}
		}
		fine = false
		return 0
	}
	g := Gram{Epoch: number(), Kind: number()}
	count := number()
	for i := 0; fine && i < count && i < 65; i++ {
		g.Nums = append(g.Nums, number())
	}
	fine = number() == len(s) && fine
	g.Data = s
	fine = fine && g.Epoch >= 1 && g.Epoch <= 1<<32 && g.Kind >= 1 && g.Kind <= 4 && count <= 64
	return g, fine
}

func checkOneWay(t *testing.T, body string) {
	t.Helper()
	s := sum.Seal(body)
	want, ok := plain(body)
	got, e := Parse(s)
	if (e == api.OK) != ok || ok && (!alike(got, want) || got.Pack() != s) || !ok && !reflect.DeepEqual(got, Gram{}) {
		t.Fatalf("%x: %v, %d; want %v, %t", s, got, e, want, ok)
	}
}

// P3.2: of any bytes there is at most one datagram, whose Pack they are; other bytes are none's.
func TestOneWay(t *testing.T) {
	some := []byte{0, 1, 2, 3, 4, 5, 0x41, 0x80, 0x81}
	bodies := []string{""}
	for range 6 {
		var longer []string
		for _, body := range bodies {
			checkOneWay(t, body)
			for _, b := range some {
				longer = append(longer, body+string([]byte{b}))
			}
		}
		bodies = longer
	}
	for _, g := range sound() {
		if s := g.Pack(); len(s) < 2000 {
			body := s[:len(s)-4]
			checkOneWay(t, body)
			checkOneWay(t, body+"\x00")
			checkOneWay(t, body[:len(body)-1])
		}
	}
	random := rand.New(rand.NewSource(6))
	l := sound()
	for range 20000 {
		s := l[random.Intn(len(l))].Pack()
		body := []byte(s[:len(s)-4])
		for range 1 + random.Intn(3) {
			body[random.Intn(min(len(body), 40))] = some[random.Intn(len(some))]
		}
		checkOneWay(t, string(body))
	}
}

// checkTurned: a sealed datagram of which some bit is turned is none.
func checkTurned(t *testing.T, s string, at int, mask uint32) {
	t.Helper()
	turned := sum.Turn(s, at, mask)
	if turned == s {
		return
	}
	if got, e := Parse(turned); e != api.ErrSum || !reflect.DeepEqual(got, Gram{}) {
		t.Fatalf("%x, turned at %d by %x: %v, %d", s, at, mask, got, e)
	}
}

// P3.3: one of which a burst of 1 to 32 bits is turned is none: ErrSum.
func TestTurnedIsNone(t *testing.T) {
	random := rand.New(rand.NewSource(7))
	masks := []uint32{1, 2, 3, 0x80000000, 0x80000001, 0xffffffff, 0xedb88320, 0xdb710641, 0x04c11db7}
	for n := range 32 {
		masks = append(masks, 1<<n|1, 1<<n-1, random.Uint32())
	}
	for _, g := range sound() {
		s := g.Pack()
		if len(s) > 60 {
			for range 200 {
				checkTurned(t, s, random.Intn(8*len(s)), random.Uint32()|1)
			}
			continue
		}
		for at := range 8 * len(s) {
			for _, mask := range masks {
				checkTurned(t, s, at, mask)
			}
		}
	}
}

func TestNum(t *testing.T) {
	g := Gram{Nums: []int{5, -7, math.MaxInt}}
	for i, want := range map[int]int{
		0: 5, 1: -7, 2: math.MaxInt, 3: 0, 4: 0, -1: 0, math.MaxInt: 0, math.MinInt: 0,
	} {
		if got := g.Num(i); got != want {
			t.Errorf("%d: %d", i, got)
		}
	}
	if (Gram{}).Num(0) != 0 || (Gram{Nums: []int{}}).Num(0) != 0 || (Gram{Nums: make([]int, 0, 9)}).Num(0) != 0 {
		t.Error("Num of none")
	}
}

// Lists that are handed in stay as they are, their spare room too; an answer's list is its own.
func TestMemory(t *testing.T) {
	room := []int{1, 2, 3, 4}
	g := Gram{Epoch: 1, Kind: Ask, Nums: room[:2], Data: "a"}
	s := g.Pack()
	g.Check()
	g.Num(3)
	if !slices.Equal(room, []int{1, 2, 3, 4}) {
		t.Errorf("%d", room)
	}
	room[0] = 9
	a, _ := Parse(s)
	b, _ := Parse(s)
	a.Nums[0] = 8
	if c, _ := Parse(s); b.Num(0) != 1 || c.Num(0) != 1 || s != b.Pack() {
		t.Errorf("%d, %d", b.Nums, c.Nums)
	}
}

// P3.1: each call, of any values and any bytes.
func TestAnyValues(t *testing.T) {
	random := rand.New(rand.NewSource(8))
	odd := []int{math.MinInt, -1, 0, 1, 2, 3, 4, 5, 64, 1 << 32, 1<<32 + 1, 1 << 62, 1<<62 + 1, math.MaxInt}
	pick := func() int { return odd[random.Intn(len(odd))] }
	for range 20000 {
		g := Gram{Epoch: pick(), Kind: pick(), Data: strings.Repeat("q", random.Intn(3)*4090)}
		for range random.Intn(4) * random.Intn(23) {
			g.Nums = append(g.Nums, pick())
		}
		s := g.Pack()
		got, e := Parse(s)
		if fine := g.Check() == api.OK; fine != (s != "") || fine && (e != api.OK || !alike(got, g)) {
			t.Fatalf("%v: %d, %x: %v, %d", g, g.Check(), s, got, e)
		}
		g.Num(pick())
	}
	for range 50000 {
		b := make([]byte, random.Intn(12))
		random.Read(b)
		if got, e := Parse(string(b)); e == api.OK && got.Pack() != string(b) || e != api.OK && !reflect.DeepEqual(got, Gram{}) {
			t.Fatalf("%x: %v, %d", b, got, e)
		}
	}
}
