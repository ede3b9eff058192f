package sum

import (
	"hash/crc32"
	"math"
	"math/rand"
	"strings"
	"testing"
)

// slow is the sum as the document tells it, bit by bit.
func slow(s string) uint32 {
	c := uint32(0xffffffff)
	for i := range len(s) {
		c ^= uint32(s[i])
		for range 8 {
			if c%2 == 1 {
				c = c/2 ^ 0xedb88320
			} else {
				c /= 2
			}
		}
	}
	return ^c
}

// some are texts of many lengths, of any bytes.
func some() []string {
	random := rand.New(rand.NewSource(2))
	l := []string{"", "\x00", "\xff", "a", "abc", "\x00\x00\x00\x00", "\xff\xff\xff\xff", strings.Repeat("z", 8192)}
	for a := range 256 {
		l = append(l, string([]byte{byte(a)}))
	}
	for n := range 40 {
		b := make([]byte, n)
		random.Read(b)
		l = append(l, string(b))
	}
	return l
}

// The example, and others that are known.
func TestOf(t *testing.T) {
	for s, want := range map[string]uint32{
		"":          0,
		"a":         0xe8b7be43,
		"123456789": 0xcbf43926,
		"The quick brown fox jumps over the lazy dog": 0x414fa339,
	} {
		if got := Of(s); got != want {
			t.Errorf("%q: %x", s, got)
		}
	}
	for _, s := range some() {
		if got := Of(s); got != slow(s) || got != crc32.ChecksumIEEE([]byte(s)) {
			t.Errorf("%q: %x", s, got)
		}
	}
}

// Texts count one behind the other, wherever they are cut.
func TestOfParts(t *testing.T) {
	if Of() != 0 || Of("", "") != 0 || Of("12", "", "345678", "9") != 0xcbf43926 {
		t.Error("parts")
	}
	s := "a text that goes out"
	for i := range len(s) + 1 {
		if Of(s[:i], s[i:]) != Of(s) {
			t.Errorf("cut at %d", i)
		}
	}
	if Of("ab", "c") == Of("c", "ab") {
		t.Error("the order doesn't count")
	}
}

// The half bytes' table is what the document's eight steps come to, four at a time.
func TestHalf(t *testing.T) {
	for i, got := range half {
		c := uint32(i)
		for range 4 {
			c = c/2 ^ c%2*0xedb88320
		}
		if got != c {
			t.Errorf("%d: %x, want %x", i, got, c)
		}
	}
}

// P2.2: what is sealed is opened.
func TestSealOpen(t *testing.T) {
	if got := Seal("123456789"); got != "123456789\x26\x39\xf4\xcb" {
		t.Errorf("%x", got)
	}
	if got := Seal(""); got != "\x00\x00\x00\x00" {
		t.Errorf("%x", got)
	}
	for _, s := range some() {
		if got, ok := Open(Seal(s)); got != s || !ok {
			t.Errorf("%q: %q, %t", s, got, ok)
		}
	}
}

// Wrong inputs: too few bytes, and sums that are another text's.
func TestOpenNone(t *testing.T) {
	for _, s := range []string{
		"", "a", "ab", "abc", "\x00\x00\x00", "\x00\x00\x00\x01", "\x01\x00\x00\x00", "abcd",
		"123456789\xcb\xf4\x39\x26", "123456789\x26\x39\xf4", "12345678\x26\x39\xf4\xcb", "\x26\x39\xf4\xcb123456789",
	} {
		if got, ok := Open(s); got != "" || ok {
			t.Errorf("%x: %q, %t", s, got, ok)
		}
	}
}

func TestTurn(t *testing.T) {
	for _, c := range []struct {
		s    string
		at   int
		mask uint32
		want string
	}{
		{"\x00", 0, 1, "\x01"}, {"\x00", 1, 3, "\x06"}, {"\x00", 7, 1, "\x80"}, {"\xff", 3, 1, "\xf7"},
		{"\x00\x00", 7, 3, "\x80\x01"}, {"\x00\x00", 8, 1, "\x00\x01"}, {"\x00\x00", 0, 0x8001, "\x01\x80"},
		{"\x00\x00\x00\x00\x00", 0, 0x80000001, "\x01\x00\x00\x80\x00"},
		{"\x00\x00\x00\x00\x00", 4, 0xffffffff, "\xf0\xff\xff\xff\x0f"},
		{"\x00\x00\x00\x00", 4, 0xffffffff, "\xf0\xff\xff\xff"},
		{"ab", 5, 0, "ab"}, {"", 0, 0xffffffff, ""}, {"", 9, 1, ""}, {"", -9, 1, ""},
		{"\x00", -1, 1, "\x01"}, {"\x00", math.MinInt, 1, "\x01"}, {"\x00", -8, 0x100, "\x00"},
		{"a", 8, 0xffffffff, "a"}, {"a", 9, 1, "a"}, {"a", math.MaxInt, 0xffffffff, "a"}, {"\x00", 7, 0xffffffff, "\x80"},
	} {
		if got := Turn(c.s, c.at, c.mask); got != c.want {
			t.Errorf("%x, %d, %x: %x", c.s, c.at, c.mask, got)
		}
		if got := Turn(Turn(c.s, c.at, c.mask), c.at, c.mask); got != c.s {
			t.Errorf("%x, %d, %x: twice %x", c.s, c.at, c.mask, got)
		}
	}
}

// P2.2: of a sealed text, a mask that turns some bit leaves none; one that turns nothing leaves it as it was.
func TestTurnedIsNone(t *testing.T) {
	random := rand.New(rand.NewSource(3))
	masks := []uint32{0, 1, 2, 3, 0x80000000, 0x80000001, 0xffffffff, 0x04c11db7, 0xedb88320, 0xdb710641}
	for range 40 {
		masks = append(masks, random.Uint32())
	}
	for _, s := range some() {
		if len(s) > 40 {
			continue
		}
		sealed := Seal(s)
		for at := -1; at <= 8*len(sealed); at++ {
			for _, m := range masks {
				turned := Turn(sealed, at, m)
				got, ok := Open(turned)
				if turned == sealed && (got != s || !ok) || turned != sealed && (got != "" || ok) {
					t.Fatalf("%x, %d, %x: %q, %t", s, at, m, got, ok)
				}
			}
		}
	}
}

// P2.1: each call, of any bytes.
func TestAnyBytes(t *testing.T) {
	random := rand.New(rand.NewSource(4))
	for range 5000 {
		b := make([]byte, random.Intn(12))
		random.Read(b)
		s := string(b)
		at := int(random.Uint64())
		if turned := Turn(s, at, random.Uint32()); len(turned) != len(s) {
			t.Fatalf("%x: %x", s, turned)
		}
		if got, ok := Open(s); ok && Seal(got) != s || !ok && got != "" {
			t.Fatalf("%x: %x, %t", s, got, ok)
		}
	}
}
