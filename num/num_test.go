package num

import (
	"math"
	"math/rand"
	"strings"
	"testing"

	"tidewrack/api"
)

// numbers are the ends of the range, what lies beyond them, and what lies about each power of 2.
func numbers() []int {
	l := []int{0, 300, greatest, greatest + 1, math.MaxInt, -1, -128, math.MinInt}
	for i := range 62 {
		l = append(l, 1<<i-1, 1<<i, 1<<i+1)
	}
	return l
}

func written(n int) string {
	var o Out
	return o.Num(n).Bytes()
}

// P1.2: a number has its seven lowest bits first, in as few bytes as can be.
func TestNumberBytes(t *testing.T) {
	full := strings.Repeat("\xff", 7)
	none := strings.Repeat("\x80", 8)
	for _, c := range []struct {
		n    int
		want string
	}{
		{0, "\x00"}, {1, "\x01"}, {127, "\x7f"},
		{128, "\x80\x01"}, {129, "\x81\x01"}, {300, "\xac\x02"}, {16383, "\xff\x7f"},
		{16384, "\x80\x80\x01"}, {1<<32 - 1, "\xff\xff\xff\xff\x0f"},
		{1<<56 - 1, full + "\x7f"}, {1 << 56, none + "\x01"},
		{1<<62 - 1, full + "\xff\x3f"}, {1 << 62, none + "\x40"},
		{1<<62 + 1, none + "\x40"}, {math.MaxInt, none + "\x40"},
		{-1, "\x00"}, {-300, "\x00"}, {math.MinInt, "\x00"},
	} {
		if got := written(c.n); got != c.want {
			t.Errorf("%d: %x", c.n, got)
		}
		if got := Size(c.n); got != len(c.want) {
			t.Errorf("%d: Size %d", c.n, got)
		}
	}
}

// The example of a text, and texts whose length has more bytes than one.
func TestTextBytes(t *testing.T) {
	var o Out
	if got := o.Text("ab", "", "\x00\xff").Bytes(); got != "\x02ab\x00\x02\x00\xff" {
		t.Errorf("%x", got)
	}
	long := strings.Repeat("x", 128)
	var p Out
	if got := p.Text(long).Bytes(); got != "\x80\x01"+long {
		t.Errorf("%x", got)
	}
}

// An Out is the same one behind each call, and keeps all that was, in its order.
func TestOutIsTheSame(t *testing.T) {
	var o Out
	if o.Bytes() != "" || o.Num() != &o || o.Text() != &o || o.Raw() != &o || o.Bytes() != "" {
		t.Error("nothing was written")
	}
	if o.Raw("a", "", "b") != &o || o.Num(1, 128) != &o || o.Text("c", "d") != &o {
		t.Error("another Out")
	}
	before := o.Bytes()
	if before != "ab\x01\x80\x01\x01c\x01d" || o.Bytes() != before {
		t.Errorf("%x", before)
	}
	if o.Raw("e"); before != "ab\x01\x80\x01\x01c\x01d" || o.Bytes() != before+"e" {
		t.Errorf("%x, then %x", before, o.Bytes())
	}
}

// A list that is handed in stays as it is.
func TestListsStay(t *testing.T) {
	nums, texts := []int{-5, 7, math.MaxInt}, []string{"a", ""}
	var o Out
	o.Num(nums...).Text(texts...).Raw(texts...)
	if nums[0] != -5 || nums[1] != 7 || nums[2] != math.MaxInt || texts[0] != "a" || texts[1] != "" {
		t.Errorf("%d, %q", nums, texts)
	}
}

// The document says of a nil In alone that it isn't asked.
func TestNilOut(t *testing.T) {
	var o *Out
	if o.Num(1) != nil || o.Text("a") != nil || o.Raw("a") != nil || o.Bytes() != "" {
		t.Error("a nil Out has something")
	}
}

// P1.2: what was written is read.
func TestWrittenIsRead(t *testing.T) {
	texts := []string{"", "a", "\x00\xff\x80", strings.Repeat("y", 127), strings.Repeat("z", 300)}
	var o Out
	o.Num(numbers()...).Text(texts...).Raw(texts...)
	in := Of(o.Bytes())
	if in.Left() != len(o.Bytes()) {
		t.Errorf("Left %d", in.Left())
	}
	for _, n := range numbers() {
		left := in.Left()
		if got := in.Num(); got != clip(n) || left-in.Left() != Size(n) {
			t.Errorf("%d: %d of %d bytes", n, got, left-in.Left())
		}
	}
	for _, s := range texts {
		if got := in.Text(); got != s {
			t.Errorf("%q: %q", s, got)
		}
	}
	for _, s := range texts {
		if got := in.Raw(len(s)); got != s {
			t.Errorf("%q as it is: %q", s, got)
		}
	}
	if in.Left() != 0 || in.Err() != api.OK || in.End() != api.OK {
		t.Errorf("%d left, %d, %d", in.Left(), in.Err(), in.End())
	}
}

// plain is the number that s begins with, by what is written alone: false, if no number's bytes are there.
func plain(s string) (int, bool) {
	sum := uint64(0)
	for i := range min(9, len(s)) {
		sum += uint64(s[i]%128) << (7 * i)
		if sum <= 1<<62 && written(int(sum)) == s[:i+1] {
			return int(sum), true
		}
	}
	return 0, false
}

func checkOneWay(t *testing.T, s string) {
	in := Of(s)
	n := in.Num()
	want, ok := plain(s)
	if ok != (in.Err() == api.OK) || n != want {
		t.Errorf("%x: %d, %d; want %d, %t", s, n, in.Err(), want, ok)
	}
	if ok && in.Left() != len(s)-Size(n) || !ok && in.Left() != 0 {
		t.Errorf("%x: %d left", s, in.Left())
	}
}

// P1.2: other bytes are no number's.
func TestOneWay(t *testing.T) {
	checkOneWay(t, "")
	for a := range 256 {
		checkOneWay(t, string([]byte{byte(a)}))
		for b := range 256 {
			checkOneWay(t, string([]byte{byte(a), byte(b)}))
			for _, head := range []string{"\x80", "\xff", "\x81\x80"} {
				for k := range 10 {
					checkOneWay(t, strings.Repeat(head, k)+string([]byte{byte(a), byte(b)}))
				}
			}
		}
	}
}

// The errors of a number, the first of them first.
func TestNumberErrors(t *testing.T) {
	eight, nine := strings.Repeat("\x80", 8), strings.Repeat("\x80", 9)
	for _, c := range []struct {
		s    string
		want api.Errno
	}{
		{"", api.ErrEnd}, {"\x80", api.ErrEnd}, {"\xff\xff", api.ErrEnd}, {eight, api.ErrEnd},
		{nine, api.ErrForm}, {nine + "\x00", api.ErrForm}, {nine + "\x01", api.ErrForm},
		{strings.Repeat("\xff", 20), api.ErrForm},
		{"\x80\x00", api.ErrForm}, {"\xff\x00", api.ErrForm}, {eight + "\x00", api.ErrForm},
		{"\x81" + eight[1:] + "\x40", api.ErrForm}, {eight + "\x41", api.ErrForm}, {eight + "\x7f", api.ErrForm},
		{eight + "\x40", api.OK}, {"\x00", api.OK}, {"\x00\x80", api.OK},
	} {
		in := Of(c.s)
		if n := in.Num(); in.Err() != c.want || c.want != api.OK && n != 0 {
			t.Errorf("%x: %d, %d", c.s, n, in.Err())
		}
		text := Of(c.s)
		if got := text.Text(); c.want != api.OK && (got != "" || text.Err() != c.want || text.Left() != 0) {
			t.Errorf("%x as a text: %q, %d", c.s, got, text.Err())
		}
	}
}

// The errors of texts, and of bytes as they are.
func TestTooFewBytes(t *testing.T) {
	for _, s := range []string{"\x01", "\x03ab", "\x80\x01a", written(1 << 62), written(1<<62) + "abc"} {
		in := Of(s)
		if got := in.Text(); got != "" || in.Err() != api.ErrEnd || in.Left() != 0 {
			t.Errorf("%x: %q, %d, %d left", s, got, in.Err(), in.Left())
		}
	}
	for _, c := range []struct {
		n, left int
		got     string
		want    api.Errno
	}{
		{-1, 3, "", api.OK}, {math.MinInt, 3, "", api.OK}, {0, 3, "", api.OK},
		{1, 2, "a", api.OK}, {3, 0, "abc", api.OK},
		{4, 0, "", api.ErrEnd}, {math.MaxInt, 0, "", api.ErrEnd},
	} {
		in := Of("abc")
		if got := in.Raw(c.n); got != c.got || in.Err() != c.want || in.Left() != c.left {
			t.Errorf("%d: %q, %d, %d left", c.n, got, in.Err(), in.Left())
		}
	}
}

// Behind the first error each call answers nothing, and that error stays.
func TestBehindAnError(t *testing.T) {
	for _, e := range []api.Errno{api.ErrForm, api.ErrEnd, api.ErrFull, -1, 99} {
		in := Of("\x01\x01a\x80")
		if in.Num() != 1 || in.Left() != 3 {
			t.Error("the first number")
		}
		in.Fail(api.OK)
		if in.Err() != api.OK || in.Left() != 3 {
			t.Error("OK is an error")
		}
		in.Fail(e)
		for range 2 {
			if in.Left() != 0 || in.Num() != 0 || in.Text() != "" || in.Raw(1) != "" || in.Raw(0) != "" {
				t.Errorf("%d: something is there", e)
			}
			in.Fail(api.ErrSum)
			in.Fail(api.OK)
			if in.Err() != e || in.End() != e {
				t.Errorf("%d: %d, %d", e, in.Err(), in.End())
			}
		}
	}
}

// End tells of bytes that are left, and leaves them.
func TestEnd(t *testing.T) {
	in := Of("\x07a")
	for range 2 {
		if in.End() != api.ErrForm || in.Err() != api.OK || in.Left() != 2 {
			t.Error("End has changed something")
		}
	}
	if in.Num() != 7 || in.Raw(1) != "a" || in.End() != api.OK || in.Err() != api.OK {
		t.Error("all is taken")
	}
	if in.Num(); in.End() != api.ErrEnd {
		t.Error("beyond the end")
	}
	if Of("").End() != api.OK {
		t.Error("of nothing")
	}
}

// P1.1: each call, of any bytes, behind any calls.
func TestAnyCalls(t *testing.T) {
	random := rand.New(rand.NewSource(1))
	for range 20000 {
		b := make([]byte, random.Intn(24))
		for i := range b {
			b[i] = []byte{0, 1, 2, 5, 64, 127, 128, 129, 255}[random.Intn(9)]
		}
		in := Of(string(b))
		for range 12 {
			left, err := in.Left(), in.Err()
			switch random.Intn(6) {
			case 0, 1:
				in.Num()
			case 2, 3:
				in.Text()
			case 4:
				in.Raw(random.Intn(9) - 2)
			case 5:
				in.End()
			}
			if in.Left() > left || err != api.OK && in.Err() != err || in.Err() != api.OK && in.Left() != 0 {
				t.Fatalf("%x: %d left, then %d; %d, then %d", b, left, in.Left(), err, in.Err())
			}
		}
	}
}
