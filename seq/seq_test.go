package seq

import (
	"math/rand"
	"slices"
	"strconv"
	"strings"
	"testing"

	"tidewrack/glyph"
)

// What is expected is written by these: runes that are printed, a control, an escape, a command, one that is private, a title.

func pr(s string) []Action {
	var l []Action
	for _, r := range s {
		l = append(l, Action{Kind: Print, Rune: r})
	}
	return l
}

func ct(b byte) []Action { return []Action{{Kind: Control, Byte: b}} }

func es(b byte) []Action { return []Action{{Kind: Escape, Byte: b}} }

func cm(b byte, nums ...int) []Action { return []Action{{Kind: Command, Byte: b, Nums: nums}} }

func pv(b byte, nums ...int) []Action {
	return []Action{{Kind: Command, Byte: b, Private: true, Nums: nums}}
}

func ti(s string) []Action { return []Action{{Kind: Title, Text: s}} }

func all(l ...[]Action) []Action { return slices.Concat(l...) }

// bad is n runes that weren't any.
func bad(n int) []Action { return pr(strings.Repeat("\ufffd", n)) }

func same(a, b Action) bool {
	return a.Kind == b.Kind && a.Rune == b.Rune && a.Byte == b.Byte && a.Private == b.Private && slices.Equal(a.Nums, b.Nums) && a.Text == b.Text
}

// feed is what texts say to a new Parser, one behind the other.
func feed(l ...string) []Action {
	var p Parser
	var said []Action
	for _, s := range l {
		said = append(said, p.Feed(s)...)
	}
	return said
}

func at(s string) *Parser {
	var p Parser
	p.Feed(s)
	return &p
}

func check(t *testing.T, s string, got, want []Action) {
	t.Helper()
	if !slices.EqualFunc(got, want, same) {
		t.Fatalf("%q:\n%#v, want\n%#v", s, got, want)
	}
}

type saying struct {
	s    string
	want []Action
}

// tell checks each text whole, byte by byte, and that ground is behind it.
func tell(t *testing.T, l []saying) {
	t.Helper()
	for _, c := range l {
		check(t, c.s, feed(c.s), c.want)
		check(t, c.s, feed(strings.Split(c.s, "")...), c.want)
		check(t, c.s+"5H", feed(c.s, "5H"), all(c.want, pr("5H")))
	}
}

func TestKinds(t *testing.T) {
	if Print != 1 || Control != 2 || Escape != 3 || Command != 4 || Title != 5 {
		t.Error(Print, Control, Escape, Command, Title)
	}
}

// The chapter's example, and what is said in everyday texts.
func TestExamples(t *testing.T) {
	tell(t, []saying{
		{"a\x1b[31;m", all(pr("a"), cm('m', 31, 0))},
		{"", nil},
		{"one\r\ntwo", all(pr("one"), ct('\r'), ct('\n'), pr("two"))},
		{"\u00e9\u4e2d\U0001f600", pr("\u00e9\u4e2d\U0001f600")},
		{"\x1b[1;31mred\x1b[m", all(cm('m', 1, 31), pr("red"), cm('m'))},
		{"\x1b]0;t\a\x1b[2J\x1b[H$ ", all(ti("t"), cm('J', 2), cm('H'), pr("$ "))},
		{"\x1b7\x1b[?7l\x1b8", all(es('7'), pv('l', 7), es('8'))},
		{"\x1b(B\x1b)0x", pr("x")},
	})
}

// Controls say what they are, wherever they come; 18, 1a and 1b say nothing themselves.
func TestControls(t *testing.T) {
	for b := range byte(0x20) {
		want := ct(b)
		if b == 0x18 || b == 0x1a || b == 0x1b {
			want = nil
		}
		c := string([]byte{b})
		check(t, c, feed(c), want)
		check(t, "a"+c, feed("a"+c), all(pr("a"), want))
	}
	tell(t, []saying{{"\x7f", nil}, {"a\x7fb", pr("ab")}, {"\x18\x1a", nil}, {"a\x18b\x1ac", pr("abc")}, {"\x7f\x7f\x07\x7f", ct(7)}})
}

// P7.2: bytes 20 to 7e, in ground, are all printed.
func TestBytesArePrinted(t *testing.T) {
	var s []byte
	for b := byte(0x20); b <= 0x7e; b++ {
		c := string([]byte{b})
		tell(t, []saying{{c, pr(c)}, {"\n" + c, all(ct('\n'), pr(c))}})
		s = append(s, b)
	}
	tell(t, []saying{{string(s), pr(string(s))}})
}

// P7.2: each rune that is encoded, in ground, is printed, those from 80 to 9f as well.
func TestRunesArePrinted(t *testing.T) {
	var l []rune
	for r := rune(0x20); r <= 0x10ffff; r++ {
		if r != 0x7f && (r < 0xd800 || r > 0xdfff) {
			l = append(l, r)
		}
	}
	var p Parser
	for part := range slices.Chunk(l, 4096) {
		said := p.Feed(glyph.Encode(part...))
		if len(said) != len(part) {
			t.Fatalf("from %x: %d of %d", part[0], len(said), len(part))
		}
		for i, a := range said {
			if !same(a, Action{Kind: Print, Rune: part[i]}) {
				t.Fatalf("%x: %#v", part[i], a)
			}
		}
	}
}

// A sequence of runes that isn't whole: another byte below 20, or 7f, ends it; what isn't a sequence is Bad.
func TestRunesCutOff(t *testing.T) {
	for _, cut := range []string{"\xc3", "\xe4", "\xe4\xb8", "\xf0", "\xf0\x9f", "\xf0\x9f\x98"} {
		check(t, cut, feed(cut), nil)
		tell(t, []saying{
			{cut + "\n", all(bad(1), ct('\n'))},
			{cut + "\x00", all(bad(1), ct(0))},
			{cut + "\x1f", all(bad(1), ct(0x1f))},
			{cut + "\x18", bad(1)},
			{cut + "\x1a", bad(1)},
			{cut + "\x7f", bad(1)},
			// What would have gone on with it stands for itself behind these.
			{cut + "\x7f\x98", bad(2)},
			{cut + "\x18\x98", bad(2)},
			{cut + "\x07\x98", all(bad(1), ct(7), bad(1))},
			{cut + "\x1b7", all(bad(1), es('7'))},
			{cut + "\x1b[4m", all(bad(1), cm('m', 4))},
			{cut + "\x1b]2;t\a", all(bad(1), ti("t"))},
			{cut + "\x1b\x98\x98", bad(2)},
			{cut + " ", all(bad(1), pr(" "))},
			{cut + "~", all(bad(1), pr("~"))},
			{cut + "\u4e2d", all(bad(1), pr("\u4e2d"))},
			{cut + "\xff", bad(2)},
		})
		check(t, cut+"\x1b", feed(cut+"\x1b"), bad(1))
	}
	tell(t, []saying{{"\x80", bad(1)}, {"\xff\xc0\xc1", bad(3)}, {"\xed\xa0\x80", bad(3)}, {"\xe4\x41", all(bad(1), pr("A"))}})
}

// Escapes, and what stands in the midst of one.
func TestEscapes(t *testing.T) {
	tell(t, []saying{
		{"\x1bD", es('D')}, {"\x1b0", es('0')}, {"\x1b~", es('~')}, {"\x1b\\", es('\\')}, {"\x1bc", es('c')}, {"\x1b?", es('?')},
		{"\x1b\x80", nil}, {"\x1b\xff", nil}, {"\x1b\xc3", nil}, {"\x1b\xc3\xa9", bad(1)}, {"\x1b\xc3\u00e9", pr("\u00e9")},
		{"\x1b\x18", nil}, {"\x1b\x1a", nil}, {"\x1b\x18D", pr("D")}, {"\x1b\x1aD", pr("D")},
		{"\x1b\x1bD", es('D')}, {"\x1b\x1b\x1b[m", cm('m')},
		{"\x1b\nD", all(ct('\n'), es('D'))}, {"\x1b\x00\x1f7", all(ct(0), ct(0x1f), es('7'))}, {"\x1b\x7fD", es('D')},
		{"\x1b\n[3m", all(ct('\n'), cm('m', 3))}, {"\x1b\x7f]0;t\a", ti("t")},
		{"\x1b D", nil}, {"\x1b/D", nil}, {"\x1b#8", nil}, {"\x1b( /D", nil}, {"\x1b (B", nil},
		{"\x1b(0", nil}, {"\x1b(~", nil}, {"\x1b([", nil}, {"\x1b(]", nil}, {"\x1b(\x80", nil}, {"\x1b(\xff", nil}, {"\x1b(\xe4\xb8", bad(1)},
		{"\x1b(\x18", nil}, {"\x1b(\x1a", nil}, {"\x1b(\x18B", pr("B")}, {"\x1b(\x1bD", es('D')},
		{"\x1b(\nB", ct('\n')}, {"\x1b(\x7fB", nil}, {"\x1b(\x7f\x7f(\x05B", ct(5)},
	})
}

// A command's numbers: none, empty ones, with ; and with :, and great ones.
func TestNums(t *testing.T) {
	tell(t, []saying{
		{"\x1b[m", cm('m')}, {"\x1b[@", cm('@')}, {"\x1b[~", cm('~')}, {"\x1b[[", cm('[')}, {"\x1b[]", cm(']')}, {"\x1b[\\", cm('\\')},
		{"\x1b[0m", cm('m', 0)}, {"\x1b[00m", cm('m', 0)}, {"\x1b[9m", cm('m', 9)}, {"\x1b[0031m", cm('m', 31)}, {"\x1b[1234567890J", cm('J', 9999)},
		{"\x1b[;m", cm('m', 0, 0)}, {"\x1b[:m", cm('m', 0, 0)}, {"\x1b[;;m", cm('m', 0, 0, 0)}, {"\x1b[:;m", cm('m', 0, 0, 0)},
		{"\x1b[1;m", cm('m', 1, 0)}, {"\x1b[;1m", cm('m', 0, 1)}, {"\x1b[1;2H", cm('H', 1, 2)}, {"\x1b[1:2H", cm('H', 1, 2)}, {"\x1b[38:5;1m", cm('m', 38, 5, 1)},
		{"\x1b[1;;3m", cm('m', 1, 0, 3)}, {"\x1b[12;34;56m", cm('m', 12, 34, 56)},
		{"\x1b[9998A", cm('A', 9998)}, {"\x1b[9999A", cm('A', 9999)}, {"\x1b[10000A", cm('A', 9999)}, {"\x1b[99990A", cm('A', 9999)}, {"\x1b[100000;7A", cm('A', 9999, 7)},
		{"\x1b[1000;999A", cm('A', 1000, 999)}, {"\x1b[" + strings.Repeat("9", 99) + ";" + strings.Repeat("0", 99) + "5A", cm('A', 9999, 5)},
		{"\x1b[1m\x1b[2m\x1b[m", all(cm('m', 1), cm('m', 2), cm('m'))},
		{"\x1b[5;6\x18\x1b[m", cm('m')}, {"\x1b[5;6\x1b[m", cm('m')}, {"\x1b[5;6\x1b[7m", cm('m', 7)}, {"\x1b[5;6 m\x1b[7m", cm('m', 7)},
	})
}

// Of many numbers the first sixteen count.
func TestManyNums(t *testing.T) {
	var l []int
	for n := range 40 {
		s := ""
		for i, x := range l {
			s += strconv.Itoa(x) + []string{";", ":"}[i%2]
		}
		count := min(len(l), 16)
		if n > 0 {
			tell(t, []saying{{"\x1b[" + s[:len(s)-1] + "m", cm('m', l[:count]...)}, {"\x1b[?" + s[:len(s)-1] + "h", pv('h', l[:count]...)}})
		}
		// Behind a ; there is one more, an empty one.
		more := append(slices.Clone(l), 0)
		if n > 0 {
			tell(t, []saying{{"\x1b[" + s + "m", cm('m', more[:min(len(more), 16)]...)}})
			tell(t, []saying{{"\x1b[" + strings.Repeat(";", n) + "m", cm('m', make([]int, min(n+1, 16))...)}})
		}
		l = append(l, 100+n)
	}
	check(t, "very many", feed("\x1b["+strings.Repeat("12;", 100000)+"m"), cm('m', slices.Repeat([]int{12}, 16)...))
}

// The ? as the first byte, and elsewhere; and commands that are wrong say nothing.
func TestPrivateAndWrong(t *testing.T) {
	tell(t, []saying{
		{"\x1b[?h", pv('h')}, {"\x1b[?25h", pv('h', 25)}, {"\x1b[?1;7l", pv('l', 1, 7)}, {"\x1b[?;l", pv('l', 0, 0)}, {"\x1b[?m", pv('m')},
		{"\x1b[\n?7h", all(ct('\n'), pv('h', 7))}, {"\x1b[\x00\x1f?h", all(ct(0), ct(0x1f), pv('h'))}, {"\x1b[\x7f?7h", pv('h', 7)},
		{"\x1b[?\n7h", all(ct('\n'), pv('h', 7))},
		{"\x1b[??h", nil}, {"\x1b[1?h", nil}, {"\x1b[;?h", nil}, {"\x1b[:?h", nil}, {"\x1b[?7?h", nil}, {"\x1b[0\n?h", ct('\n')},
		{"\x1b[<h", nil}, {"\x1b[=h", nil}, {"\x1b[>h", nil}, {"\x1b[>0c", nil}, {"\x1b[<?h", nil}, {"\x1b[\n>c", ct('\n')},
		{"\x1b[1<h", nil}, {"\x1b[1=h", nil}, {"\x1b[1>h", nil}, {"\x1b[?<h", nil}, {"\x1b[?=h", nil}, {"\x1b[?>h", nil}, {"\x1b[?7>h", nil}, {"\x1b[;<h", nil},
		{"\x1b[ h", nil}, {"\x1b[/h", nil}, {"\x1b[0 q", nil}, {"\x1b[!p", nil}, {"\x1b[?1$p", nil}, {"\x1b[1-2m", nil}, {"\x1b[1,2m", nil}, {"\x1b[#1m", nil},
		{"\x1b[\x80m", nil}, {"\x1b[\xffm", nil}, {"\x1b[1\xc3\xa9m", nil}, {"\x1b[\xc2m", nil}, {"\x1b[?\x9bh", nil},
		{"\x1b[1 2;3:4?5\xffm", nil}, {"\x1b[ \n1m", ct('\n')}, {"\x1b[ m\x1b[2m", cm('m', 2)}, {"\x1b[?h\x1b[h", all(pv('h'), cm('h'))},
		{"\x1b[>\x1b[1m", cm('m', 1)}, {"\x1b[>\x18m", pr("m")}, {"\x1b[?\x1b[1m", cm('m', 1)},
	})
}

// What stands in the midst of a command: controls are told at once, a cancel leaves it, an escape begins anew, 7f is nothing.
func TestMidstOfCommand(t *testing.T) {
	tell(t, []saying{
		{"\x1b[3\n1m", all(ct('\n'), cm('m', 31))}, {"\x1b[\r3\n;\t1\bm", all(ct('\r'), ct('\n'), ct('\t'), ct('\b'), cm('m', 3, 1))},
		{"\x1b[3\x7f1m", cm('m', 31)}, {"\x1b[\x7fm", cm('m')}, {"\x1b[\nm", all(ct('\n'), cm('m'))},
		{"\x1b[3\x181m", pr("1m")}, {"\x1b[3\x1a1m", pr("1m")}, {"\x1b[\x18m", pr("m")}, {"\x1b[\x1am", pr("m")},
		{"\x1b[3\x1bD", es('D')}, {"\x1b[\x1b[4m", cm('m', 4)}, {"\x1b[3\x1b]0;t\a", ti("t")}, {"\x1b[3\x1b(B", nil}, {"\x1b[3\x1b\x18m", pr("m")},
	})
}

// A title, how it ends, and what of it is told.
func TestTitles(t *testing.T) {
	tell(t, []saying{
		{"\x1b]0;t\a", ti("t")}, {"\x1b]2;t\a", ti("t")}, {"\x1b]0;t\x1b\\", ti("t")}, {"\x1b]2;t\x1b\\", ti("t")},
		{"\x1b]0;\a", ti("")}, {"\x1b]2;\x1b\\", ti("")}, {"\x1b]0;;;\a", ti(";;")}, {"\x1b]0;0;2;\a", ti("0;2;")},
		{"\x1b]1;t\a", nil}, {"\x1b]3;t\a", nil}, {"\x1b]/;t\a", nil}, {"\x1b]8;;u\x1b\\", nil}, {"\x1b]00;t\a", nil}, {"\x1b]02;t\a", nil}, {"\x1b]20;t\a", nil}, {"\x1b] 0;t\a", nil},
		{"\x1b]\a", nil}, {"\x1b]\x1b\\", nil}, {"\x1b]0\a", nil}, {"\x1b]2\x1b\\", nil}, {"\x1b];\a", nil}, {"\x1b];0;t\a", nil}, {"\x1b]0:t\a", nil}, {"\x1b]t\a", nil},
		// A 0 or a 2 alone isn't enough, nor what comes behind another title.
		{"\x1b]0\a\x1b];t\a", nil}, {"\x1b]0;t\a\x1b]2;u\a\x1b]2;\a", all(ti("t"), ti("u"), ti(""))},
		{"\x1b]0;t\x18", nil}, {"\x1b]0;t\x1a", nil}, {"\x1b]0;t\x18u", pr("u")}, {"\x1b]0;t\x1au\a", all(pr("u"), ct(7))}, {"\x1b]\x18", nil},
		{"\x1b]0;t\x18\x1b]0;u\a", ti("u")},
		// All other bytes are its own: controls, 7f, and those from 80 on, whether they are runes or not.
		{"\x1b]0;\x00\r\n\x19\x1c\x1f\x7f \x80\xff\xc3\xa9\xe4\a", ti("\x00\r\n\x19\x1c\x1f\x7f \x80\xff\xc3\xa9\xe4")},
		{"\x1b]0;\xc3\a\xa9", all(ti("\xc3"), bad(1))}, {"\x1b]0;\\]\\[\a", ti("\\]\\[")},
		{"\x1b]0;\x9c\a", ti("\x9c")}, {"\n\x1b]\n0;t\a", ct('\n')},
	})
}

// Behind 1b a title looks at the next byte: \ is its end, any other is taken in escape.
func TestTitleLeft(t *testing.T) {
	tell(t, []saying{
		{"\x1b]0;t\x1bD", es('D')}, {"\x1b]0;t\x1b[1m", cm('m', 1)}, {"\x1b]0;t\x1b]2;u\a", ti("u")}, {"\x1b]0;t\x1b(B", nil},
		{"\x1b]0;t\x1b\x18", nil}, {"\x1b]0;t\x1b\x1a", nil}, {"\x1b]0;t\x1b\x18D", pr("D")}, {"\x1b]0;t\x1b\x80", nil}, {"\x1b]0;t\x1b\xff", nil},
		{"\x1b]0;t\x1b\aD", all(ct(7), es('D'))}, {"\x1b]0;t\x1b\nD", all(ct('\n'), es('D'))}, {"\x1b]0;t\x1b\x7fD", es('D')},
		{"\x1b]0;t\x1b\x1bD", es('D')}, {"\x1b]0;t\x1b\x1b\\", es('\\')}, {"\x1b]0;t\x1b\x7f\\", es('\\')}, {"\x1b]0;t\x1b\n\\", all(ct('\n'), es('\\'))},
		{"\x1b]\x1bD", es('D')}, {"\x1b]0;t\x1b7\x1b]0;u\x1b\\", all(es('7'), ti("u"))}, {"\x1b]0;t\x1b\x1b]0;\x1b\\", ti("")},
	})
	check(t, "1b", feed("\x1b]0;t\x1b"), nil)
}

// Of a long title the first 200 bytes count, with those ahead of its text.
func TestLongTitles(t *testing.T) {
	long := strings.Repeat("0123456789abcdef", 20)
	for _, n := range []int{0, 1, 2, 196, 197, 198, 199, 200, 201, 202, 300} {
		want := long[:min(n, 198)]
		tell(t, []saying{{"\x1b]0;" + long[:n] + "\a", ti(want)}, {"\x1b]2;" + long[:n] + "\x1b\\", ti(want)}, {"\x1b]1;" + long[:n] + "\a", nil}})
		tell(t, []saying{{"\x1b]2;" + long[:n] + "\x1b[1m", cm('m', 1)}, {"\x1b]2;" + long[:n] + "\x18", nil}})
	}
	check(t, "very long", feed("\x1b]2;"+strings.Repeat("\n", 1<<20), "\a"), ti(strings.Repeat("\n", 198)))
	check(t, "two", feed("\x1b]2;"+long+"\a\x1b]2;u\a"), all(ti(long[:198]), ti("u")))
}

// leads is what a byte says in a state, and a text that leads a new Parser to the state behind it.
type leads struct {
	said []Action
	to   string
}

// anywhere is what bytes below 20, and 7f, say in all states but a title's; stays leads to the state they come in.
func anywhere(b byte, stays string) leads {
	switch b {
	case 0x18, 0x1a:
		return leads{nil, ""}
	case 0x1b:
		return leads{nil, "\x1b"}
	case 0x7f:
		return leads{nil, stays}
	}
	return leads{ct(b), stays}
}

func common(b byte) bool { return b < 0x20 || b == 0x7f }

func inGround(b byte) leads {
	switch {
	case common(b):
		return anywhere(b, "")
	case b < 0x80:
		return leads{pr(string(rune(b))), ""}
	case b < 0xc2 || b > 0xf4:
		return leads{bad(1), ""}
	}
	return leads{nil, string([]byte{b})}
}

// inSequence is in ground, with e4 b8.
func inSequence(b byte) leads {
	if b >= 0x80 && b <= 0xbf {
		return leads{pr(string(rune(0x4e00 + int(b-0x80)))), ""}
	}
	l := inGround(b)
	return leads{all(bad(1), l.said), l.to}
}

func inEscape(b byte) leads {
	switch {
	case common(b):
		return anywhere(b, "\x1b")
	case b == '[':
		return leads{nil, "\x1b["}
	case b == ']':
		return leads{nil, "\x1b]"}
	case b <= 0x2f:
		return leads{nil, "\x1b#"}
	case b <= 0x7e:
		return leads{es(b), ""}
	}
	return leads{nil, ""}
}

func inSkip(b byte) leads {
	switch {
	case common(b):
		return anywhere(b, "\x1b#")
	case b <= 0x2f:
		return leads{nil, "\x1b#"}
	}
	return leads{nil, ""}
}

// inCommand is behind the text begun, where end is what the last byte says.
func inCommand(begun string, first bool, end func(byte) []Action) func(byte) leads {
	return func(b byte) leads {
		switch {
		case common(b):
			return anywhere(b, begun)
		case b >= 0x40 && b <= 0x7e:
			return leads{end(b), ""}
		case b >= '0' && b <= ';':
			return leads{nil, begun + string(rune(b))}
		case b == '?' && first:
			return leads{nil, "\x1b[?"}
		}
		return leads{nil, "\x1b[="}
	}
}

func inTitle(b byte) leads {
	switch b {
	case 7:
		return leads{ti("ab"), ""}
	case 0x18, 0x1a:
		return leads{nil, ""}
	}
	return leads{nil, "\x1b]0;ab" + string([]byte{b})}
}

func inClosing(b byte) leads {
	if b == '\\' {
		return leads{ti("ab"), ""}
	}
	return inEscape(b)
}

// probes are texts that say different things in different states.
var probes = []string{
	"", "1;2m", ";5m", "?7h", "7h", "m", "[1m", "]2;t\a", "\\x", "\axy", "\x1b\\x", "D", "#8", "Bz", "\xad", "\xb8\xad", "\x98\x80z", "\x80z", " m", "0;u\x1b\\", ";v\a",
	"\n", "\x7fm", "\x18m", "\x1bm", "\x1b[m", "1111111;m", strings.Repeat("1;", 20) + "m", strings.Repeat("x", 220) + "\a",
}

// P7.1: each byte in each state says what the chapter tells, and behind it is the state that it tells.
func TestEachByteInEachState(t *testing.T) {
	none := func(byte) []Action { return nil }
	plain := func(nums ...int) func(byte) []Action {
		return func(b byte) []Action { return cm(b, nums...) }
	}
	private := func(nums ...int) func(byte) []Action {
		return func(b byte) []Action { return pv(b, nums...) }
	}
	for _, state := range []struct {
		to   string
		take func(byte) leads
	}{
		{"", inGround}, {"a\xff\u4e2d", inGround}, {"\xe4\xb8", inSequence}, {"x\xe4\xb8", inSequence},
		{"\x1b", inEscape}, {"\x1b[3\x1b", inEscape}, {"\xe4\xb8\x1b", inEscape}, {"\x1b]0;ab\x1b\x1b", inEscape},
		{"\x1b#", inSkip}, {"\x1b#( ", inSkip},
		{"\x1b[", inCommand("\x1b[", true, plain())}, {"\x1b[\n", inCommand("\x1b[", true, plain())},
		{"\x1b[31", inCommand("\x1b[31", false, plain(31))}, {"\x1b[31;", inCommand("\x1b[31;", false, plain(31, 0))}, {"\x1b[31:4", inCommand("\x1b[31;4", false, plain(31, 4))},
		{"\x1b[99999", inCommand("\x1b[9999", false, plain(9999))}, {"\x1b[;", inCommand("\x1b[;", false, plain(0, 0))},
		{"\x1b[?", inCommand("\x1b[?", false, private())}, {"\x1b[?7", inCommand("\x1b[?7", false, private(7))},
		{"\x1b[ ", inCommand("\x1b[ ", false, none)}, {"\x1b[?1;\xff", inCommand("\x1b[=", false, none)},
		{"\x1b]0;ab", inTitle}, {"\x1b]0;ab\x1b", inClosing},
	} {
		for b := range 256 {
			want := state.take(byte(b))
			c := string([]byte{byte(b)})
			check(t, state.to+c, at(state.to).Feed(c), want.said)
			for _, probe := range probes {
				check(t, state.to+c+probe, at(state.to+c).Feed(probe), at(want.to).Feed(probe))
			}
		}
	}
}

// reader tells what a whole text says in another way: construct by construct, each of which looks for its own end.
type reader struct {
	s    string
	at   int
	said []Action
}

func (r *reader) say(l []Action) { r.said = append(r.said, l...) }

func (r *reader) more() bool { return r.at < len(r.s) }

// own is the next byte that isn't said alike everywhere; 0: the construct ends without one, at a cancel, an escape, or the text's end.
func (r *reader) own() byte {
	for r.more() {
		b := r.s[r.at]
		if b == 0x1b {
			return 0
		}
		r.at++
		switch {
		case b == 0x18 || b == 0x1a:
			return 0
		case b < 0x20:
			r.say(ct(b))
		case b != 0x7f:
			return b
		}
	}
	return 0
}

func read(s string) []Action {
	r := &reader{s: s}
	for r.more() {
		end := r.at
		for end < len(s) && s[end] >= 0x20 && s[end] != 0x7f {
			end++
		}
		_, l := glyph.Decoder{}.Run(s[r.at:end])
		if end < len(s) {
			l = glyph.Decode(s[r.at:end])
		}
		r.say(pr(string(l)))
		if r.at = end; r.more() && s[end] == 0x1b {
			r.at++
			r.escape()
		} else if r.more() {
			if b := s[end]; b < 0x20 && b != 0x18 && b != 0x1a {
				r.say(ct(b))
			}
			r.at++
		}
	}
	return r.said
}

// escape stands behind 1b.
func (r *reader) escape() {
	switch b := r.own(); {
	case b == '[':
		r.command()
	case b == ']':
		r.title()
	case b >= 0x30 && b < 0x80:
		r.say(es(b))
	case b != 0 && b < 0x30:
		for b != 0 && b < 0x30 {
			b = r.own()
		}
	}
}

func (r *reader) command() {
	var l []byte
	b := r.own()
	for b != 0 && (b < 0x40 || b > 0x7e) {
		l = append(l, b)
		b = r.own()
	}
	body, private := strings.CutPrefix(strings.ReplaceAll(string(l), ":", ";"), "?")
	if b == 0 || strings.Trim(body, "0123456789;") != "" || strings.ContainsFunc(body, func(x rune) bool { return (x < '0' || x > '9') && x != ';' }) {
		return
	}
	a := Action{Kind: Command, Byte: b, Private: private}
	if body != "" {
		for _, one := range strings.Split(body, ";") {
			n, err := strconv.Atoi("0" + one)
			if n > 9999 || err != nil {
				n = 9999
			}
			a.Nums = append(a.Nums, n)
		}
	}
	a.Nums = a.Nums[:min(len(a.Nums), 16)]
	r.say([]Action{a})
}

func (r *reader) title() {
	left := r.s[r.at:]
	n := strings.IndexAny(left, "\a\x18\x1a\x1b")
	if n < 0 {
		r.at = len(r.s)
		return
	}
	r.at += n + 1
	over := left[n] == 7
	if left[n] == 0x1b {
		over = r.more() && r.s[r.at] == '\\'
		if !over {
			r.escape()
			return
		}
		r.at++
	}
	text := left[:min(n, 200)]
	if over && (strings.HasPrefix(text, "0;") || strings.HasPrefix(text, "2;")) {
		r.say(ti(text[2:]))
	}
}

// pieces are what texts are made of at random.
var pieces = []string{
	"\x1b", "\x1b[", "\x1b]", "\x1b]0;", "\x1b]2;", "\x1b\\", "\x1b(", "\a", "\x18", "\x1a", "\n", "\x00", "\x7f", "0", "1", "7", "9999", ";", ":", "?", "<", "=", ">", "m", "H", "~", "@",
	" ", "/", "[", "]", "\\", "a", "D", "\x80", "\xbf", "\xc3", "\xe4", "\xb8", "\xad", "\xf0\x9f", "\u4e2d", "\xff", "\x1b[?", "12;", "\x1b[3", "\x1b[0;1:2", "0;t",
}

func random(from *rand.Rand, most int) string {
	var b strings.Builder
	for range from.Intn(most) {
		b.WriteString(pieces[from.Intn(len(pieces))])
	}
	return b.String()
}

// P7.1: all texts of up to two bytes behind each state, and many of three pieces.
func TestShortTexts(t *testing.T) {
	for _, s := range []string{"", "\xe4\xb8", "\x1b", "\x1b(", "\x1b[", "\x1b[?", "\x1b[1;", "\x1b[ ", "\x1b]", "\x1b]0;t", "\x1b]0;t\x1b"} {
		for a := range 256 {
			one := s + string([]byte{byte(a)})
			check(t, one, feed(one), read(one))
			for b := range 256 {
				two := one + string([]byte{byte(b)})
				check(t, two, feed(two), read(two))
			}
		}
	}
	for _, a := range pieces {
		for _, b := range pieces {
			for _, c := range pieces {
				check(t, a+b+c, feed(a+b+c), read(a+b+c))
			}
		}
	}
}

// P7.1: bytes say the same in whatever parts they come: each cut in two, short texts' cuts in three, byte by byte, and with parts that are empty.
func TestParts(t *testing.T) {
	from := rand.New(rand.NewSource(17))
	for range 4000 {
		s := random(from, 24)
		want := read(s)
		check(t, s, feed(s), want)
		check(t, s, feed(strings.Split(s, "")...), want)
		for i := range len(s) + 1 {
			check(t, s, feed(s[:i], "", s[i:]), want)
			for j := i; len(s) < 20 && j <= len(s); j++ {
				check(t, s, feed(s[:i], s[i:j], s[j:]), want)
			}
		}
	}
	for range 2000 {
		b := make([]byte, from.Intn(60))
		from.Read(b)
		check(t, string(b), feed(string(b)), read(string(b)))
		s := random(from, 300)
		check(t, s, feed(s), read(s))
	}
}

// A Clone is in the same state, and goes its own way; so does the Parser that it was made of.
func TestClone(t *testing.T) {
	for _, s := range []string{
		"", "a", "\xe4\xb8", "\x1b", "\x1b(", "\x1b[", "\x1b[\n", "\x1b[12", "\x1b[1;2;", "\x1b[?", "\x1b[?7;", "\x1b[=", "\x1b]", "\x1b]0", "\x1b]0;ab", "\x1b]0;ab\x1b",
		"\x1b[" + strings.Repeat("3;", 17), "\x1b]2;" + strings.Repeat("x", 250),
	} {
		for _, one := range probes {
			for _, other := range probes {
				p := at(s)
				q := p.Clone()
				r := q.Clone()
				check(t, s+one, p.Feed(one), at(s).Feed(one))
				check(t, s+other, q.Feed(other), at(s).Feed(other))
				check(t, s+one+"1;m\a", p.Feed("1;m\a"), at(s+one).Feed("1;m\a"))
				check(t, s+other+"2;m\a", q.Feed("2;m\a"), at(s+other).Feed("2;m\a"))
				check(t, s+"3;m\a", r.Feed("3;m\a"), at(s).Feed("3;m\a"))
			}
		}
	}
}

// Answers are new memory: what becomes of one changes no other, nor what the Parser says later.
func TestMemory(t *testing.T) {
	var p Parser
	said := p.Feed("\x1b[1;2;3m\x1b[4;5;6m\x1b[7;8")
	for i := range said[0].Nums {
		said[0].Nums[i] = 99
	}
	said[0].Nums = append(said[0].Nums, 98, 97, 96)
	if !slices.Equal(said[1].Nums, []int{4, 5, 6}) {
		t.Errorf("%d", said[1].Nums)
	}
	q := p.Clone()
	one := p.Feed(";9m\x1b[1")
	check(t, "behind it", one, cm('m', 7, 8, 9))
	one[0].Nums[0] = 99
	check(t, "the clone", q.Feed(";1m"), cm('m', 7, 8, 1))
	clear(one)
	check(t, "later on", p.Feed("m"), cm('m', 1))
	if said := feed("\x1b[m\x1b[?h"); said[0].Nums != nil || said[1].Nums != nil {
		t.Errorf("%#v", said)
	}
	if said := feed("\x1b[1"); said != nil {
		t.Errorf("%#v", said)
	}
}

// A long text ends, and all that it says is told.
func TestLongText(t *testing.T) {
	const times = 1 << 15
	one := all(pr("a\u4e2d"), cm('m', 1, 31), ti("t"), ct('\n'), es('D'))
	said := feed(strings.Repeat("a\u4e2d\x1b[1;31m\x1b]0;t\a\n\x1bD", times))
	if len(said) != times*len(one) || !slices.EqualFunc(said[len(said)-len(one):], one, same) {
		t.Errorf("%d", len(said))
	}
}
