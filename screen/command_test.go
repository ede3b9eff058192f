package screen

import (
	"math"
	"slices"
	"strconv"
	"strings"
	"testing"

	"tidewrack/row"
	"tidewrack/seq"
	"tidewrack/style"
)

// counted are numbers of a command, and how the first of them counts: one that isn't there, or is 0, as 1.
var counted = []struct {
	nums []int
	n    int
}{
	{nil, 1}, {[]int{}, 1}, {[]int{0}, 1}, {[]int{1}, 1}, {[]int{-1}, 1}, {[]int{math.MinInt}, 1}, {[]int{2}, 2}, {[]int{3, 1}, 3}, {[]int{0, 3}, 1},
	{[]int{9999}, 9999}, {[]int{10000}, 9999}, {[]int{math.MaxInt}, 9999}, {[]int{math.MaxInt - 1, 2, 3}, 9999}, {[]int{1 << 32}, 9999}, {[]int{-1 << 32, 9}, 1},
}

// Moves by a number, on a screen of 7 columns and 9 rows whose region is the rows 3 to 5, from any place: the region stops those that aren't beyond it.
func TestMoves(t *testing.T) {
	up := func(y, n int) int {
		if y < 3 {
			return max(y-n, 0)
		}
		return max(y-n, 3)
	}
	down := func(y, n int) int {
		if y > 5 {
			return min(y+n, 8)
		}
		return min(y+n, 5)
	}
	moves := map[byte]func(x, y, n int) (int, int){
		'A': func(x, y, n int) (int, int) { return x, up(y, n) },
		'B': func(x, y, n int) (int, int) { return x, down(y, n) },
		'C': func(x, y, n int) (int, int) { return min(x+n, 6), y },
		'D': func(x, y, n int) (int, int) { return max(x-n, 0), y },
		'E': func(x, y, n int) (int, int) { return 0, down(y, n) },
		'F': func(x, y, n int) (int, int) { return 0, up(y, n) },
		'G': func(x, y, n int) (int, int) { return min(n-1, 6), y },
		'd': func(x, y, n int) (int, int) { return x, min(n-1, 8) },
	}
	for b, move := range moves {
		for x := range 7 {
			for y := range 9 {
				for _, c := range counted {
					s := New(7, 9)
					feed(s, "\x1b[4;6r\x1b["+strconv.Itoa(y+1)+";"+strconv.Itoa(x+1)+"H")
					off := s.Do(command(b, c.nums...))
					wantX, wantY := move(x, y, c.n)
					if gotX, gotY := s.Cursor(); gotX != wantX || gotY != wantY || len(off) > 0 || s.Waiting() {
						t.Fatalf("%c %d from %d, %d: %s, want %d, %d", b, c.nums, x, y, where(s), wantX, wantY)
					}
				}
			}
		}
	}
}

// The second number is the column.
func TestPlace(t *testing.T) {
	for _, b := range []byte{'H', 'f'} {
		for _, c := range []struct {
			nums []int
			x, y int
		}{
			{nil, 0, 0}, {[]int{0}, 0, 0}, {[]int{2}, 0, 1}, {[]int{2, 0}, 0, 1}, {[]int{2, 1}, 0, 1}, {[]int{3, 4}, 3, 2}, {[]int{0, 3}, 2, 0}, {[]int{3, 5, 9}, 4, 2},
			{[]int{4, 6}, 4, 2}, {[]int{9999, 9999}, 4, 2}, {[]int{10000, math.MaxInt}, 4, 2}, {[]int{-1, -1}, 0, 0}, {[]int{math.MinInt, 2}, 1, 0}, {[]int{2, math.MinInt}, 0, 1},
		} {
			for _, text := range []string{"", "abcde", "\x1b[2;3r\x1b[2;2H"} {
				s := fed(5, 3, text)
				before := shownAll(s.Grid().Rows())
				s.Do(command(b, c.nums...))
				if got, want := told(s), before+" "+strconv.Itoa(c.x)+","+strconv.Itoa(c.y); got != want {
					t.Errorf("%c %d: %s, want %s", b, c.nums, got, want)
				}
			}
		}
	}
}

// It isn't waiting behind a command that is done, even if that moves nothing; it is behind others.
func TestWaitsOn(t *testing.T) {
	for _, c := range []struct {
		b     byte
		nums  []int
		waits bool
	}{
		{'A', nil, false}, {'B', nil, false}, {'C', nil, false}, {'D', nil, false}, {'E', nil, false}, {'F', nil, false}, {'G', nil, false}, {'G', []int{3}, false}, {'d', nil, false}, {'d', []int{2}, false}, {'H', []int{2, 3}, false}, {'f', []int{2, 3}, false},
		{'J', nil, false}, {'J', []int{1}, false}, {'J', []int{2}, false}, {'J', []int{3}, true}, {'K', nil, false}, {'K', []int{1}, false}, {'K', []int{2}, false}, {'K', []int{3}, true},
		{'X', nil, false}, {'@', nil, false}, {'P', nil, false}, {'L', nil, false}, {'M', nil, false}, {'S', nil, false}, {'T', nil, false},
		{'m', nil, true}, {'m', []int{1}, true}, {'r', nil, false}, {'r', []int{2, 3}, false}, {'r', []int{2, 2}, true}, {'r', []int{3, 2}, true}, {'r', []int{9, 9}, true}, {'h', []int{7}, true}, {'l', []int{7}, true}, {'n', nil, true},
	} {
		s := fed(3, 3, "\r\nabc")
		if s.Do(command(c.b, c.nums...)); s.Waiting() != c.waits {
			t.Errorf("%c %d: %s", c.b, c.nums, told(s))
		}
	}
	// Rows are moved in the region alone.
	for _, b := range []byte{'L', 'M'} {
		for y, waits := range []bool{true, false, false, true} {
			s := fed(3, 4, "\x1b[2;3r\x1b["+strconv.Itoa(y+1)+"Habc")
			if s.Do(command(b)); s.Waiting() != waits {
				t.Errorf("%c at %d: %s", b, y, told(s))
			}
		}
	}
}

func TestEraseRow(t *testing.T) {
	checkSteps(t, 4, 2, []step{
		{"abcd\r\nefg\x1b[1;2H", command('K'), "a···|efg· 1,0"}, {"abcd\x1b[1;2H", command('K', 0), "a···|···· 1,0"}, {"abcd\x1b[1;2H", command('K', -1), "a···|···· 1,0"}, {"abcd\x1b[1;2H", command('K', math.MinInt, 2), "a···|···· 1,0"},
		{"abcd\r\nefg\x1b[1;2H", command('K', 1), "··cd|efg· 1,0"}, {"abcd\r\nefg\x1b[1;2H", command('K', 1, 0), "··cd|efg· 1,0"}, {"abcd\r\nefg\x1b[2;3H", command('K', 2), "abcd|···· 2,1"},
		{"abcd\x1b[1;2H", command('K', 3), "abcd|···· 1,0"}, {"abcd\x1b[1;2H", command('K', math.MaxInt), "abcd|···· 1,0"},
		// Waiting it stands at the last column.
		{"abcd", command('K'), "abc·|···· 3,0"}, {"abcd", command('K', 1), "····|···· 3,0"}, {"abcd\r", command('K', 1), "·bcd|···· 0,0"},
		// Halves of wide runes, rows that go on.
		{"a" + zh + "b\x1b[1;3H", command('K'), "a···|···· 2,0"}, {"a" + zh + "b\x1b[1;2H", command('K', 1), "···b|···· 1,0"}, {"abcde\x1b[1;4H", command('K'), "abc·|e··· 3,0"},
	})
}

func TestEraseRows(t *testing.T) {
	rows := "abc\r\ndef\r\nghi\x1b[2;2H"
	checkSteps(t, 3, 3, []step{
		{rows, command('J'), "abc|d··|··· 1,1"}, {rows, command('J', 0, 2), "abc|d··|··· 1,1"}, {rows, command('J', -5), "abc|d··|··· 1,1"}, {rows, command('J', 1), "···|··f|ghi 1,1"}, {rows, command('J', 2), "···|···|··· 1,1"},
		{rows, command('J', 3), "abc|def|ghi 1,1"}, {rows, command('J', 9999), "abc|def|ghi 1,1"}, {rows, command('J', 10000, 2), "abc|def|ghi 1,1"},
		{rows + "\x1b[H", command('J'), "···|···|··· 0,0"}, {rows + "\x1b[H", command('J', 1), "·bc|def|ghi 0,0"}, {rows + "\x1b[3;3H", command('J'), "abc|def|gh· 2,2"}, {rows + "\x1b[3;3H", command('J', 1), "···|···|··· 2,2"},
		{"abcdefghi", command('J'), "abc+|def+|gh· 2,2"}, {"abcdefghi", command('J', 1), "···|···|··· 2,2"}, {"abcdefghi\x1b[2;1H", command('J'), "abc+|···|··· 0,1"}, {"abcdefghi\x1b[2;1H", command('J', 1), "···|·ef|ghi 0,1"},
		// The region has no part in it.
		{rows + "\x1b[2;3r", command('J', 2), "···|···|··· 0,0"}, {rows + "\x1b[1;2r\x1b[2;2H", command('J'), "abc|d··|··· 1,1"}, {rows + "\x1b[2;3r\x1b[2;2H", command('J', 1), "···|··f|ghi 1,1"},
	})
	// Blanks look as the style is; none are off.
	for n, want := range [][]string{{"000", "066", "666"}, {"666", "660", "000"}, {"666", "666", "666"}} {
		s := fed(3, 3, rows+"\x1b[35m")
		if off := s.Do(command('J', n)); len(off) > 0 {
			t.Errorf("J %d: %s is off", n, shownAll(off))
		}
		for y, r := range s.Grid().Rows() {
			looks := ""
			for _, c := range r.Cells {
				looks += strconv.Itoa(c.Style)
			}
			if looks != want[y] {
				t.Errorf("J %d, row %d: %s", n, y, looks)
			}
		}
	}
}

// X, @ and P at each column, by each number.
func TestEdit(t *testing.T) {
	const w = 6
	for x := range w {
		for _, c := range counted {
			n := min(c.n, w-x)
			for b, want := range map[byte]string{
				'X': "abcdef"[:x] + strings.Repeat("#", n) + "abcdef"[x+n:],
				'@': "abcdef"[:x] + strings.Repeat("#", n) + "abcdef"[x:w-n],
				'P': "abcdef"[:x] + "abcdef"[x+n:] + strings.Repeat("#", n),
			} {
				s := fed(w, 1, "abcdef\x1b[7m\x1b["+strconv.Itoa(x+1)+"G")
				off := s.Do(command(b, c.nums...))
				if got := told(s); got != want+" "+strconv.Itoa(x)+",0" || len(off) > 0 {
					t.Errorf("%c %d at %d: %s, want %s", b, c.nums, x, got, want)
				}
				for _, cell := range s.Grid().Row(0).Cells {
					if looks := cell.Style; cell.Rune == ' ' && looks != 324 || cell.Rune != ' ' && looks != 0 {
						t.Errorf("%c %d at %d: %+v", b, c.nums, x, cell)
					}
				}
			}
		}
	}
	checkSteps(t, 4, 2, []step{
		{"abcde", command('X', 2), "abcd+|e··· 1,1"}, {"abcde\x1b[1;2H", command('X'), "a·cd|e··· 1,0"}, {"abcde\x1b[1;2H", command('@'), "a·bc|e··· 1,0"}, {"abcde\x1b[1;2H", command('P'), "acd·|e··· 1,0"},
		{zh + zh + "\x1b[1;2H", command('X'), "··中>|···· 1,0"}, {zh + zh + "\x1b[1;2H", command('@'), "····|···· 1,0"}, {zh + zh + "\x1b[1;1H", command('P'), "·中>·|···· 0,0"},
		{"abcd", command('X'), "abc·|···· 3,0"}, {"abcd", command('@'), "abc·|···· 3,0"}, {"abcd", command('P', 3), "abc·|···· 3,0"},
	})
}

// L and M move the rows from the cursor to the region's lowest one, if it is in the region; nothing is off by them.
func TestMoveRows(t *testing.T) {
	rows := "a\r\nb\r\nc\r\nd\r\ne\x1b[2;2H"
	checkSteps(t, 2, 5, []step{
		{rows, command('L'), "a·|··|b·|c·|d· 0,1"}, {rows, command('L', 2), "a·|··|··|b·|c· 0,1"}, {rows, command('L', 4), "a·|··|··|··|·· 0,1"}, {rows, command('L', 5), "a·|··|··|··|·· 0,1"}, {rows, command('L', math.MaxInt), "a·|··|··|··|·· 0,1"},
		{rows, command('L', 0), "a·|··|b·|c·|d· 0,1"}, {rows, command('L', -1), "a·|··|b·|c·|d· 0,1"},
		{rows, command('M'), "a·|c·|d·|e·|·· 0,1"}, {rows, command('M', 2, 9), "a·|d·|e·|··|·· 0,1"}, {rows, command('M', 4), "a·|··|··|··|·· 0,1"}, {rows, command('M', 9999), "a·|··|··|··|·· 0,1"}, {rows, command('M', 0, 3), "a·|c·|d·|e·|·· 0,1"}, {rows, command('M', math.MinInt), "a·|c·|d·|e·|·· 0,1"},
		// From the uppermost row, too: it doesn't go off.
		{rows + "\x1b[H", command('M'), "b·|c·|d·|e·|·· 0,0"}, {rows + "\x1b[H", command('M', 5), "··|··|··|··|·· 0,0"}, {rows + "\x1b[H", command('L', 2), "··|··|a·|b·|c· 0,0"}, {rows + "\x1b[5;2H", command('L', 2), "a·|b·|c·|d·|·· 0,4"}, {rows + "\x1b[5;2H", command('M'), "a·|b·|c·|d·|·· 0,4"},
		// A region: within it, at its ends, and outside of it.
		{rows + "\x1b[2;4r\x1b[3;2H", command('L'), "a·|b·|··|c·|e· 0,2"}, {rows + "\x1b[2;4r\x1b[3;2H", command('M'), "a·|b·|d·|··|e· 0,2"}, {rows + "\x1b[2;4r\x1b[2;2H", command('M', 9), "a·|··|··|··|e· 0,1"}, {rows + "\x1b[2;4r\x1b[2;2H", command('L'), "a·|··|b·|c·|e· 0,1"},
		{rows + "\x1b[2;4r\x1b[4;2H", command('L'), "a·|b·|c·|··|e· 0,3"}, {rows + "\x1b[2;4r\x1b[4;2H", command('M'), "a·|b·|c·|··|e· 0,3"},
		{rows + "\x1b[2;4r\x1b[1;2H", command('L'), "a·|b·|c·|d·|e· 1,0"}, {rows + "\x1b[2;4r\x1b[1;2H", command('M'), "a·|b·|c·|d·|e· 1,0"}, {rows + "\x1b[2;4r\x1b[5;2H", command('L'), "a·|b·|c·|d·|e· 1,4"}, {rows + "\x1b[2;4r\x1b[5;2H", command('M'), "a·|b·|c·|d·|e· 1,4"},
		{rows + "\x1b[1;2r\x1b[1;2H", command('M'), "b·|··|c·|d·|e· 0,0"}, {rows + "\x1b[45m", command('L'), "a·|##|b·|c·|d· 0,1"}, {rows + "\x1b[45m", command('M', 2), "a·|d·|e·|##|## 0,1"},
	})
}

// S and T move the whole region, wherever the cursor is; what S moves is off from the uppermost row alone.
func TestScroll(t *testing.T) {
	rows := "a\r\nb\r\nc\r\nd\x1b[3;2H"
	checkAll(t, []try{
		{2, 4, rows + "\x1b[S", "b·|c·|d·|·· 1,2", "a·"}, {2, 4, rows + "\x1b[0S", "b·|c·|d·|·· 1,2", "a·"}, {2, 4, rows + "\x1b[3S", "d·|··|··|·· 1,2", "a·|b·|c·"}, {2, 4, rows + "\x1b[4S", "··|··|··|·· 1,2", "a·|b·|c·|d·"}, {2, 4, rows + "\x1b[9999S", "··|··|··|·· 1,2", "a·|b·|c·|d·"},
		{2, 4, rows + "\x1b[T", "··|a·|b·|c· 1,2", ""}, {2, 4, rows + "\x1b[0T", "··|a·|b·|c· 1,2", ""}, {2, 4, rows + "\x1b[2T", "··|··|a·|b· 1,2", ""}, {2, 4, rows + "\x1b[9999T", "··|··|··|·· 1,2", ""},
		{2, 4, rows + "\x1b[1;2r\x1b[S", "b·|··|c·|d· 0,0", "a·"}, {2, 4, rows + "\x1b[1;2r\x1b[4;2H\x1b[9S", "··|··|c·|d· 1,3", "a·|b·"}, {2, 4, rows + "\x1b[1;2r\x1b[T", "··|a·|c·|d· 0,0", ""},
		{2, 4, rows + "\x1b[2;3r\x1b[S", "a·|c·|··|d· 0,0", ""}, {2, 4, rows + "\x1b[2;3r\x1b[3S", "a·|··|··|d· 0,0", ""}, {2, 4, rows + "\x1b[2;4r\x1b[4;2H\x1b[2T", "a·|··|··|b· 1,3", ""}, {2, 4, rows + "\x1b[2;4r\x1b[2S", "a·|d·|··|·· 0,0", ""},
		{2, 4, rows + "\x1b[32m\x1b[S", "b·|c·|d·|## 1,2", "a·"}, {2, 4, rows + "\x1b[32m\x1b[2T", "##|##|a·|b· 1,2", ""}, {2, 1, "ab\x1b[S", "·· 1,0", "ab"}, {2, 2, "abc\x1b[2S", "··|·· 1,1", "ab+|c·"},
	})
	for _, n := range []int{math.MinInt, -1, 10000, math.MaxInt} {
		s := fed(2, 4, rows)
		if want := map[bool]string{true: "a·|b·|c·|d·", false: "a·"}[n > 0]; shownAll(s.Do(command('S', n))) != want {
			t.Errorf("S %d: %s", n, told(s))
		}
		s = fed(2, 4, rows)
		if want := map[bool]string{true: "··|··|··|·· 1,2", false: "··|a·|b·|c· 1,2"}[n > 0]; len(s.Do(command('T', n))) > 0 || told(s) != want {
			t.Errorf("T %d: %s", n, told(s))
		}
	}
}

// The region's rows are counted from 1 on; where it would have less than two, the old one stays, and the cursor as well.
func TestRegion(t *testing.T) {
	for _, c := range []struct {
		nums        []int
		done        bool
		top, bottom int
	}{
		{nil, true, 0, 4}, {[]int{0}, true, 0, 4}, {[]int{0, 0}, true, 0, 4}, {[]int{1, 5}, true, 0, 4}, {[]int{2}, true, 1, 4}, {[]int{2, 0}, true, 1, 4}, {[]int{4}, true, 3, 4}, {[]int{0, 3}, true, 0, 2}, {[]int{1, 2}, true, 0, 1}, {[]int{2, 4}, true, 1, 3}, {[]int{2, 4, 1}, true, 1, 3}, {[]int{4, 5}, true, 3, 4},
		// Too great, and below 0.
		{[]int{1, 6}, true, 0, 4}, {[]int{2, 9999}, true, 1, 4}, {[]int{2, 10000}, true, 1, 4}, {[]int{3, math.MaxInt}, true, 2, 4}, {[]int{-1, 3}, true, 0, 2}, {[]int{math.MinInt, 2}, true, 0, 1}, {[]int{2, -1}, true, 1, 4}, {[]int{3, math.MinInt}, true, 2, 4},
		// Equal, the other way round, or so when brought among the rows.
		{[]int{1, 1}, false, 0, 0}, {[]int{0, 1}, false, 0, 0}, {[]int{3, 3}, false, 0, 0}, {[]int{5, 5}, false, 0, 0}, {[]int{5}, false, 0, 0}, {[]int{4, 2}, false, 0, 0}, {[]int{2, 1}, false, 0, 0}, {[]int{6}, false, 0, 0}, {[]int{6, 9}, false, 0, 0}, {[]int{9, 6}, false, 0, 0}, {[]int{math.MaxInt}, false, 0, 0}, {[]int{9999, 0}, false, 0, 0}, {[]int{math.MaxInt, math.MaxInt}, false, 0, 0},
	} {
		s := fed(3, 5, "\x1b[2;3r\x1b[4;2Habcd")
		s.Resize(3, 5)
		feed(s, "\x1b[3;4r\x1b[4;2Hbc")
		if where(s) != "2,3!" {
			t.Fatal(told(s))
		}
		before := shownAll(s.Grid().Rows())
		off := s.Do(command('r', c.nums...))
		top, bottom, at := 2, 3, "2,3!"
		if c.done {
			top, bottom, at = c.top, c.bottom, "0,0"
		}
		if gotTop, gotBottom := s.Region(); gotTop != top || gotBottom != bottom || where(s) != at || shownAll(s.Grid().Rows()) != before || len(off) > 0 {
			t.Errorf("r %d: %d, %d, %s", c.nums, gotTop, gotBottom, told(s))
		}
	}
	// Of one row there is no other one; of two only all.
	for _, nums := range [][]int{nil, {0, 0}, {1, 1}, {1, 2}, {0, 9999}, {-1, -1}} {
		s := fed(2, 1, "ab")
		s.Do(command('r', nums...))
		if top, bottom := s.Region(); top != 0 || bottom != 0 || told(s) != "ab 1,0!" {
			t.Errorf("r %d: %d, %d, %s", nums, top, bottom, told(s))
		}
	}
}

// The style is set by all numbers, as they are; the cursor stays, and waits on.
func TestStyle(t *testing.T) {
	for _, c := range []struct {
		nums []int
		want style.Style
	}{
		{nil, style.Style{}}, {[]int{0}, style.Style{}}, {[]int{4}, style.Style{Fore: 2, Under: true}}, {[]int{1, 32, 47, 7}, style.Style{Fore: 3, Back: 8, Bold: true, Inverse: true}}, {[]int{0, 1}, style.Style{Bold: true}},
		{[]int{1, 0}, style.Style{}}, {[]int{-1}, style.Style{Fore: 2}}, {[]int{math.MinInt, math.MaxInt, 1}, style.Style{Fore: 2, Bold: true}}, {[]int{38, 5, 0}, style.Style{Fore: 2}}, {[]int{9999, 10000}, style.Style{Fore: 2}}, {append(make([]int, 20), 44), style.Style{Back: 5}},
	} {
		s := fed(3, 2, "abc\x1b[31m")
		if off := s.Do(command('m', c.nums...)); s.Style() != c.want || len(off) > 0 || told(s) != "abc|··· 2,0!" {
			t.Errorf("%d: %+v, %s", c.nums, s.Style(), told(s))
		}
		// Private, it is none.
		s.Do(private('m', 1, 33))
		if s.Style() != c.want {
			t.Errorf("%d, private: %+v", c.nums, s.Style())
		}
	}
}

// Private ones are others than those of the same byte.
func TestPrivate(t *testing.T) {
	for _, b := range []byte(knownCommands) {
		s := fed(4, 4, "\x1b[2;3r\x1b[2;2Hab\x1b[4;31m\x1b[3;4Hx")
		before := hidden(s)
		for _, nums := range [][]int{nil, {0}, {1}, {2}, {7}, {1, 2}} {
			if off := s.Do(private(b, nums...)); len(off) > 0 || hidden(s) != before {
				t.Errorf("%c %d: %s", b, nums, told(s))
			}
		}
	}
}

// Numbers beyond the second one count for m alone; those that are handed in stay as they were.
func TestNumsStay(t *testing.T) {
	for _, b := range []byte(knownCommands) {
		nums := []int{-3, math.MaxInt, 77, 5, 6}
		given := nums[:3]
		s, q := fed(4, 4, "abc"), fed(4, 4, "abc")
		s.Do(seq.Action{Kind: seq.Command, Byte: b, Nums: given})
		q.Do(command(b, -3, math.MaxInt))
		if !slices.Equal(nums, []int{-3, math.MaxInt, 77, 5, 6}) || state(s) != state(q) {
			t.Errorf("%c: %d, %s, want %s", b, nums, state(s), state(q))
		}
		before := state(s)
		for i := range nums {
			nums[i] = 1
		}
		if state(s) != before {
			t.Errorf("%c: its numbers are kept", b)
		}
	}
}

func TestResize(t *testing.T) {
	rows := "ab\r\ncd\r\nef\r\ngh"
	for _, c := range []struct {
		text      string
		w, h      int
		want, off string
	}{
		{rows, 3, 4, "ab·|cd·|ef·|gh· 2,3", ""}, {rows, 3, 6, "ab·|cd·|ef·|gh·|···|··· 2,3", ""}, {rows, 5, 4, "ab···|cd···|ef···|gh··· 2,3", ""}, {rows, 2, 4, "ab|cd|ef|gh 1,3", ""}, {rows, 1, 4, "a|c|e|g 0,3", ""},
		// The cursor below the new last row, at it, and above.
		{rows, 3, 3, "cd·|ef·|gh· 2,2", "ab·"}, {rows, 3, 2, "ef·|gh· 2,1", "ab·|cd·"}, {rows, 3, 1, "gh· 2,0", "ab·|cd·|ef·"}, {rows, 2, 2, "ef|gh 1,1", "ab·|cd·"}, {rows, 4, 1, "gh·· 2,0", "ab·|cd·|ef·"},
		{rows + "\x1b[3;2H", 3, 2, "cd·|ef· 1,1", "ab·"}, {rows + "\x1b[3;2H", 3, 3, "ab·|cd·|ef· 1,2", ""}, {rows + "\x1b[2;2H", 3, 2, "ab·|cd· 1,1", ""}, {rows + "\x1b[2;2H", 3, 3, "ab·|cd·|ef· 1,1", ""}, {rows + "\x1b[2;2H", 3, 1, "cd· 1,0", "ab·"}, {rows + "\x1b[H", 3, 1, "ab· 0,0", ""}, {rows + "\x1b[H", 3, 2, "ab·|cd· 0,0", ""},
		// Sizes that count as the nearest.
		{rows, 0, 0, "g 0,0", "ab·|cd·|ef·"}, {rows, math.MinInt, math.MinInt, "g 0,0", "ab·|cd·|ef·"}, {rows + "\x1b[2;1H", -1, -1, "c 0,0", "ab·"}, {rows + "\x1b[H", 1, math.MinInt, "a 0,0", ""},
		// Waiting it isn't; rows go on only as wide as they were.
		{"abc", 3, 4, "abc|···|···|··· 2,0", ""}, {"abc", 4, 4, "abc·|····|····|···· 2,0", ""}, {"abcd", 3, 4, "abc+|d··|···|··· 1,1", ""}, {"abcd", 4, 4, "abc·|d···|····|···· 1,1", ""}, {"abcd", 2, 4, "ab|d·|··|·· 1,1", ""}, {"abcdefghijkl", 4, 3, "def·|ghi·|jkl· 2,2", "abc+"},
		{"a" + zh, 2, 4, "a·|··|··|·· 1,0", ""}, {"ab" + zh, 4, 4, "ab··|中>··|····|···· 2,1", ""},
	} {
		s := fed(3, 4, c.text)
		off := s.Resize(c.w, c.h)
		if got := told(s); got != c.want || shownAll(off) != c.off {
			t.Errorf("%q to %d, %d: %s, want %s; %s is off, want %s", c.text, c.w, c.h, got, c.want, shownAll(off), c.off)
		}
	}
	s := fed(2, 2, "ab\r\nc")
	if off := s.Resize(math.MaxInt, math.MaxInt); len(off) > 0 || where(s) != "1,1" {
		t.Errorf("%s, %d are off", where(s), len(off))
	}
	if w, h := s.Grid().Size(); w != 1000 || h != 1000 {
		t.Errorf("%d, %d", w, h)
	}
	feed(s, "\x1b[9999;9999Hx")
	if off := s.Resize(2000, 1001); len(off) > 0 || where(s) != "999,999" {
		t.Errorf("%s, %d are off", where(s), len(off))
	}
	if off := s.Resize(999, 999); len(off) != 1 || shown(off[0].Resize(3)) != "ab·" || len(off[0].Cells) != 1000 || where(s) != "998,998" {
		t.Errorf("%s, %d are off", where(s), len(off))
	}
}

// The region is all rows behind a Resize, to the same size too; whatever it was, rows go off. All else stays.
func TestResizeKeeps(t *testing.T) {
	text := "\x1b]0;title\a\x1b[1;35ma\r\nb\r\nc\r\nd" + off7 + "\x1b[3;3H\x1b7\x1b[2;3r\x1b[4;2H"
	for h, want := range map[int]string{4: "", 3: "a··", 2: "a··|b··", 9: ""} {
		s := fed(3, 4, text)
		off := s.Resize(3, h)
		top, bottom := s.Region()
		if shownAll(off) != want || top != 0 || bottom != h-1 || s.Title() != "title" || s.Style() != (style.Style{Fore: 6, Bold: true}) {
			t.Errorf("%d: %s is off, region %d %d, %q, %+v", h, shownAll(off), top, bottom, s.Title(), s.Style())
		}
		for _, r := range s.Grid().Rows()[min(h, 4):] {
			if !r.Same(row.Blank(3, 0)) {
				t.Errorf("%d: %s", h, shown(r))
			}
		}
		feed(s, "\rxyzz\x1b[m\x1b[H\x1b8")
		if x, y := s.Cursor(); x != 2 || y != min(2, h-1) || s.Style() != (style.Style{Fore: 6, Bold: true}) || !strings.HasPrefix(s.Grid().Text()[min(3, h-1)], "xyz") {
			t.Errorf("%d: %s", h, told(s))
		}
	}
}
