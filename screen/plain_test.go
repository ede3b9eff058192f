package screen

import (
	"math"
	"math/rand"
	"slices"
	"strconv"
	"strings"
	"testing"

	"tidewrack/row"
	"tidewrack/seq"
	"tidewrack/style"
	"tidewrack/wide"
)

// plain is a second reading of the chapter: rows in a list, and each action told by itself.
type plain struct {
	rows           []row.Row
	w, h, x, y     int
	st             style.Style
	waits, wraps   bool
	top, bottom    int
	title          string
	hasSaved       bool
	savedX, savedY int
	savedStyle     style.Style
	off            []row.Row
}

func plainNew(w, h int) *plain {
	p := &plain{w: w, h: h, wraps: true, bottom: h - 1}
	for range h {
		p.rows = append(p.rows, row.Blank(w, 0))
	}
	return p
}

func (p *plain) clone() *plain {
	q := *p
	q.rows, q.off = slices.Clone(p.rows), nil
	return &q
}

// among brings the cursor back.
func (p *plain) among() {
	for p.x > p.w-1 {
		p.x = p.w - 1
	}
	for p.y > p.h-1 {
		p.y = p.h - 1
	}
	if p.x < 0 {
		p.x = 0
	}
	if p.y < 0 {
		p.y = 0
	}
}

// rise: one row goes at top, and a new one comes at bottom.
func (p *plain) rise(top, bottom int) row.Row {
	went := p.rows[top]
	p.rows = slices.Insert(slices.Delete(p.rows, top, top+1), bottom, row.Blank(p.w, p.st.Num()))
	return went
}

func (p *plain) sink(top, bottom int) {
	p.rows = slices.Insert(slices.Delete(p.rows, bottom, bottom+1), top, row.Blank(p.w, p.st.Num()))
}

func (p *plain) riseOff() {
	if went := p.rise(p.top, p.bottom); p.top == 0 {
		p.off = append(p.off, went)
	}
}

func (p *plain) line() {
	p.waits = false
	if p.y == p.bottom {
		p.riseOff()
	} else if p.y != p.h-1 {
		p.y++
	}
}

func (p *plain) print(x rune) {
	n := wide.Of(x)
	if n == 0 || n > p.w {
		return
	}
	if p.waits && p.wraps {
		p.rows[p.y].Wrapped = true
		p.x = 0
		p.line()
	}
	if n == 2 && p.x == p.w-1 && p.wraps {
		p.rows[p.y] = p.rows[p.y].Fill(p.st.Num())
		p.x = 0
		p.line()
	} else if n == 2 && p.x == p.w-1 {
		p.x--
	}
	p.rows[p.y] = p.rows[p.y].Put(p.x, x, p.st.Num())
	p.x += n
	p.waits = false
	if p.x == p.w {
		p.waits, p.x = true, p.w-1
	}
}

func (p *plain) control(b byte) {
	switch {
	case b == 8:
		if p.x != 0 {
			p.x--
		}
	case b == 9:
		for p.x++; p.x%8 != 0; p.x++ {
		}
		p.among()
	case b >= 10 && b <= 12:
		p.line()
	case b == 13:
		p.x = 0
	default:
		return
	}
	p.waits = false
}

func (p *plain) escape(b byte) {
	switch b {
	case 'D':
		p.line()
	case 'E':
		p.x = 0
		p.line()
	case 'M':
		p.waits = false
		if p.y == p.top {
			p.sink(p.top, p.bottom)
		} else if p.y != 0 {
			p.y--
		}
	case '7':
		p.hasSaved, p.savedX, p.savedY, p.savedStyle = true, p.x, p.y, p.st
	case '8':
		p.x, p.y, p.st = 0, 0, style.Style{}
		if p.hasSaved {
			p.x, p.y, p.st = p.savedX, p.savedY, p.savedStyle
		}
		p.among()
		p.waits = false
	case 'c':
		*p = *plainNew(p.w, p.h)
	}
}

// num is the i-th number; none is what one that isn't there, or is 0, counts as.
func num(nums []int, i, none int) int {
	n := 0
	if len(nums) > i {
		n = nums[i]
	}
	switch {
	case n <= 0:
		return none
	case n > 9999:
		return 9999
	}
	return n
}

// erase makes blanks where at says so.
func (p *plain) erase(at func(x, y int) bool) {
	for y := range p.rows {
		for x := 0; x < p.w; x++ {
			if at(x, y) {
				to := x
				for to < p.w && at(to, y) {
					to++
				}
				p.rows[y] = p.rows[y].Erase(x, to, p.st.Num())
				x = to
			}
		}
	}
}

// eraser tells which cells J and K erase: none, where it isn't told.
func (p *plain) eraser(b byte, n int) func(x, y int) bool {
	px, py := p.x, p.y
	return map[string]func(x, y int) bool{
		"J0": func(x, y int) bool { return y > py || y == py && x >= px },
		"J1": func(x, y int) bool { return y < py || y == py && x <= px },
		"J2": func(x, y int) bool { return true },
		"K0": func(x, y int) bool { return y == py && x >= px },
		"K1": func(x, y int) bool { return y == py && x <= px },
		"K2": func(x, y int) bool { return y == py },
	}[string([]byte{b})+strconv.Itoa(n)]
}

func (p *plain) command(b byte, nums []int) {
	n, m, st := num(nums, 0, 1), num(nums, 1, 1), p.st.Num()
	switch b {
	case 'A', 'F':
		for floor := map[bool]int{true: p.top}[p.y >= p.top]; n > 0 && p.y > floor; n-- {
			p.y--
		}
	case 'B', 'E':
		for ceiling := map[bool]int{true: p.bottom, false: p.h - 1}[p.y <= p.bottom]; n > 0 && p.y < ceiling; n-- {
			p.y++
		}
	case 'C':
		p.x += n
	case 'D':
		p.x -= n
	case 'G':
		p.x = n - 1
	case 'd':
		p.y = n - 1
	case 'H', 'f':
		p.y, p.x = n-1, m-1
	case 'J', 'K':
		at := p.eraser(b, num(nums, 0, 0))
		if at == nil {
			return
		}
		p.erase(at)
	case 'X':
		p.rows[p.y] = p.rows[p.y].Erase(p.x, p.x+n, st)
	case '@':
		p.rows[p.y] = p.rows[p.y].Insert(p.x, n, st)
	case 'P':
		p.rows[p.y] = p.rows[p.y].Delete(p.x, n, st)
	case 'L', 'M', 'S', 'T':
		if !p.many(b, n) {
			return
		}
	case 'm':
		p.st = p.st.Set(nums...)
		return
	case 'r':
		from, to := min(n, p.h), min(num(nums, 1, p.h), p.h)
		if from >= to {
			return
		}
		p.top, p.bottom, p.x, p.y = from-1, to-1, 0, 0
	default:
		return
	}
	if b == 'E' || b == 'F' {
		p.x = 0
	}
	p.among()
	p.waits = false
}

// many moves rows n times, or as often as there is something to move.
func (p *plain) many(b byte, n int) bool {
	if (b == 'L' || b == 'M') && (p.y < p.top || p.y > p.bottom) {
		return false
	}
	from := map[bool]int{true: p.y, false: p.top}[b == 'L' || b == 'M']
	for range min(n, p.bottom-from+1) {
		switch b {
		case 'L':
			p.sink(p.y, p.bottom)
		case 'M':
			p.rise(p.y, p.bottom)
		case 'S':
			p.riseOff()
		case 'T':
			p.sink(p.top, p.bottom)
		}
	}
	if b == 'L' || b == 'M' {
		p.x = 0
	}
	return true
}

func (p *plain) do(a seq.Action) []row.Row {
	p.off = nil
	switch {
	case a.Kind == 1:
		p.print(a.Rune)
	case a.Kind == 2:
		p.control(a.Byte)
	case a.Kind == 3:
		p.escape(a.Byte)
	case a.Kind == 4 && a.Private:
		if num(a.Nums, 0, 0) == 7 && (a.Byte == 'h' || a.Byte == 'l') {
			p.wraps = a.Byte == 'h'
		}
	case a.Kind == 4:
		p.command(a.Byte, a.Nums)
	case a.Kind == 5:
		p.title = a.Text
	}
	return p.off
}

func (p *plain) resize(w, h int) []row.Row {
	w, h = max(1, min(w, 1000)), max(1, min(h, 1000))
	var off []row.Row
	for p.y > h-1 {
		off = append(off, p.rows[0])
		p.rows = p.rows[1:]
		p.y--
	}
	for len(p.rows) < h {
		p.rows = append(p.rows, row.Blank(w, 0))
	}
	rows := p.rows[:h]
	p.rows = nil
	for _, r := range rows {
		p.rows = append(p.rows, r.Resize(w))
	}
	p.w, p.h, p.top, p.bottom, p.waits = w, h, 0, h-1, false
	p.among()
	return off
}

func alike(a, b []row.Row) bool {
	return slices.EqualFunc(a, b, func(x, y row.Row) bool { return x.Wrapped == y.Wrapped && slices.Equal(x.Cells, y.Cells) })
}

// check: the screen tells all as the second reading does.
func (p *plain) check(t *testing.T, what string, s *Screen) {
	t.Helper()
	x, y := s.Cursor()
	top, bottom := s.Region()
	if x != p.x || y != p.y || s.Waiting() != p.waits || s.Style() != p.st || s.Title() != p.title || top != p.top || bottom != p.bottom {
		t.Fatalf("%s: %s, %+v, %q, region %d %d, want %+v", what, where(s), s.Style(), s.Title(), top, bottom, p)
	}
	if got := s.Grid().Rows(); !alike(got, p.rows) {
		t.Fatalf("%s: %s, want %s", what, shownAll(got), shownAll(p.rows))
	}
}

// whole: the cursor is within the screen, the region is one, each row has as many cells as there are columns, and no half of a rune is alone.
func whole(t *testing.T, what string, s *Screen) {
	t.Helper()
	w, h := s.Grid().Size()
	x, y := s.Cursor()
	top, bottom := s.Region()
	if x < 0 || x >= w || y < 0 || y >= h || s.Waiting() && x != w-1 {
		t.Fatalf("%s: the cursor is at %s of %d, %d", what, where(s), w, h)
	}
	if top < 0 || bottom >= h || top > bottom || top == bottom && h > 1 {
		t.Fatalf("%s: the region is %d, %d of %d", what, top, bottom, h)
	}
	rows := s.Grid().Rows()
	if len(rows) != h {
		t.Fatalf("%s: %d rows of %d", what, len(rows), h)
	}
	for _, r := range rows {
		if len(r.Cells) != w {
			t.Fatalf("%s: %d cells of %d", what, len(r.Cells), w)
		}
		for i, c := range r.Cells {
			if c.Part == row.Right && (i == 0 || r.Cells[i-1].Part != row.Left) || c.Part == row.Left && (i == w-1 || r.Cells[i+1].Part != row.Right) || c.Part == row.Filler && i < w-1 {
				t.Fatalf("%s: %s", what, shown(r))
			}
		}
	}
}

// someNum is a number of a command: mostly one that a small screen has, now and then any.
func someNum(random *rand.Rand) int {
	edges := []int{0, 0, -1, 7, 9998, 9999, 10000, math.MinInt, math.MaxInt}
	if random.Intn(4) == 0 {
		return edges[random.Intn(len(edges))]
	}
	return random.Intn(8)
}

func someAction(random *rand.Rand) seq.Action {
	a := seq.Action{Kind: 1 + random.Intn(4)}
	switch random.Intn(40) {
	case 0:
		a.Kind = random.Intn(9) - 2
		a.Text = strconv.Itoa(random.Intn(9))
	case 1, 2, 3, 4, 5, 6, 7, 8, 9, 10:
		a.Kind = seq.Print
	}
	runes := []rune("abcdefg \u4e2d\u6587\u3042\u0301\uff01\u200b\U0001f300")
	a.Rune = runes[random.Intn(len(runes))]
	bytes := map[int]string{seq.Control: knownControls, seq.Escape: knownEscapes + "7788DEM", seq.Command: knownCommands + "hlmmr"}[a.Kind]
	if bytes != "" {
		a.Byte = bytes[random.Intn(len(bytes))]
	}
	if random.Intn(60) == 0 {
		a.Byte = byte(random.Intn(256))
	}
	if a.Kind == seq.Escape && a.Byte == 'c' && random.Intn(4) > 0 {
		a.Byte = 'D'
	}
	a.Private = a.Byte == 'h' || a.Byte == 'l' || random.Intn(30) == 0
	for range random.Intn(4) {
		a.Nums = append(a.Nums, someNum(random))
	}
	if a.Byte == 'm' && random.Intn(2) == 0 {
		a.Nums = append(a.Nums, 30+random.Intn(20), []int{1, 4, 7, 22, 24, 27}[random.Intn(6)])
	}
	if (a.Byte == 'h' || a.Byte == 'l') && random.Intn(3) > 0 {
		a.Nums = []int{7}
	}
	return a
}

// P11.1, P11.2: behind any actions the screen, and clones of it, each tell what the second reading does.
func TestAnyActions(t *testing.T) {
	random := rand.New(rand.NewSource(22))
	for range 1200 {
		w, h := 1+random.Intn(7), 1+random.Intn(6)
		screens, plains := []*Screen{New(w, h)}, []*plain{plainNew(w, h)}
		for range 120 {
			i := random.Intn(len(screens))
			s, p := screens[i], plains[i]
			var off, want []row.Row
			what := ""
			switch random.Intn(40) {
			case 0:
				w, h := random.Intn(9)-1, random.Intn(8)-1
				off, want = s.Resize(w, h), p.resize(w, h)
				what = "to " + strconv.Itoa(w) + ", " + strconv.Itoa(h)
			case 1:
				if len(screens) < 4 {
					screens, plains = append(screens, s.Clone()), append(plains, p.clone())
				}
			default:
				a := someAction(random)
				off, want = s.Do(a), p.do(a)
				what = strconv.Itoa(a.Kind) + " " + strconv.QuoteRune(rune(a.Byte)) + " " + strconv.QuoteRune(a.Rune)
			}
			if !alike(off, want) {
				t.Fatalf("%s: %s is off, want %s", what, shownAll(off), shownAll(want))
			}
			for k, other := range screens {
				plains[k].check(t, what, other)
				whole(t, what, other)
			}
		}
	}
}

// P11.1, P11.2: of any bytes, through the parser, on screens of any size.
func TestAnyBytes(t *testing.T) {
	random := rand.New(rand.NewSource(23))
	pieces := []string{"\x1b[", "\x1b]0;", "\a", "\x1b", ";", "?", "7", "1", "2", "12", "99999", "\r\n", "\n", "\t", "\b", "h", "l", "r", "H", "J", "K", "L", "M", "S", "T", "@", "P", "X", "m", "A", "B", "D", "E", "c", "8", "\u4e2d", "abc", "\xe4", "\u0301", "\x9b"}
	for range 300 {
		w, h := 1+random.Intn(12), 1+random.Intn(8)
		s, p := New(w, h), plainNew(w, h)
		var parser seq.Parser
		var text strings.Builder
		for range 300 {
			text.WriteString(pieces[random.Intn(len(pieces))])
			if random.Intn(20) == 0 {
				text.WriteByte(byte(random.Intn(256)))
			}
		}
		for _, a := range parser.Feed(text.String()) {
			if off, want := s.Do(a), p.do(a); !alike(off, want) {
				t.Fatalf("%+v: %s is off, want %s", a, shownAll(off), shownAll(want))
			}
		}
		p.check(t, text.String(), s)
		whole(t, text.String(), s)
	}
}

// spoil changes all there is of rows, their spare room too.
func spoil(rows []row.Row) {
	for i := range rows {
		l := rows[i].Cells[:cap(rows[i].Cells)]
		for k := range l {
			l[k] = row.Cell{Rune: '!', Style: 77}
		}
		rows[i] = row.Row{Wrapped: true}
	}
	rows = rows[:cap(rows)]
	for i := range rows {
		rows[i] = row.Row{Wrapped: true}
	}
}

// What goes off, and what is told, shares no memory with the screen, nor with its clones.
func TestMemory(t *testing.T) {
	text := "\x1b[1mabc\r\nde\u4e2d\r\nfghi"
	for _, call := range []func(s *Screen) []row.Row{
		func(s *Screen) []row.Row { return s.Grid().Rows() },
		func(s *Screen) []row.Row { return feed(s, "\x1b[2S") },
		func(s *Screen) []row.Row { return feed(s, "\n\n") },
		func(s *Screen) []row.Row { return feed(s, "\x1b[9S\x1b[2S") },
		func(s *Screen) []row.Row { return feed(s, "jklmn\u4e2d\u4e2d") },
		func(s *Screen) []row.Row { return s.Resize(3, 1) },
		func(s *Screen) []row.Row { g := s.Grid(); return g.Up(0, 9, 9, 0) },
	} {
		s := fed(4, 3, text)
		c := s.Clone()
		before := state(c)
		rows := call(s)
		if len(rows) == 0 {
			t.Fatal("no rows")
		}
		after := state(s)
		spoil(rows)
		if state(s) != after || state(c) != before {
			t.Errorf("%s, want %s; its clone: %s, want %s", state(s), after, state(c), before)
		}
	}
	// A grid that was told goes its own way, whichever of both is changed.
	s := fed(4, 3, text)
	before := state(s)
	g, h := s.Grid(), s.Grid()
	g.Set(0, row.Blank(4, 5))
	g.Up(0, 2, 1, 0)
	g.Resize(2, 2, 1)
	if state(s) != before || !h.Same(s.Grid()) {
		t.Errorf("%s, want %s", state(s), before)
	}
	rows := shownAll(h.Rows())
	feed(s, "\x1b[2Jxyz\n\n\x1bc")
	s.Resize(9, 9)
	if shownAll(h.Rows()) != rows {
		t.Errorf("%s, want %s", shownAll(h.Rows()), rows)
	}
}

// A Clone is like it in all there is, and goes its own way, whichever of both is changed.
func TestClone(t *testing.T) {
	start := "\x1b]0;t\a\x1b[1;31mabcdefgh\x1b[2;3H\x1b7\x1b[4m\x1b[2;3r\x1b[3;4Hz" + off7
	for _, change := range []string{"x", "\n", "\x1bM", "\x1b[H", "\x1b[2J", "\x1b[S", "\x1b[m", "\x1b[r", "\x1b]0;u\a", "\x1b7\x1b[H\x1b8", on7 + "yyy", "\x1bc"} {
		s := fed(4, 3, start)
		before := hidden(s)
		c := s.Clone()
		if hidden(c) != before {
			t.Fatalf("%s, want %s", hidden(c), before)
		}
		feed(s, change)
		if hidden(c) != before || hidden(s) == before {
			t.Errorf("%q: the clone: %s; it: %s, was %s", change, hidden(c), hidden(s), before)
		}
		s, c = c, s
		feed(s, change)
		if hidden(s) != hidden(c) {
			t.Errorf("%q, behind it: %s, want %s", change, hidden(s), hidden(c))
		}
	}
	s := fed(4, 3, start)
	before := hidden(s)
	c := s.Clone()
	s.Resize(2, 2)
	if hidden(c) != before {
		t.Errorf("%s, want %s", hidden(c), before)
	}
	d := c.Clone()
	c.Resize(5, 1)
	if hidden(d) != before {
		t.Errorf("%s, want %s", hidden(d), before)
	}
}
