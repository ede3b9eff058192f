package fetch

import (
	"fmt"
	"math"
	"slices"
	"strings"
	"testing"

	"tidewrack/spans"
)

const end = 1 << 60

// text is spans in short.
func text(l []spans.Span) string {
	if len(l) == 0 {
		return "none"
	}
	var parts []string
	for _, x := range l {
		parts = append(parts, fmt.Sprint(x.From, "-", x.To))
	}
	return strings.Join(parts, " ")
}

// list is spans of numbers in pairs.
func list(nums ...int) []spans.Span {
	var l []spans.Span
	for i := 0; i < len(nums); i += 2 {
		l = append(l, spans.Span{From: nums[i], To: nums[i+1]})
	}
	return l
}

// want is Want, whose answer must be this, behind which these are wanted.
func want(t *testing.T, f *Fetch, from, to int, n int, wanted string, have ...int) {
	t.Helper()
	if got := f.Want(spans.Span{From: from, To: to}, list(have...)...); got != n || text(f.Wanted()) != wanted {
		t.Errorf("Want %d %d without %d: %d, %s, want %d, %s", from, to, have, got, text(f.Wanted()), n, wanted)
	}
}

// ask is Ask, whose answer must be this, and which changes nothing that is wanted.
func ask(t *testing.T, f *Fetch, now, length int, asked string) {
	t.Helper()
	was := text(f.Wanted())
	if got := text(f.Ask(now, length)); got != asked || text(f.Wanted()) != was {
		t.Errorf("Ask at %d, below %d: %s, want %s; %s, was %s", now, length, got, asked, text(f.Wanted()), was)
	}
}

// The chapter's example.
func TestExample(t *testing.T) {
	f := New(5, 9)
	want(t, f, 3, 20, 5, "3-8")
	ask(t, f, 0, 6, "3-6")
	ask(t, f, 8, 6, "none")
	ask(t, f, 9, 6, "3-6")
}

// Both parts of New, below, at and above their bounds.
func TestNew(t *testing.T) {
	for _, c := range []struct{ most, every, mostCounts, everyCounts int }{
		{1, 1, 1, 1}, {2, 2, 2, 2}, {1 << 16, 1 << 20, 1 << 16, 1 << 20}, {1<<16 - 1, 1<<20 - 1, 1<<16 - 1, 1<<20 - 1}, {100, 9, 100, 9},
		{0, 5, 1, 5}, {-1, 5, 1, 5}, {1<<16 + 1, 5, 1 << 16, 5}, {5, 0, 5, 1}, {5, -1, 5, 1}, {5, 1<<20 + 1, 5, 1 << 20},
		{math.MinInt, math.MinInt, 1, 1}, {math.MaxInt, math.MaxInt, 1 << 16, 1 << 20}, {1 << 32, 1 << 32, 1 << 16, 1 << 20},
	} {
		f := New(c.most, c.every)
		if len(f.Wanted()) > 0 || len(f.Ask(0, 10)) > 0 || f.Got(0) {
			t.Errorf("%v: %s are wanted", c, text(f.Wanted()))
		}
		all := fmt.Sprint("7-", 7+c.mostCounts)
		want(t, f, 7, math.MaxInt, c.mostCounts, all)
		ask(t, f, 3, end, all)
		ask(t, f, 3+c.everyCounts-1, end, "none")
		ask(t, f, 3+c.everyCounts, end, all)
	}
}

func TestWant(t *testing.T) {
	for _, c := range []struct {
		what           string
		most, from, to int
		n              int
		wanted         string
		have           []int
	}{
		{what: "all of it", most: 5, from: 3, to: 8, n: 5, wanted: "3-8"},
		{what: "fewer than may be", most: 5, from: 3, to: 7, n: 4, wanted: "3-7"},
		{what: "more than may be", most: 5, from: 3, to: 9, n: 5, wanted: "3-8"},
		{what: "far more", most: 5, from: 3, to: math.MaxInt, n: 5, wanted: "3-8"},
		{what: "one", most: 1, from: 3, to: 9, n: 1, wanted: "3-4"},
		{what: "from 0", most: 5, from: 0, to: 2, n: 2, wanted: "0-2"},
		{what: "empty", most: 5, from: 3, to: 3, wanted: "none"},
		{what: "empty, at 0", most: 5, from: 0, to: 0, wanted: "none"},
		{what: "turned round", most: 5, from: 4, to: 3, wanted: "none"},
		{what: "turned round, as far as can be", most: 5, from: math.MaxInt, to: math.MinInt, wanted: "none"},
		{what: "from below 0", most: 5, from: -2, to: 3, n: 3, wanted: "0-3"},
		{what: "from below 0, more than may be", most: 5, from: -2, to: 9, n: 5, wanted: "0-5"},
		{what: "from far below", most: 5, from: math.MinInt, to: 9, n: 5, wanted: "0-5"},
		{what: "all of it", most: 5, from: math.MinInt, to: math.MaxInt, n: 5, wanted: "0-5"},
		{what: "below 0", most: 5, from: -9, to: -2, wanted: "none"},
		{what: "up to 0", most: 5, from: -9, to: 0, wanted: "none"},
		{what: "up to 1", most: 5, from: -9, to: 1, n: 1, wanted: "0-1"},
		{what: "up to the end", most: 5, from: end - 3, to: end, n: 3, wanted: fmt.Sprint(end-3, "-", end)},
		{what: "beyond the end", most: 5, from: end - 3, to: end + 2, n: 3, wanted: fmt.Sprint(end-3, "-", end)},
		{what: "far beyond the end", most: 1 << 16, from: end - 3, to: math.MaxInt, n: 3, wanted: fmt.Sprint(end-3, "-", end)},
		{what: "the last one", most: 5, from: end - 1, to: end, n: 1, wanted: fmt.Sprint(end-1, "-", end)},
		{what: "at the end", most: 5, from: end, to: end + 5, wanted: "none"},
		{what: "behind the end", most: 5, from: end + 1, to: math.MaxInt, wanted: "none"},
		{what: "the greatest numbers", most: 5, from: math.MaxInt - 1, to: math.MaxInt, wanted: "none"},

		{what: "had at its head", most: 5, from: 3, to: 20, have: []int{3, 5}, n: 3, wanted: "5-8"},
		{what: "had ahead of it, and at its head", most: 5, from: 3, to: 20, have: []int{-7, 5}, n: 3, wanted: "5-8"},
		{what: "had inside", most: 5, from: 3, to: 20, have: []int{4, 7}, n: 2, wanted: "3-4 7-8"},
		{what: "had at its end", most: 5, from: 3, to: 8, have: []int{6, 8}, n: 3, wanted: "3-6"},
		{what: "had at the end of those that may be", most: 5, from: 3, to: 20, have: []int{6, 12}, n: 3, wanted: "3-6"},
		{what: "all had", most: 5, from: 3, to: 8, have: []int{3, 8}, wanted: "none"},
		{what: "all that may be had", most: 5, from: 3, to: 20, have: []int{3, 8}, wanted: "none"},
		{what: "far more had", most: 5, from: 3, to: 20, have: []int{math.MinInt, math.MaxInt}, wanted: "none"},
		{what: "had ahead of it", most: 5, from: 3, to: 20, have: []int{0, 3}, n: 5, wanted: "3-8"},
		{what: "had behind it", most: 5, from: 3, to: 20, have: []int{8, 20}, n: 5, wanted: "3-8"},
		{what: "had in many places", most: 9, from: 0, to: 9, have: []int{0, 1, 2, 3, 4, 5, 8, 9}, n: 5, wanted: "1-2 3-4 5-8"},
		{what: "had in places that fall, and lap over", most: 9, from: 0, to: 9, have: []int{7, 12, 3, 5, 4, 6, 4, 5}, n: 4, wanted: "0-3 6-7"},
		{what: "had in empty spans", most: 5, from: 3, to: 20, have: []int{4, 4, 6, 5, 7, -7}, n: 5, wanted: "3-8"},
		{what: "empty, with some that are had", most: 5, from: 3, to: 3, have: []int{3, 4}, wanted: "none"},
		{what: "had at the end of all", most: 5, from: end - 3, to: math.MaxInt, have: []int{end - 1, math.MaxInt}, n: 2, wanted: fmt.Sprint(end-3, "-", end-1)},
		{what: "had from below 0", most: 5, from: -5, to: 20, have: []int{-5, 2}, n: 3, wanted: "2-5"},
	} {
		f := New(c.most, 9)
		want(t, f, c.from, c.to, c.n, c.wanted, c.have...)
		// Behind another one nothing of it is left.
		want(t, f, 100, 200, min(c.most, 100), fmt.Sprint("100-", 100+min(c.most, 100)))
		want(t, f, c.from, c.to, c.n, c.wanted, c.have...)
		ask(t, f, 0, math.MaxInt, c.wanted)
	}
}

func TestGot(t *testing.T) {
	f := New(5, 9)
	if f.Got(0) {
		t.Error("of a new one")
	}
	want(t, f, 3, 8, 5, "3-8")
	for _, c := range []struct {
		i    int
		ok   bool
		then string
	}{
		{2, false, "3-8"}, {8, false, "3-8"}, {0, false, "3-8"}, {-1, false, "3-8"}, {math.MinInt, false, "3-8"}, {math.MaxInt, false, "3-8"}, {end, false, "3-8"},
		{5, true, "3-5 6-8"}, {5, false, "3-5 6-8"}, {3, true, "4-5 6-8"}, {7, true, "4-5 6-7"}, {7, false, "4-5 6-7"}, {4, true, "6-7"}, {6, true, "none"}, {6, false, "none"}, {3, false, "none"},
	} {
		if got := f.Got(c.i); got != c.ok || text(f.Wanted()) != c.then {
			t.Errorf("%d: %t, %s, want %t, %s", c.i, got, text(f.Wanted()), c.ok, c.then)
		}
	}
	ask(t, f, 0, 9, "none")
	// What came may be wanted again; the last one of all may come.
	want(t, f, 3, 8, 5, "3-8")
	want(t, f, end-2, end, 2, fmt.Sprint(end-2, "-", end))
	if f.Got(end) || f.Got(math.MaxInt) || !f.Got(end-1) || f.Got(end-1) || text(f.Wanted()) != fmt.Sprint(end-2, "-", end-1) {
		t.Errorf("the last one: %s", text(f.Wanted()))
	}
}

// When it is time.
func TestAskTime(t *testing.T) {
	f := New(5, 9)
	want(t, f, 3, 8, 5, "3-8")
	// The first time it is, at whatever tick.
	ask(t, f, 100, 9, "3-8")
	for _, now := range []int{100, 101, 108, 0, -1, math.MinInt} {
		ask(t, f, now, 9, "none")
	}
	ask(t, f, 109, 9, "3-8")
	ask(t, f, 117, 9, "none")
	ask(t, f, 130, 9, "3-8")
	// Every behind the last time, not behind the one at which it was time.
	ask(t, f, 138, 9, "none")
	ask(t, f, 139, 9, "3-8")

	// What came isn't asked for, and puts nothing off or on.
	f.Got(4)
	ask(t, f, 147, 9, "none")
	ask(t, f, 148, 9, "3-4 5-8")

	// Behind a Want it is time at once, at whatever tick, and Every behind that.
	want(t, f, 0, 2, 2, "0-2")
	ask(t, f, 148, 9, "0-2")
	ask(t, f, 156, 9, "none")
	want(t, f, 1, 3, 2, "1-3")
	ask(t, f, 3, 9, "1-3")
	ask(t, f, 11, 9, "none")
	ask(t, f, 12, 9, "1-3")
	// Behind one of lines that are wanted already, too.
	want(t, f, 1, 3, 2, "1-3")
	ask(t, f, 12, 9, "1-3")

	// Behind a Reset nothing is wanted, and it is time.
	f.Reset()
	if len(f.Wanted()) > 0 || f.Got(1) {
		t.Errorf("Reset: %s", text(f.Wanted()))
	}
	ask(t, f, 12, 9, "none")
	ask(t, f, 99, 9, "none")
	want(t, f, 1, 3, 2, "1-3")
	ask(t, f, 0, 9, "1-3")
	f.Reset()
	f.Reset()
	want(t, f, 4, 5, 1, "4-5")
	ask(t, f, 0, 9, "4-5")
	f = New(2, 9)
	f.Reset()
	want(t, f, 1, 9, 2, "1-3")
	ask(t, f, 0, 9, "1-3")
}

// An Ask that answers none doesn't put the next one off.
func TestAskNonePutsNothingOff(t *testing.T) {
	f := New(5, 9)
	ask(t, f, 0, 9, "none")
	want(t, f, 3, 8, 5, "3-8")
	ask(t, f, 1, 3, "none")
	ask(t, f, 1, 0, "none")
	ask(t, f, 1, 4, "3-4")
	// None as it isn't time, and none as nothing is below length.
	ask(t, f, 9, 9, "none")
	ask(t, f, 10, 3, "none")
	ask(t, f, 14, 0, "none")
	ask(t, f, 14, 5, "3-5")
	ask(t, f, 22, 5, "none")
	ask(t, f, 23, 5, "3-5")
	// None as all came.
	for i := 3; i < 8; i++ {
		f.Got(i)
	}
	ask(t, f, 40, 9, "none")
	want(t, f, 3, 4, 1, "3-4")
	ask(t, f, 40, 9, "3-4")
}

// How many lines there are in all: nothing is asked for from there on.
func TestAskLength(t *testing.T) {
	for _, c := range []struct {
		length int
		asked  string
	}{
		{0, "none"}, {-1, "none"}, {math.MinInt, "none"}, {3, "none"}, {4, "3-4"}, {5, "3-5"}, {6, "3-5"}, {7, "3-5"}, {8, "3-5 7-8"}, {12, "3-5 7-12"}, {13, "3-5 7-13"}, {14, "3-5 7-13"}, {end, "3-5 7-13"}, {end + 1, "3-5 7-13"}, {math.MaxInt, "3-5 7-13"},
	} {
		f := New(10, 9)
		want(t, f, 3, 20, 8, "3-5 7-13", 5, 7)
		ask(t, f, 0, c.length, c.asked)
	}
	f := New(3, 9)
	want(t, f, end-2, end, 2, fmt.Sprint(end-2, "-", end))
	ask(t, f, 0, end-2, "none")
	ask(t, f, 0, end-1, fmt.Sprint(end-2, "-", end-1))
	ask(t, f, 9, end, fmt.Sprint(end-2, "-", end))
	ask(t, f, 18, math.MaxInt, fmt.Sprint(end-2, "-", end))
}

// The first 8 spans of more.
func TestAskSpans(t *testing.T) {
	f := New(100, 9)
	var have []int
	for i := 1; i < 25; i += 2 {
		have = append(have, i, i+1)
	}
	const first = "0-1 2-3 4-5 6-7 8-9 10-11 12-13 14-15"
	all := first + " 16-17 18-19 20-21 22-23 24-26"
	want(t, f, 0, 26, 14, all, have...)
	ask(t, f, 0, 26, first)
	for _, c := range []struct {
		length int
		asked  string
	}{{14, "0-1 2-3 4-5 6-7 8-9 10-11 12-13"}, {15, first}, {16, first}, {17, first}, {99, first}} {
		want(t, f, 0, 26, 14, all, have...)
		ask(t, f, 0, c.length, c.asked)
	}
	// The others have their turn as soon as some came.
	for i := range 9 {
		f.Got(i)
	}
	ask(t, f, 9, 99, "10-11 12-13 14-15 16-17 18-19 20-21 22-23 24-26")
	f.Got(25)
	ask(t, f, 18, 99, "10-11 12-13 14-15 16-17 18-19 20-21 22-23 24-25")
	f.Got(10)
	ask(t, f, 27, 99, "12-13 14-15 16-17 18-19 20-21 22-23 24-25")
}

// Ticks are 0 to 2^40, and count as the nearest.
func TestTicks(t *testing.T) {
	const last = 1 << 40
	f := New(5, 9)
	for _, now := range []int{math.MinInt, -1, 0} {
		want(t, f, 0, 1, 1, "0-1")
		ask(t, f, now, 9, "0-1")
		ask(t, f, 8, 9, "none")
		ask(t, f, 9, 9, "0-1")
	}
	want(t, f, 0, 1, 1, "0-1")
	ask(t, f, last-9, 9, "0-1")
	ask(t, f, last-1, 9, "none")
	ask(t, f, last, 9, "0-1")
	for _, now := range []int{last + 1, math.MaxInt} {
		ask(t, f, now, 9, "none")
		want(t, f, 0, 1, 1, "0-1")
		ask(t, f, now, 9, "0-1")
		ask(t, f, last, 9, "none")
		ask(t, f, math.MaxInt, 9, "none")
	}
	want(t, f, 0, 1, 1, "0-1")
	ask(t, f, last-8, 9, "0-1")
	ask(t, f, math.MaxInt, 9, "none")
}

// A clone goes its own way, and so does what it was made of.
func TestClone(t *testing.T) {
	for _, swap := range []bool{false, true} {
		a := New(5, 9)
		want(t, a, 3, 20, 5, "3-8")
		ask(t, a, 0, 9, "3-8")
		b := a.Clone()
		if swap {
			a, b = b, a
		}
		a.Got(5)
		ask(t, a, 9, 9, "3-5 6-8")
		if text(b.Wanted()) != "3-8" {
			t.Errorf("Got: %s", text(b.Wanted()))
		}
		ask(t, b, 8, 9, "none")
		ask(t, b, 9, 9, "3-8")
		b.Got(3)
		b.Got(4)
		want(t, a, 0, 9, 5, "0-5")
		if text(b.Wanted()) != "5-8" {
			t.Errorf("Want: %s", text(b.Wanted()))
		}
		ask(t, b, 10, 9, "none")
		b.Reset()
		if text(a.Wanted()) != "0-5" {
			t.Errorf("Reset: %s", text(a.Wanted()))
		}
		// Both keep to how many may be, and to Every.
		want(t, b, 7, 99, 5, "7-12")
		ask(t, b, 10, 99, "7-12")
		ask(t, b, 18, 99, "none")
		ask(t, b, 19, 99, "7-12")
		ask(t, a, 10, 99, "0-5")
	}
	f := New(2, 3).Clone()
	want(t, f, 1, 9, 2, "1-3")
	ask(t, f, 5, 9, "1-3")
	ask(t, f, 7, 9, "none")
	ask(t, f, 8, 9, "1-3")
}

// What is handed in isn't changed and isn't kept, and what is answered shares nothing.
func TestSharesNothing(t *testing.T) {
	f := New(9, 1)
	have := list(1, 2, 4, 5, 7, 7, 9, 3)
	was := slices.Clone(have)
	f.Want(spans.Span{From: 0, To: 9}, have[:3]...)
	if !slices.Equal(have, was) {
		t.Errorf("%v, was %v", have, was)
	}
	clear(have)
	const all = "0-1 2-4 5-9"
	for range 3 {
		for _, l := range [][]spans.Span{f.Wanted(), f.Ask(0, 99)} {
			l = l[:cap(l)]
			for i := range l {
				l[i] = spans.Span{From: -7, To: 77}
			}
		}
		if text(f.Wanted()) != all {
			t.Fatalf("%s", text(f.Wanted()))
		}
		f.Want(spans.Span{From: 0, To: 9}, list(1, 2, 4, 5)...)
	}
	ask(t, f, 0, 99, all)
}
