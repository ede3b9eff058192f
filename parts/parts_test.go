package parts

import (
	"math"
	"math/rand"
	"slices"
	"strings"
	"testing"

	"tidewrack/api"
)

// text is a message of n bytes whose parts differ from one another.
func text(n int) string {
	b := make([]byte, n)
	rand.New(rand.NewSource(int64(n))).Read(b)
	return string(b)
}

func TestSplit(t *testing.T) {
	for _, c := range []struct {
		s    string
		size int
		want []string
	}{
		{"abc", 2, []string{"ab", "c"}}, {"abcd", 2, []string{"ab", "cd"}}, {"abc", 1, []string{"a", "b", "c"}},
		{"abc", 3, []string{"abc"}}, {"abc", 4, []string{"abc"}}, {"abc", math.MaxInt, []string{"abc"}},
		{"abc", 0, []string{"a", "b", "c"}}, {"abc", -1, []string{"a", "b", "c"}}, {"ab", math.MinInt, []string{"a", "b"}},
		{"", 1, []string{""}}, {"", 0, []string{""}}, {"", -9, []string{""}}, {"", math.MaxInt, []string{""}},
		{"\x00\xff\x00", 2, []string{"\x00\xff", "\x00"}},
	} {
		if got := Split(c.s, c.size); !slices.Equal(got, c.want) {
			t.Errorf("%q, %d: %q", c.s, c.size, got)
		}
	}
}

// The size counts as the nearest of 1 to 8000, and all parts but the last one have it.
func TestSplitSizes(t *testing.T) {
	for _, n := range []int{1, 2, 7999, 8000, 8001, 15999, 16000, 16001, 20000} {
		s := text(n)
		for _, size := range []int{-1, 0, 1, 2, 3, 7999, 8000, 8001, 20000, math.MaxInt} {
			got, each := Split(s, size), min(max(size, 1), 8000)
			if len(got) != (n+each-1)/each || strings.Join(got, "") != s {
				t.Errorf("%d bytes, %d: %d parts", n, size, len(got))
			}
			for i, part := range got {
				if last := i == len(got)-1; !last && len(part) != each || last && (len(part) < 1 || len(part) > each) {
					t.Errorf("%d bytes, %d: the part %d has %d", n, size, i, len(part))
				}
			}
		}
	}
}

// checkState: what a Slot has, all of it.
func checkState(t *testing.T, s *Slot, key, count int, have, lacks []int, bytes int, whole string, ok bool) {
	t.Helper()
	got, fine := s.Whole()
	if s.Key() != key || s.Count() != count || !slices.Equal(s.Have(), have) || !slices.Equal(s.Lacks(), lacks) ||
		s.Bytes() != bytes || got != whole || fine != ok {
		t.Fatalf("%d, %d, have %d, lacks %d, %d bytes, %q, %t", s.Key(), s.Count(), s.Have(), s.Lacks(), s.Bytes(), got, fine)
	}
}

func put(t *testing.T, s *Slot, key, index, count int, data string, want api.Errno) {
	t.Helper()
	if got := s.Put(key, index, count, data); got != want {
		t.Fatalf("%d, %d, %d, %q: %d", key, index, count, data, got)
	}
}

// The chapter's example.
func TestExample(t *testing.T) {
	var s Slot
	l := Split("abc", 2)
	put(t, &s, 1, 1, 2, l[1], api.OK)
	checkState(t, &s, 1, 2, []int{1}, []int{0}, 1, "", false)
	put(t, &s, 1, 0, 2, l[0], api.OK)
	checkState(t, &s, 1, 2, []int{0, 1}, nil, 3, "abc", true)
}

func TestZeroSlot(t *testing.T) {
	var s Slot
	checkState(t, &s, 0, 0, nil, nil, 0, "", false)
	s.Forget()
	checkState(t, &s, 0, 0, nil, nil, 0, "", false)
	c := s.Clone()
	checkState(t, c, 0, 0, nil, nil, 0, "", false)
	put(t, c, 3, 0, 1, "x", api.OK)
	checkState(t, c, 3, 1, []int{0}, nil, 1, "x", true)
	checkState(t, &s, 0, 0, nil, nil, 0, "", false)
}

// The errors, the one that is named first first; behind each the Slot is as it was.
func TestPutErrors(t *testing.T) {
	for _, c := range []struct {
		key, index, count int
		want              api.Errno
	}{
		{5, 1, 0, api.ErrArg}, {5, 0, 0, api.ErrArg}, {5, 0, -1, api.ErrArg}, {5, 0, math.MinInt, api.ErrArg},
		{5, 0, 4097, api.ErrArg}, {5, 4096, 4097, api.ErrArg}, {5, 0, math.MaxInt, api.ErrArg},
		{5, -1, 3, api.ErrArg}, {5, math.MinInt, 3, api.ErrArg}, {5, 3, 3, api.ErrArg}, {5, math.MaxInt, 3, api.ErrArg},
		{0, 1, 3, api.ErrArg}, {-1, 1, 3, api.ErrArg}, {math.MinInt, 1, 3, api.ErrArg},
		// ErrArg ahead of ErrOld, and of ErrForm; and of a newer message.
		{4, 3, 3, api.ErrArg}, {4, 0, 4097, api.ErrArg}, {5, 4, 4, api.ErrArg}, {6, 2, 2, api.ErrArg}, {6, 0, 0, api.ErrArg},
		{4, 1, 3, api.ErrOld}, {1, 1, 3, api.ErrOld}, {4, 0, 1, api.ErrOld}, {4, 0, 4096, api.ErrOld},
		{5, 1, 2, api.ErrForm}, {5, 1, 4, api.ErrForm}, {5, 0, 1, api.ErrForm}, {5, 4095, 4096, api.ErrForm}, {5, 0, 4096, api.ErrForm},
	} {
		var s Slot
		put(t, &s, 5, 0, 3, "a", api.OK)
		put(t, &s, 5, 2, 3, "cc", api.OK)
		put(t, &s, c.key, c.index, c.count, "z", c.want)
		checkState(t, &s, 5, 3, []int{0, 2}, []int{1}, 3, "", false)
		put(t, &s, 5, 1, 3, "b", api.OK)
		checkState(t, &s, 5, 3, []int{0, 1, 2}, nil, 4, "abcc", true)
	}
	var none Slot
	put(t, &none, 0, 0, 1, "a", api.ErrArg)
	put(t, &none, 1, 1, 1, "a", api.ErrArg)
	put(t, &none, 1, 0, 4097, "a", api.ErrArg)
	checkState(t, &none, 0, 0, nil, nil, 0, "", false)
}

// The edges of what may be put.
func TestPutEdges(t *testing.T) {
	var s Slot
	put(t, &s, 1, 4095, 4096, "a", api.OK)
	if s.Key() != 1 || s.Count() != 4096 || len(s.Lacks()) != 4095 || !slices.Equal(s.Have(), []int{4095}) {
		t.Errorf("%d, %d, %d", s.Key(), s.Count(), s.Have())
	}
	put(t, &s, math.MaxInt, 0, 1, "b", api.OK)
	checkState(t, &s, math.MaxInt, 1, []int{0}, nil, 1, "b", true)
	put(t, &s, math.MaxInt-1, 0, 1, "c", api.ErrOld)
	checkState(t, &s, math.MaxInt, 1, []int{0}, nil, 1, "b", true)
}

// Of a part that comes twice the first one stays; one without bytes is there, too.
func TestFirstStays(t *testing.T) {
	var s Slot
	put(t, &s, 1, 0, 2, "", api.OK)
	checkState(t, &s, 1, 2, []int{0}, []int{1}, 0, "", false)
	put(t, &s, 1, 0, 2, "late", api.OK)
	checkState(t, &s, 1, 2, []int{0}, []int{1}, 0, "", false)
	put(t, &s, 1, 1, 2, "b", api.OK)
	put(t, &s, 1, 1, 2, "other", api.OK)
	checkState(t, &s, 1, 2, []int{0, 1}, nil, 1, "b", true)
	var empty Slot
	put(t, &empty, 1, 0, 1, Split("", 5)[0], api.OK)
	checkState(t, &empty, 1, 1, []int{0}, nil, 0, "", true)
}

// A newer message leaves nothing of the one that was; behind Forget an older one may come again.
func TestNewerAndForget(t *testing.T) {
	var s Slot
	put(t, &s, 2, 0, 1, "whole", api.OK)
	put(t, &s, 3, 1, 3, "bb", api.OK)
	checkState(t, &s, 3, 3, []int{1}, []int{0, 2}, 2, "", false)
	put(t, &s, 2, 0, 1, "whole", api.ErrOld)
	checkState(t, &s, 3, 3, []int{1}, []int{0, 2}, 2, "", false)
	put(t, &s, 9, 0, 3, "a", api.OK)
	checkState(t, &s, 9, 3, []int{0}, []int{1, 2}, 1, "", false)
	s.Forget()
	checkState(t, &s, 0, 0, nil, nil, 0, "", false)
	put(t, &s, 1, 0, 2, "x", api.OK)
	checkState(t, &s, 1, 2, []int{0}, []int{1}, 1, "", false)
	s.Forget()
	put(t, &s, 1, 0, 1, "y", api.OK)
	checkState(t, &s, 1, 1, []int{0}, nil, 1, "y", true)
}

// A Clone and its origin go their own ways.
func TestClone(t *testing.T) {
	var s Slot
	put(t, &s, 2, 1, 3, "b", api.OK)
	a, b := s.Clone(), s.Clone()
	put(t, &s, 2, 0, 3, "a", api.OK)
	put(t, a, 2, 2, 3, "c", api.OK)
	checkState(t, &s, 2, 3, []int{0, 1}, []int{2}, 2, "", false)
	checkState(t, a, 2, 3, []int{1, 2}, []int{0}, 2, "", false)
	checkState(t, b, 2, 3, []int{1}, []int{0, 2}, 1, "", false)
	s.Forget()
	put(t, b, 3, 0, 1, "d", api.OK)
	checkState(t, &s, 0, 0, nil, nil, 0, "", false)
	checkState(t, a, 2, 3, []int{1, 2}, []int{0}, 2, "", false)
	checkState(t, b, 3, 1, []int{0}, nil, 1, "d", true)
}

// Whoever goes through parts may leave at any of them.
func TestLeftEarly(t *testing.T) {
	var s Slot
	put(t, &s, 1, 1, 3, "b", api.OK)
	put(t, &s, 1, 2, 3, "c", api.OK)
	for i := range s.places(true) {
		if i != 1 {
			t.Errorf("place %d", i)
		}
		break
	}
	for piece := range pieces("abc", 2) {
		if piece != "ab" {
			t.Errorf("piece %q", piece)
		}
		break
	}
}

// Lists that are answered are new memory.
func TestListsAreNew(t *testing.T) {
	var s Slot
	put(t, &s, 1, 0, 4, "a", api.OK)
	put(t, &s, 1, 2, 4, "c", api.OK)
	have, lacks := s.Have(), s.Lacks()
	have[0], lacks[0] = 9, 9
	checkState(t, &s, 1, 4, []int{0, 2}, []int{1, 3}, 2, "", false)
	split := Split("abc", 2)
	split[0] = "z"
	if got := Split("abc", 2); got[0] != "ab" {
		t.Errorf("%q", got)
	}
}

// orders are all orders of 0 to n-1.
func orders(n int) [][]int {
	if n == 0 {
		return [][]int{nil}
	}
	var l [][]int
	for _, o := range orders(n - 1) {
		for at := range n {
			l = append(l, slices.Insert(slices.Clone(o), at, n-1))
		}
	}
	return l
}

// checkBack: the parts of s, put in that order, make s, and not before all of them are there.
func checkBack(t *testing.T, s string, l []string, order []int) {
	t.Helper()
	var slot Slot
	missing := map[int]int{}
	for i := range l {
		missing[i] = 1
	}
	for _, i := range order {
		put(t, &slot, 7, i, len(l), l[i], api.OK)
		delete(missing, i)
		got, ok := slot.Whole()
		if ok != (len(missing) == 0) || ok && got != s || !ok && got != "" {
			t.Fatalf("%d: %d bytes, %t", order, len(got), ok)
		}
	}
	if got, ok := slot.Whole(); !ok || got != s || slot.Bytes() != len(s) || slot.Lacks() != nil {
		t.Fatalf("%d parts: %d bytes, %t", len(l), len(got), ok)
	}
}

// P4.2: the parts of Split, put in any order, with any of them twice, make the message.
func TestBack(t *testing.T) {
	for n := range 6 {
		s := text(3*n - n/2)
		l := Split(s, 3)
		for _, order := range orders(len(l)) {
			checkBack(t, s, l, order)
			for at := range order {
				for i := range l {
					checkBack(t, s, l, slices.Insert(slices.Clone(order), at, i))
				}
			}
		}
	}
	random := rand.New(rand.NewSource(9))
	for _, n := range []int{12, 100, 300} {
		s := text(n*5 - 2)
		l := Split(s, 5)
		for range 5 {
			order := append(random.Perm(n), random.Perm(n)[:n/2]...)
			random.Shuffle(len(order), func(i, j int) { order[i], order[j] = order[j], order[i] })
			checkBack(t, s, l, order)
		}
	}
}

// As many parts as may be.
func TestBackMany(t *testing.T) {
	s := text(4096*3 - 1)
	l := Split(s, 3)
	var slot Slot
	for _, i := range rand.New(rand.NewSource(10)).Perm(4096) {
		put(t, &slot, 1, i, len(l), l[i], api.OK)
	}
	if got, ok := slot.Whole(); !ok || got != s || len(l) != 4096 {
		t.Errorf("%d parts: %d bytes, %t", len(l), len(got), ok)
	}
}

// plain is a Slot as the chapter tells it: a list with a place for each part.
type plain struct {
	key   int
	parts []*string
}

func (p *plain) put(key, index, count int, data string) api.Errno {
	if count < 1 || count > 4096 || index < 0 || index >= count || key < 1 {
		return api.ErrArg
	}
	if key < p.key {
		return api.ErrOld
	}
	if key > p.key {
		*p = plain{key, make([]*string, count)}
	}
	if len(p.parts) != count {
		return api.ErrForm
	}
	if p.parts[index] == nil {
		p.parts[index] = &data
	}
	return api.OK
}

func (p *plain) clone() *plain {
	return &plain{p.key, slices.Clone(p.parts)}
}

func (p *plain) check(t *testing.T, s *Slot) {
	t.Helper()
	var have, lacks []int
	all := ""
	for i, part := range p.parts {
		if part == nil {
			lacks = append(lacks, i)
			continue
		}
		have = append(have, i)
		all += *part
	}
	bytes, whole := len(all), lacks == nil && p.key > 0
	if !whole {
		all = ""
	}
	checkState(t, s, p.key, len(p.parts), have, lacks, bytes, all, whole)
}

// P4.1: each call, behind any calls: what a Slot has is what the chapter tells.
func TestAnyCalls(t *testing.T) {
	random := rand.New(rand.NewSource(11))
	keys := []int{math.MinInt, -1, 0, 1, 1, 2, 2, 2, 3, 3}
	for range 3000 {
		s, p := &Slot{}, &plain{}
		var old *Slot
		var was *plain
		for step := range 40 {
			switch random.Intn(12) {
			case 0:
				old, was = s, p
				s, p = s.Clone(), p.clone()
			case 1:
				if random.Intn(3) == 0 {
					s.Forget()
					*p = plain{}
				}
			default:
				key, index, count := keys[random.Intn(len(keys))]+step/8, random.Intn(5)-1, 3-random.Intn(7)/5
				data := strings.Repeat(string([]byte{byte(step)}), random.Intn(4))
				if got, want := s.Put(key, index, count, data), p.put(key, index, count, data); got != want {
					t.Fatalf("%d, %d, %d: %d, want %d", key, index, count, got, want)
				}
			}
			p.check(t, s)
			if old != nil {
				was.check(t, old)
			}
		}
	}
}
