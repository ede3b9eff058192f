// Package num is layer 1: numbers and texts as bytes. See shared/doc/01-num.md.
package num

import (
	"iter"

	"tidewrack/api"
)

// The greatest number, and how many bytes it has.
const (
	greatest = 1 << 62
	longest  = 9
)

// clip is n, brought among the numbers that there are.
func clip(n int) int {
	return min(max(n, 0), greatest)
}

// digits are a number's bytes, the lowest first.
func digits(n int) iter.Seq[byte] {
	return func(yield func(byte) bool) {
		left := clip(n)
		for left >= 128 {
			if !yield(byte(left&127 | 128)) {
				return
			}
			left >>= 7
		}
		yield(byte(left))
	}
}

// Size is how many bytes a number has.
func Size(n int) int {
	size := 0
	for range digits(n) {
		size++
	}
	return size
}

// Out is what was written, one behind the other. A zero Out is an empty one.
type Out struct {
	bytes []byte
}

// Num writes numbers.
func (o *Out) Num(l ...int) *Out {
	// A nil Out has no place to write to; it stays nil here, as in Text and Raw.
	if o == nil {
		return nil
	}
	for _, n := range l {
		for b := range digits(n) {
			o.bytes = append(o.bytes, b)
		}
	}
	return o
}

// Text writes texts, each behind its length.
func (o *Out) Text(l ...string) *Out {
	for _, s := range l {
		o.Num(len(s)).Raw(s)
	}
	return o
}

// Raw writes bytes as they are.
func (o *Out) Raw(l ...string) *Out {
	if o == nil {
		return nil
	}
	for _, s := range l {
		o.bytes = append(o.bytes, s...)
	}
	return o
}

// Bytes is all that was written.
func (o *Out) Bytes() string {
	if o == nil {
		return ""
	}
	return string(o.bytes)
}

// In is what is left of a text that is read. Behind an error nothing is left.
type In struct {
	left string
	err  api.Errno
}

// Of is all of a text.
func Of(s string) *In {
	return &In{left: s}
}

// Num takes a number.
func (in *In) Num() int {
	n, size, e := first(in.left)
	if e != api.OK {
		in.Fail(e)
		return 0
	}
	in.left = in.left[size:]
	return n
}

// first is the number that a text begins with, and how many bytes it has.
func first(s string) (int, int, api.Errno) {
	n := 0
	for i := range min(len(s), longest) {
		b := s[i]
		n |= int(b&127) << (7 * i)
		if b >= 128 {
			continue
		}
		// A last byte of 0 would give the number a second way of being written.
		if i > 0 && b == 0 || n > greatest {
			return 0, 0, api.ErrForm
		}
		return n, i + 1, api.OK
	}
	if len(s) >= longest {
		return 0, 0, api.ErrForm
	}
	return 0, 0, api.ErrEnd
}

// Text takes a text.
func (in *In) Text() string {
	return in.Raw(in.Num())
}

// Raw takes n bytes as they are.
func (in *In) Raw(n int) string {
	n = max(n, 0)
	if n > len(in.left) {
		in.Fail(api.ErrEnd)
		return ""
	}
	s := in.left[:n]
	in.left = in.left[n:]
	return s
}

// Left is how many bytes are left.
func (in *In) Left() int {
	return len(in.left)
}

// Err is the first error.
func (in *In) Err() api.Errno {
	return in.err
}

// Fail makes e the first error, if there was none.
func (in *In) Fail(e api.Errno) {
	if in.err != api.OK || e == api.OK {
		return
	}
	in.err = e
	in.left = ""
}

// End tells the first error, or whether bytes are left. To ask changes nothing.
func (in *In) End() api.Errno {
	if in.err == api.OK && in.left != "" {
		return api.ErrForm
	}
	return in.err
}
