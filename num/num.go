// Package num is numbers and texts as bytes (layer 1).
package num

import (
	"math/bits"

	"tarn/api"
)

// mostBytes is how many bytes a number has at most.
const mostBytes = 8

// Put is a number as bytes: how many it needs, and these, the highest first.
func Put(n uint64) string {
	need := (bits.Len64(n) + 7) / 8
	b := make([]byte, 1, 1+mostBytes)
	b[0] = byte(need)
	for i := need - 1; i >= 0; i-- {
		b = append(b, byte(n>>(8*i)))
	}
	return string(b)
}

// Word is a number as four bytes, the highest first.
func Word(n uint32) string {
	return string([]byte{byte(n >> 24), byte(n >> 16), byte(n >> 8), byte(n)})
}

// Text is a text as bytes: how many, and they.
func Text(s string) string { return Put(uint64(len(s))) + s }

// Bool is a truth as a letter.
func Bool(b bool) string {
	if b {
		return "y"
	}
	return "n"
}

// List is numbers as bytes: how many, and they; one below 0 is put as 0.
func List(l []int) string {
	b := []byte(Put(uint64(len(l))))
	for _, n := range l {
		b = append(b, Put(uint64(max(n, 0)))...)
	}
	return string(b)
}

// Source is bytes, and the place in them up to which they were taken.
type Source struct {
	left string
	err  api.Errno
}

// From is bytes of which none was taken.
func From(s string) *Source { return &Source{left: s} }

// Err is what was wrong first; of none, that bytes are missing.
func (s *Source) Err() api.Errno {
	if s == nil {
		return api.ErrShort
	}
	return s.err
}

// Wrong notes what is wrong, if nothing was: nothing is left then.
func (s *Source) Wrong(e api.Errno) {
	if s == nil || e == api.OK || s.err != api.OK {
		return
	}
	s.err = e
	s.left = ""
}

// Left is how many bytes are left.
func (s *Source) Left() int {
	if s == nil {
		return 0
	}
	return len(s.left)
}

// Take takes so many bytes.
func (s *Source) Take(n int) string {
	if s.Err() != api.OK {
		return ""
	}
	if n < 0 || n > len(s.left) {
		s.Wrong(api.ErrShort)
		return ""
	}
	t := s.left[:n]
	s.left = s.left[n:]
	return t
}

// Num takes a number of at most so much: ErrForm: it has more bytes than it needs, or is greater.
func (s *Source) Num(limit uint64) uint64 {
	head := s.Take(1)
	if head == "" {
		return 0
	}
	if head[0] > mostBytes {
		s.Wrong(api.ErrForm)
		return 0
	}
	b := s.Take(int(head[0]))
	if b == "" {
		return 0
	}
	n := uint64(0)
	for i := range len(b) {
		n = n<<8 | uint64(b[i])
	}
	if b[0] == 0 || n > limit {
		s.Wrong(api.ErrForm)
		return 0
	}
	return n
}

// Int takes a number from 0 on, of at most so much.
func (s *Source) Int(limit int) int { return int(s.Num(uint64(max(limit, 0)))) }

// Word takes a number of four bytes.
func (s *Source) Word() uint32 {
	b := s.Take(4)
	if b == "" {
		return 0
	}
	return uint32(b[0])<<24 | uint32(b[1])<<16 | uint32(b[2])<<8 | uint32(b[3])
}

// Text takes a text of at most so many bytes.
func (s *Source) Text(limit int) string { return s.Take(s.Int(min(limit, api.MostText))) }

// Bool takes a truth.
func (s *Source) Bool() bool {
	b := s.Take(1)
	if b != "" && b != "y" && b != "n" {
		s.Wrong(api.ErrForm)
	}
	return b == "y"
}

// List takes at most so many numbers, each of at most so much.
func (s *Source) List(many, limit int) []int {
	n := s.Int(many)
	// The list grows as numbers come: what it says of its length may be far more than there is.
	var l []int
	for i := 0; i < n && s.Err() == api.OK; i++ {
		l = append(l, s.Int(limit))
	}
	if s.Err() != api.OK {
		return nil
	}
	return l
}

// End is what was wrong first, or that bytes are left.
func (s *Source) End() api.Errno {
	if s.Left() > 0 {
		s.Wrong(api.ErrForm)
	}
	return s.Err()
}
