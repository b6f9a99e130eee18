// Package octet encodes numbers, strings, and lists of strings as bytes.
package octet

import (
	"strings"

	"maslin/api"
)

const (
	wordSize  = 8  // bytes of the widest number
	headSize  = 2  // bytes of a length ahead of what it counts
	shortSize = 10 // bytes of the longest short encoding: 64 bits, seven a byte

	more    = 128 // set in each byte of a short encoding but the last one
	lowBits = 127
)

// Put returns the encoding of v in n bytes.
func Put(v uint64, n int) (string, api.Errno) {
	if n < 1 || n > wordSize {
		return "", api.ErrArg
	}
	var b [wordSize]byte
	for i := range n {
		b[i] = byte(v)
		v >>= 8
	}
	if v != 0 {
		return "", api.ErrArg
	}
	return string(b[:n]), api.OK
}

// Get returns the number whose encoding s is.
func Get(s string) (uint64, api.Errno) {
	if len(s) < 1 || len(s) > wordSize {
		return 0, api.ErrArg
	}
	var v uint64
	for i := range len(s) {
		v |= uint64(s[i]) << (8 * i)
	}
	return v, api.OK
}

// Text returns the encoding of s.
func Text(s string) (string, api.Errno) {
	if len(s) > api.MaxText {
		return "", api.ErrLong
	}
	return head(len(s)) + s, api.OK
}

// Read returns the string whose encoding s begins with, and the length of that encoding.
func Read(s string) (t string, n int, e api.Errno) {
	if len(s) < headSize {
		return "", 0, api.ErrEnd
	}
	n = headSize + readHead(s)
	if len(s) < n {
		return "", 0, api.ErrEnd
	}
	// A result is new memory: a part of s would keep all of s.
	return strings.Clone(s[headSize:n]), n, api.OK
}

// Row returns the encoding of the list l.
func Row(l ...string) (string, api.Errno) {
	if len(l) > api.MaxText {
		return "", api.ErrLong
	}
	size := headSize
	for _, s := range l {
		if len(s) > api.MaxText {
			return "", api.ErrLong
		}
		size += headSize + len(s)
	}
	var b strings.Builder
	b.Grow(size)
	b.WriteString(head(len(l)))
	for _, s := range l {
		b.WriteString(head(len(s)))
		b.WriteString(s)
	}
	return b.String(), api.OK
}

// ReadRow returns the strings of the list whose encoding s is.
func ReadRow(s string) ([]string, api.Errno) {
	if len(s) < headSize {
		return nil, api.ErrForm
	}
	count, rest := readHead(s), s[headSize:]
	next := func() (string, api.Errno) {
		t, n, e := Read(rest)
		rest = rest[n:]
		return t, e
	}
	// The count may claim more strings than there are bytes for: room is made only for those that can be there.
	l := make([]string, 0, min(count, len(rest)/headSize))
	for range count {
		t, e := next()
		if e != api.OK {
			return nil, api.ErrForm
		}
		l = append(l, t)
	}
	if rest != "" {
		return nil, api.ErrForm
	}
	return l, api.OK
}

// Short returns the short encoding of v.
func Short(v uint64) string {
	var b [shortSize]byte
	n := 0
	for v >= more {
		b[n] = byte(v&lowBits) | more
		v >>= 7
		n++
	}
	b[n] = byte(v)
	return string(b[:n+1])
}

// ReadShort returns the number whose short encoding s begins with, and the length of that encoding.
func ReadShort(s string) (v uint64, n int, e api.Errno) {
	for i := range len(s) {
		c := s[i]
		// Of 64 bits nine bytes leave one for the tenth, so the loop never gets beyond it.
		if i == shortSize-1 && c > 1 {
			return 0, 0, api.ErrForm
		}
		v |= uint64(c&lowBits) << (7 * i)
		if c >= more {
			continue
		}
		if c == 0 && i > 0 {
			return 0, 0, api.ErrForm
		}
		return v, i + 1, api.OK
	}
	return 0, 0, api.ErrEnd
}

// head returns the encoding of a length that is at most MaxText.
func head(n int) string {
	b := [headSize]byte{byte(n), byte(n >> 8)}
	return string(b[:])
}

// readHead returns the length whose encoding s, of at least headSize bytes, begins with.
func readHead(s string) int {
	return int(s[0]) | int(s[1])<<8
}
