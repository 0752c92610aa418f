// Package varint is layer 1: numbers and texts as bytes. See shared/doc/01-varint.md.
package varint

import (
	"lorgnette/api"
)

const (
	bits      = 7         // how many bits of a number a byte has
	more      = 1 << bits // what a byte has, too, if another one follows
	lastPlace = 9         // of the bytes that a number may have
	lastMost  = 1         // what that byte may be: nine sevens leave one bit of 64
)

// Put is b, and n behind it.
func Put(b string, n uint64) string {
	var room [lastPlace + 1]byte
	k := 0
	for ; n >= more; n >>= bits {
		room[k] = byte(n) | more
		k++
	}
	room[k] = byte(n)
	return b + string(room[:k+1])
}

// Take is the number that s begins with, and what follows it.
func Take(s string) (uint64, string, api.Errno) {
	var n uint64
	end, err := 0, api.ErrShort
number:
	for k := 0; k < len(s); k++ {
		c := s[k]
		switch {
		case k == lastPlace && c > lastMost:
			err = api.ErrLong
			break number
		case k > 0 && c == 0: // the number has a shorter form
			err = api.ErrForm
			break number
		}
		n |= uint64(c&(more-1)) << (bits * k)
		if c < more {
			end, err = k+1, api.OK
			break number
		}
	}
	if err != api.OK {
		return 0, "", err
	}
	return n, s[end:], api.OK
}

// Zig is n as a number from 0 on: those near 0, of either sign, stay small.
func Zig(n int) uint64 {
	u := uint64(n) << 1
	if n < 0 {
		return ^u // twice the opposite, less one, without leaving 64 bits at the least int
	}
	return u
}

// Zag is the number of which u is Zig.
func Zag(u uint64) int {
	n := int(u >> 1)
	if u&1 == 1 {
		return ^n
	}
	return n
}

// Int is b, and n behind it, which may be below 0.
func Int(b string, n int) string {
	return Put(b, Zig(n))
}

// TakeInt is the number that s begins with, as Int put it, and what follows it.
func TakeInt(s string) (int, string, api.Errno) {
	u, rest, err := Take(s)
	if err != api.OK {
		return 0, "", err
	}
	return Zag(u), rest, api.OK
}

// Text is b, and s behind it, with its length ahead.
func Text(b string, s string) string {
	return Put(b, uint64(len(s))) + s
}

// TakeText is the text of at most that many bytes that s begins with, and what follows it.
func TakeText(s string, most int) (string, string, api.Errno) {
	n, rest, err := Take(s)
	switch {
	case err != api.OK:
		return "", "", err
	case most < 0 || n > uint64(most):
		return "", "", api.ErrLong
	case n > uint64(len(rest)):
		return "", "", api.ErrShort
	}
	return rest[:n], rest[n:], api.OK
}
