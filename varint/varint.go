// Package varint is layer 1: see shared/doc/01-varint.md.
package varint

import (
	"iter"
	"strings"

	"silo/api"
)

const (
	width    = 7           // bits of a number in a byte
	follows  = 1 << width  // the bit that says that another byte follows
	low      = follows - 1 // the bits that are the number's
	maxBytes = 10          // bytes of a number at most
	maxTenth = 1           // the tenth byte at most: 64 bits less those of nine bytes are one
)

// Put is a number as bytes.
func Put(n uint64) string {
	var out strings.Builder
	for b := range numberBytes(n) {
		out.WriteByte(b)
	}
	return out.String()
}

// numberBytes hands out a number's bytes, the lowest first.
func numberBytes(n uint64) iter.Seq[byte] {
	return func(yield func(byte) bool) {
		rest := n
		for rest >= follows {
			if !yield(byte(rest&low) | follows) {
				return
			}
			rest >>= width
		}
		yield(byte(rest))
	}
}

// Take is the number that bytes begin with, and how many they are.
func Take(s string) (uint64, int, api.Errno) {
	var n uint64
	for i, b := range firstBytes(s) {
		if i == maxBytes-1 && b > maxTenth {
			return 0, 0, api.ErrRange
		}
		n |= uint64(b&low) << (width * i)
		if b >= follows {
			continue
		}
		if b == 0 && i > 0 {
			return 0, 0, api.ErrForm
		}
		return n, i + 1, api.OK
	}
	return 0, 0, api.ErrShort
}

// firstBytes hands out the bytes of which a number can be made, with their places: those behind the tenth are none of it, whatever they are.
func firstBytes(s string) iter.Seq2[int, byte] {
	return func(yield func(int, byte) bool) {
		for i := range min(len(s), maxBytes) {
			if !yield(i, s[i]) {
				return
			}
		}
	}
}

// Zig is a number with a sign as one without.
func Zig(n int64) uint64 {
	if n >= 0 {
		return uint64(2 * n)
	}
	return uint64(-2*n - 1)
}

// Zag is that number again.
func Zag(n uint64) int64 {
	half := int64(n / 2)
	if n%2 == 0 {
		return half
	}
	return -half - 1
}

// PutText is a text with its length ahead.
func PutText(s string) string {
	if len(s) > api.MaxText {
		return ""
	}
	return Put(uint64(len(s))) + s
}

// TakeText is the text that bytes begin with, and how many they are.
func TakeText(s string) (string, int, api.Errno) {
	size, head, err := Take(s)
	if err != api.OK {
		return "", 0, err
	}
	// Asked ahead of any sum with it: a great length must not wrap round as an int.
	if size > api.MaxText {
		return "", 0, api.ErrRange
	}
	end := head + int(size)
	if end > len(s) {
		return "", 0, api.ErrShort
	}
	// A piece of s would keep all of s in memory.
	return strings.Clone(s[head:end]), end, api.OK
}
