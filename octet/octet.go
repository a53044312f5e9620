// Package octet is layer 1: words of four bytes, hex digits, masks.
package octet

import "math/bits"

const (
	wordSize = 4
	digits   = "0123456789ABCDEF"
)

// Put is the four bytes of n, the least first.
func Put(n uint32) string {
	out := make([]byte, wordSize)
	for i := range wordSize {
		out[i] = byte(n >> (8 * i))
	}
	return string(out)
}

// Get is the number whose four bytes stand in s from at on; 0 and false, if there are not four.
func Get(s string, at int) (uint32, bool) {
	// at+wordSize could wrap, len(s)-wordSize cannot.
	if at < 0 || at > len(s)-wordSize {
		return 0, false
	}
	n := uint32(0)
	for i := range wordSize {
		n |= uint32(s[at+i]) << (8 * i)
	}
	return n, true
}

// Digit is what a hex digit, capital or small, is worth; 0 and false of another rune.
func Digit(r rune) (int, bool) {
	switch {
	case r >= '0' && r <= '9':
		return int(r - '0'), true
	case r >= 'A' && r <= 'F':
		return int(r-'A') + 10, true
	case r >= 'a' && r <= 'f':
		return int(r-'a') + 10, true
	}
	return 0, false
}

// Hex is each byte of s as two digits, the letters as capitals.
func Hex(s string) string {
	out := make([]byte, 0, 2*len(s))
	for i := range len(s) {
		out = append(out, digits[s[i]>>4], digits[s[i]&15])
	}
	return string(out)
}

// Unhex is the bytes whose digits these are, two by two; the empty text and false, if a rune is no digit or one is left over.
func Unhex(s string) (string, bool) {
	out := make([]byte, 0, len(s)/2)
	high, half := 0, false
	for _, r := range s {
		d, is := Digit(r)
		if !is {
			return "", false
		}
		if half {
			out = append(out, byte(high<<4|d))
		}
		high, half = d, !half
	}
	if half {
		return "", false
	}
	return string(out), true
}

// masked is a closure that tells what mask leaves of s's byte at a place of s.
func masked(s, mask string) func(int) byte {
	return func(at int) byte {
		if at >= len(mask) {
			return 0
		}
		return s[at] & mask[at]
	}
}

// Mask is each byte of s with just the bits that mask has at that place: none, where mask has ended.
func Mask(s, mask string) string {
	left := masked(s, mask)
	out := make([]byte, len(s))
	for i := range len(s) {
		out[i] = left(i)
	}
	return string(out)
}

// Differ tells whether a and b are of unlike length, or their Masks are unlike somewhere.
func Differ(a, b, mask string) bool {
	if len(a) != len(b) {
		return true
	}
	leftA, leftB := masked(a, mask), masked(b, mask)
	for i := range len(a) {
		if leftA(i) != leftB(i) {
			return true
		}
	}
	return false
}

// Ones is how many bits of s's bytes are set.
func Ones(s string) int {
	n := 0
	for i := range len(s) {
		n += bits.OnesCount8(s[i])
	}
	return n
}
