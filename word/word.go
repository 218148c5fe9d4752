// Package word is layer 1: bit fields of words, sign extension, and the order
// of bytes. See shared/doc/01-word.md.
package word

import (
	"spinnaker/api"
)

const (
	wordBits = 32
	longBits = 64

	wordBytes = wordBits / 8
	longBytes = longBits / 8
)

// Get returns the n-bit field of w that starts at bit at.
func Get(w uint32, at, n int) (uint32, api.Errno) {
	if !isField(at, n) {
		return 0, api.ErrRange
	}
	return (w >> at) & ones(n), api.OK
}

// Put returns w with its n-bit field at bit at replaced by the n least
// significant bits of v.
func Put(w uint32, at, n int, v uint32) (uint32, api.Errno) {
	if !isField(at, n) {
		return 0, api.ErrRange
	}
	return w&^(ones(n)<<at) | (v&ones(n))<<at, api.OK
}

// Sign returns the signed number that the n least significant bits of v form.
func Sign(v uint32, n int) (int, api.Errno) {
	if !isWidth(n, wordBits) {
		return 0, api.ErrRange
	}
	above := wordBits - n
	return int(int32(v<<above) >> above), api.OK
}

// Fits reports whether v is a signed n-bit number.
func Fits(v, n int) bool {
	if !isWidth(n, longBits) {
		return false
	}
	// What is left of v beside its n-1 lower bits is nothing but its sign.
	rest := v >> (n - 1)
	return rest == 0 || rest == -1
}

// Bytes returns the bytes of w, least significant first.
func Bytes(w uint32) []byte {
	return split(uint64(w), wordBytes)
}

// Word returns the word whose bytes start at b[at].
func Word(b []byte, at int) (uint32, api.Errno) {
	v, e := join(b, at, wordBytes)
	return uint32(v), e
}

// Long returns the bytes of v, least significant first.
func Long(v int) []byte {
	return split(uint64(v), longBytes)
}

// Number returns the number whose bytes start at b[at].
func Number(b []byte, at int) (int, api.Errno) {
	v, e := join(b, at, longBytes)
	return int(v), e
}

// isWidth reports whether n is a width of at most limit bits.
func isWidth(n, limit int) bool {
	return 1 <= n && n <= limit
}

// isField reports whether a word has an n-bit field at bit at. It compares at
// with the room that n leaves, because at + n might overflow.
func isField(at, n int) bool {
	return isWidth(n, wordBits) && 0 <= at && at <= wordBits-n
}

// ones returns a word whose n least significant bits are set; 1 <= n <= 32.
func ones(n int) uint32 {
	return ^uint32(0) >> (wordBits - n)
}

// split returns the n lowest bytes of v, least significant first.
func split(v uint64, n int) []byte {
	b := make([]byte, n)
	for i := range n {
		b[i] = byte(v >> (8 * i))
	}
	return b
}

// join returns the number that the n bytes from b[at] on form, the least
// significant one first, or ErrNone if b has no such bytes.
func join(b []byte, at, n int) (uint64, api.Errno) {
	// at + n might overflow; len(b) - n does not.
	if at < 0 || at > len(b)-n {
		return 0, api.ErrNone
	}
	var v uint64
	for i := range n {
		v |= uint64(b[at+i]) << (8 * i)
	}
	return v, api.OK
}
