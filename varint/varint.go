// Package varint writes and reads numbers of any length: see doc/01-varint.md.
package varint

import (
	"columbarium/api"
)

const (
	digitBits = 7
	lowBits   = 1<<digitBits - 1
	more      = 1 << digitBits // set in a byte that another one follows
	longest   = 10             // bytes of 2^64 - 1
	topDigit  = 1              // all that 64 bits leave for the tenth byte
)

// Put answers b's bytes and then n's, as few as may be.
func Put(b []byte, n uint64) []byte {
	return addNumber(withRoom(b, longest), n)
}

// withRoom never answers b itself: the room behind b's length is the caller's.
func withRoom(b []byte, room int) []byte {
	out := make([]byte, len(b), len(b)+room)
	copy(out, b)
	return out
}

func addNumber(out []byte, n uint64) []byte {
	for n > lowBits {
		out = append(out, byte(n&lowBits)|more)
		n >>= digitBits
	}
	return append(out, byte(n))
}

// Get reads the number that begins at at, and answers where it ends.
func Get(b []byte, at int) (uint64, int, api.Errno) {
	if at < 0 || at > len(b) {
		return 0, 0, api.ErrArg
	}
	// ErrEnd comes ahead of ErrForm: the last byte is looked for however far off it is.
	last := at
	for last < len(b) && b[last] >= more {
		last++
	}
	if last == len(b) {
		return 0, 0, api.ErrEnd
	}
	if !isShortest(last-at+1, b[last]) {
		return 0, 0, api.ErrForm
	}
	var n uint64
	for i := last; i >= at; i-- {
		n = n<<digitBits | uint64(b[i]&lowBits)
	}
	return n, last + 1, api.OK
}

// isShortest tells whether Put could have written so many bytes with that last one: no number has a second writing.
func isShortest(size int, last byte) bool {
	switch {
	case size == 1:
		return true
	case size < longest:
		return last != 0
	case size == longest:
		return last != 0 && last <= topDigit
	}
	return false
}

// Zig lays numbers of both signs on those from 0 on, so that small ones stay short.
func Zig(n int64) uint64 {
	if n < 0 {
		return ^(uint64(n) << 1)
	}
	return uint64(n) << 1
}

// Zag takes back what Zig did.
func Zag(n uint64) int64 {
	half := int64(n >> 1)
	if n&1 == 1 {
		return ^half
	}
	return half
}

// PutText answers b's bytes, s's length and s's bytes.
func PutText(b []byte, s string) []byte {
	out := withRoom(b, longest+len(s))
	out = addNumber(out, uint64(len(s)))
	return append(out, s...)
}

// GetText reads a text of at most most bytes that begins at at, and answers where it ends.
func GetText(b []byte, at, most int) (string, int, api.Errno) {
	size, start, why := Get(b, at)
	if why != api.OK {
		return "", 0, why
	}
	if size > uint64(max(most, 0)) {
		return "", 0, api.ErrLong
	}
	// Held against what is left, not added to start: a sum could wrap round.
	if size > uint64(len(b)-start) {
		return "", 0, api.ErrEnd
	}
	end := start + int(size)
	return string(b[start:end]), end, api.OK
}
