// Package num: numbers as bytes: see doc/01-num.md.
package num

import (
	"daguerre/api"
)

const (
	maxBytes = 10      // of a number: 64 bits, seven a byte
	maxText  = 1 << 20 // bytes of a text that is read
	more     = 0x80    // another byte follows
	low      = 0x7f
)

// Put writes n behind b's bytes, into new memory.
func Put(b []byte, n int64) []byte {
	return appendNumber(copyWithRoom(b, maxBytes), n)
}

// Get reads the number at b's beginning and tells how many bytes it has.
func Get(b []byte) (int64, int, api.Errno) {
	var u uint64
	for i, x := range b {
		// Only one of the 64 bits is left for the last byte, whatever would follow it.
		if i == maxBytes-1 && x > 1 {
			return 0, 0, api.ErrForm
		}
		u |= uint64(x&low) << (7 * i)
		if x >= more {
			continue
		}
		if x == 0 && i > 0 {
			return 0, 0, api.ErrForm
		}
		return signed(u), i + 1, api.OK
	}
	return 0, 0, api.ErrMore
}

// PutText writes s's length and s behind b's bytes, into new memory.
func PutText(b []byte, s string) []byte {
	return append(appendNumber(copyWithRoom(b, maxBytes+len(s)), int64(len(s))), s...)
}

// GetText reads the text at b's beginning and tells how many bytes it has, its length's among them.
func GetText(b []byte) (string, int, api.Errno) {
	n, k, err := Get(b)
	if err != api.OK {
		return "", 0, err
	}
	if n < 0 || n > maxText {
		return "", 0, api.ErrForm
	}
	end := k + int(n)
	if end > len(b) {
		return "", 0, api.ErrMore
	}
	return string(b[k:end]), end, api.OK
}

// Four writes n as four bytes, the highest first.
func Four(n uint32) []byte {
	return []byte{byte(n >> 24), byte(n >> 16), byte(n >> 8), byte(n)}
}

// copyWithRoom exists because b's own spare room belongs to whoever handed it in.
func copyWithRoom(b []byte, room int) []byte {
	return append(make([]byte, 0, len(b)+room), b...)
}

func appendNumber(b []byte, n int64) []byte {
	u := unsigned(n)
	for u >= more {
		b = append(b, byte(u&low)|more)
		u >>= 7
	}
	return append(b, byte(u))
}

// unsigned is 2 n, or -2 n - 1 below 0; -n - 1 is ^n, which, unlike -n, the least int64 has, too.
func unsigned(n int64) uint64 {
	if n < 0 {
		return uint64(^n)<<1 | 1
	}
	return uint64(n) << 1
}

func signed(u uint64) int64 {
	if u&1 == 1 {
		return ^int64(u >> 1)
	}
	return int64(u >> 1)
}
