// Package num is layer 1: numbers as bytes, and as digits. See shared/doc/01-num.md.
package num

import (
	"bytes"
	"strconv"

	"oubliette/api"
)

const (
	mostBytes  = 8
	mostDigits = 18
	mostPadded = 65536
)

// Put: the lowest bits of n as size bytes, the highest byte first.
func Put(n uint64, size int) []byte {
	if size < 1 || size > mostBytes {
		return nil
	}
	out := make([]byte, size)
put:
	for at := size - 1; at >= 0; at-- {
		if n == 0 {
			break put // the bytes ahead are 0 as they were made
		}
		out[at] = byte(n)
		n >>= 8
	}
	return out
}

// Get: the number whose Put b is.
func Get(b []byte) (uint64, api.Fault) {
	if len(b) < 1 || len(b) > mostBytes {
		return 0, api.Form
	}
	var n uint64
	for _, c := range b {
		n = n<<8 | uint64(c)
	}
	return n, api.OK
}

// Print: the decimal digits of n; none below 0.
func Print(n int) string {
	if n < 0 {
		return ""
	}
	return strconv.Itoa(n)
}

// Parse: the number, at most most, whose digits s has.
func Parse(s string, most int) (int, api.Fault) {
	if len(s) < 1 || len(s) > mostDigits || len(s) > 1 && s[0] == '0' {
		return 0, api.Syntax
	}
	digit := func(at int) (int64, bool) {
		c := s[at]
		return int64(c) - '0', '0' <= c && c <= '9'
	}
	var n int64 // an int may be too small for 18 digits
	for at := range len(s) {
		d, ok := digit(at)
		if !ok {
			return 0, api.Syntax
		}
		n = 10*n + d
	}
	if n > int64(most) {
		return 0, api.Range
	}
	return int(n), api.OK
}

// Pad: the first size bytes of b, with 0 behind where b has fewer.
func Pad(b []byte, size int) []byte {
	if size < 1 || size > mostPadded {
		return nil
	}
	out := make([]byte, size)
	copy(out, b)
	return out
}

// Same: whether a and b have the same bytes.
func Same(a, b []byte) bool {
	return bytes.Equal(a, b)
}

// Xor: a put over b byte by byte, as far as both go.
func Xor(a, b []byte) []byte {
	out := make([]byte, min(len(a), len(b)))
	for at := range out {
		out[at] = a[at] ^ b[at]
	}
	return out
}
