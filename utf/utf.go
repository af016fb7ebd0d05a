// Package utf is layer 1: see shared/doc/01-utf.md.
package utf

import "colophon/api"

// Size tells how many bytes a scalar value's form has; 0, if r is none.
func Size(r rune) int {
	switch {
	case r < 0:
		return 0
	case r < 128:
		return 1
	case r < 2048:
		return 2
	case r >= 55296 && r <= 57343:
		return 0
	case r < 65536:
		return 3
	case r <= 1114111:
		return 4
	}
	return 0
}

// Encode tells scalar values as bytes; or the place of the first number that is none, and ErrScalar.
func Encode(l []rune) ([]byte, int, api.Errno) {
	total := 0
	for i, r := range l {
		size := Size(r)
		if size == 0 {
			return nil, i, api.ErrScalar
		}
		total += size
	}
	b := make([]byte, 0, total)
	for _, r := range l {
		b = appendForm(b, r)
	}
	return b, 0, api.OK
}

// Decode tells bytes as scalar values; or the least place at which no form begins, and ErrUtf.
func Decode(b []byte) ([]rune, int, api.Errno) {
	count, end := measure(b)
	if end < len(b) {
		return nil, end, api.ErrUtf
	}
	l := make([]rune, count)
	at := 0
	for i := range l {
		r, size := readForm(b[at:])
		l[i] = r
		at += size
	}
	return l, 0, api.OK
}

// Count tells how many scalar values bytes are; ErrUtf, if they are no text.
func Count(b []byte) (int, api.Errno) {
	count, end := measure(b)
	if end < len(b) {
		return 0, api.ErrUtf
	}
	return count, api.OK
}

// Cut tells the length of the longest beginning of at most n bytes that is a text.
func Cut(b []byte, n int) int {
	if n < 0 {
		return 0
	}
	// No form is the beginning of another one, so the forms that are read from the front are the only ones there can be.
	_, end := measure(b[:min(n, len(b))])
	return end
}

// measure tells how many forms stand one behind the other at the front of b, and where they end.
func measure(b []byte) (count, end int) {
	for {
		_, size := readForm(b[end:])
		if size == 0 {
			return count, end
		}
		count++
		end += size
	}
}

// readForm tells the scalar value whose form stands at the front of b, and the form's size; the size is 0, if none stands there, as at the end of all bytes.
func readForm(b []byte) (rune, int) {
	var r rune
	var size int
	if len(b) == 0 {
		goto none
	}
	r, size = readFirst(b[0])
	if size == 0 || size > len(b) {
		goto none
	}
	for _, c := range b[1:size] {
		if c < 128 || c > 191 {
			goto none
		}
		r = r*64 + rune(c-128)
	}
	// A form that is longer than it need be, and that of a number that is no scalar value, show only in the whole number.
	if Size(r) != size {
		goto none
	}
	return r, size
none:
	return 0, 0
}

// readFirst tells what a form's first byte holds of its scalar value, and the form's size; the size is 0, if no form begins with c.
func readFirst(c byte) (rune, int) {
	switch {
	case c < 128:
		return rune(c), 1
	case c < 192:
		return 0, 0
	case c < 224:
		return rune(c - 192), 2
	case c < 240:
		return rune(c - 224), 3
	case c < 248:
		return rune(c - 240), 4
	}
	return 0, 0
}

// appendForm puts the form of r, which is a scalar value, behind b.
func appendForm(b []byte, r rune) []byte {
	switch Size(r) {
	case 1:
		return append(b, byte(r))
	case 2:
		return append(b, byte(192+r/64), further(r))
	case 3:
		return append(b, byte(224+r/4096), further(r/64), further(r))
	}
	return append(b, byte(240+r/262144), further(r/4096), further(r/64), further(r))
}

// further tells the byte of a form, behind its first, that holds the lowest six bits of v.
func further(v rune) byte { return byte(128 + v%64) }
