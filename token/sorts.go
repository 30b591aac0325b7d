package token

import (
	"strings"
)

// byteSort is all that a byte's place in a token hangs on, but for signs and for a float's point, e and sign.
type byteSort uint8

const (
	strange byteSort = iota
	blank
	letter
	digit
	mark
)

// marks are the bytes that signs are made of: each is a sign by itself, so that the first byte settles that there is one.
const marks = "(){}[],;=!<>+-*/%&|^"

func sortOf(c byte) byteSort {
	switch {
	case c == ' ', c == '\t', c == '\n', c == '\r':
		return blank
	case c == '_':
		fallthrough
	case 'A' <= c && c <= 'Z':
		fallthrough
	case 'a' <= c && c <= 'z':
		return letter
	case '0' <= c && c <= '9':
		return digit
	case strings.IndexByte(marks, c) >= 0:
		return mark
	}
	return strange
}
