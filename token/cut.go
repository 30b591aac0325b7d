package token

import (
	"strings"

	"smithy/api"
)

// source is a text whose places are asked; a place at its end or past it is none of any byte.
type source string

// row is the place behind the row of bytes, from at on, that are of one of the sorts.
func (s source) row(at int, sorts ...byteSort) int {
next:
	for ; at < len(s); at++ {
		found := sortOf(s[at])
		for _, wanted := range sorts {
			if found == wanted {
				continue next
			}
		}
		return at
	}
	return at
}

func (s source) has(at int, c byte) bool {
	return at < len(s) && s[at] == c
}

// gap is the place behind all blanks and remarks from at on.
func (s source) gap(at int) int {
	at = s.row(at, blank)
	for s.has(at, '/') && s.has(at+1, '/') {
		at = s.row(s.line(at), blank)
	}
	return at
}

// line is the place of the next byte 10 from at on, or the end: no other byte ends a remark.
func (s source) line(at int) int {
	n := strings.IndexByte(string(s[at:]), '\n')
	if n < 0 {
		return len(s)
	}
	return at + n
}

func (s source) name(at int) (api.Token, api.Fault) {
	end := s.row(at, letter, digit)
	if end-at > api.MaxName {
		return refused(at)
	}
	if Word(string(s[at:end])) {
		return taken(api.TokWord, at, end)
	}
	return taken(api.TokName, at, end)
}

func (s source) number(at int) (api.Token, api.Fault) {
	end := s.row(at, digit)
	if s.has(end, '.') {
		return s.float(at, end+1)
	}
	tail := s.row(end, letter, digit)
	switch s[end:tail] {
	case "", "i64", "i32", "u8":
		return taken(api.TokInt, at, tail)
	}
	return refused(end)
}

// float goes on behind the point of the literal that begins at at.
func (s source) float(at, fraction int) (api.Token, api.Fault) {
	end := s.row(fraction, digit)
	if end == fraction {
		return refused(end)
	}
	if s.has(end, 'e') {
		power := s.signed(end + 1)
		end = s.row(power, digit)
		if end == power {
			return refused(end)
		}
	}
	// A point here is refused at its own place in any case: it begins no token.
	if s.row(end, letter) > end {
		return refused(end)
	}
	return taken(api.TokFloat, at, end)
}

// signed is the place behind the + or - at at, if one stands there.
func (s source) signed(at int) int {
	if s.has(at, '+') || s.has(at, '-') {
		return at + 1
	}
	return at
}

func (s source) sign(at int) (api.Token, api.Fault) {
	if at+2 <= len(s) {
		switch s[at : at+2] {
		case "==", "!=", "<=", ">=", "<<", ">>", "&&", "||":
			return taken(api.TokSign, at, at+2)
		}
	}
	return taken(api.TokSign, at, at+1)
}
