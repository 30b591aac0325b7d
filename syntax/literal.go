package syntax

import (
	"math"
	"strconv"
	"strings"

	"smithy/api"
	"smithy/scalar"
)

// infinity is the word of F64 above those of all finite floats from 0 on, and below all others.
const infinity = 0x7ff0000000000000

// literalWord tells whether w is the word of a literal of the type t; none is below 0, as a literal has no sign.
func literalWord(t api.Type, w uint64) bool {
	if t == api.F64 {
		return w < infinity
	}
	return int64(w) >= 0 && scalar.Right(t, w)
}

func (p *parser) literal() int {
	t, w, ok := wordOf(p.next().Kind, p.text())
	if !ok || !literalWord(t, w) {
		p.stop(api.ErrLiteral)
	}
	return p.put(api.Node{Kind: api.NodeLit, At: p.pass(), Type: t, Bits: w})
}

// wordOf is a literal's type and word, which may be beyond it, or false, if it is beyond all types.
func wordOf(kind api.TokenKind, text string) (api.Type, uint64, bool) {
	switch {
	case text == "true":
		return api.Bool, 1, true
	case text == "false":
		return api.Bool, 0, true
	case kind == api.TokFloat:
		return api.F64, floatWord(text), true
	}
	return wholeWord(text)
}

// wholeWord is the type of a whole literal and the number that its digits say.
func wholeWord(text string) (api.Type, uint64, bool) {
	t := api.I64
	digits := text
	if cut := strings.IndexAny(text, "iu"); cut >= 0 {
		t = typeOf(text[cut:])
		digits = text[:cut]
	}
	n, err := strconv.ParseUint(digits, 10, 63)
	return t, n, err == nil
}

// floatWord is the word of the float that is nearest to what a literal says. The exponent is reckoned with the point's place first: strconv does not read one of six digits or more to its end, though there may be as many noughts to make up for it.
func floatWord(text string) uint64 {
	number, power, _ := strings.Cut(text, "e")
	whole, fraction, _ := strings.Cut(number, ".")
	digits := strings.TrimLeft(whole+fraction, "0")
	exponent, _ := strconv.ParseInt(power, 10, 32) // none is 0, and one too great as great as can be
	scale := len(digits) - len(fraction) + int(exponent)
	// Beyond 400 of either sign the float is 0 or infinite, whatever the digits are.
	scale = max(-400, min(scale, 400))
	f, _ := strconv.ParseFloat("0."+digits+"e"+strconv.Itoa(scale), 64)
	return math.Float64bits(f)
}

// size is an array's size, which must stand here.
func (p *parser) size() int {
	if p.next().Kind != api.TokInt {
		p.stop(api.ErrSyntax)
	}
	n, err := strconv.ParseUint(p.text(), 10, 63)
	if err != nil || n < 1 || n > api.MaxArray {
		p.stop(api.ErrLiteral)
	}
	p.pass()
	return int(n)
}
