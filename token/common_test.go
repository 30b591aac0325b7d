package token_test

import (
	"slices"
	"strconv"
	"testing"

	"smithy/api"
	"smithy/token"
)

const (
	letters = "abcdefghijklmnopqrstuvwxyzABCDEFGHIJKLMNOPQRSTUVWXYZ_"
	digits  = "0123456789"
	blanks  = " \t\n\r"
)

var (
	signs = []string{"(", ")", "{", "}", "[", "]", ",", ";", "=", "==", "!=", "<", "<=", ">", ">=", "<<", ">>",
		"+", "-", "*", "/", "%", "&", "&&", "|", "||", "^", "!"}
	words = []string{"func", "var", "if", "else", "while", "break", "continue", "return", "print",
		"true", "false", "i64", "i32", "u8", "bool", "f64"}
	names  = []string{"a", "Z", "_", "_1", "x0y", "While", "funcs", "_func", "e5", "u88", "i", "i16", "f32", "abcdefghijklmnopqrstuvwxyz_ABCDE"}
	wholes = []string{"0", "7", "00", "1234567890", "0012i64", "5i32", "5u8", "99999999999999999999999", "0u8"}
	floats = []string{"1.5", "0.0", "00.10", "1.5e3", "1.5e+3", "1.5e-3", "1.5e007", "123.456e789"}
)

// piece is a token with its text, ahead of knowing where it stands.
type piece struct {
	kind api.TokenKind
	text string
}

// pieces are tokens of all kinds, all words and signs among them.
func pieces() []piece {
	var l []piece
	for _, row := range []struct {
		kind  api.TokenKind
		texts []string
	}{{api.TokSign, signs}, {api.TokWord, words}, {api.TokName, names}, {api.TokInt, wholes}, {api.TokFloat, floats}} {
		for _, s := range row.texts {
			l = append(l, piece{row.kind, s})
		}
	}
	return l
}

// laid is the source of some pieces with a gap ahead of each and one behind the last, and its tokens.
func laid(gap string, l ...piece) (string, []api.Token) {
	src := ""
	var want []api.Token
	for _, p := range l {
		src += gap
		want = append(want, api.Token{Kind: p.kind, At: len(src), End: len(src) + len(p.text)})
		src += p.text
	}
	src += gap
	return src, append(want, api.Token{Kind: api.TokEnd, At: len(src), End: len(src)})
}

func wantTokens(t *testing.T, src string, want []api.Token) {
	t.Helper()
	l, f := token.Scan(src)
	if f != (api.Fault{}) || !slices.Equal(l, want) {
		t.Errorf("Scan(%s) = %v, %v; want %v", short(src), l, f, want)
	}
}

func wantRefused(t *testing.T, src string, at int) {
	t.Helper()
	l, f := token.Scan(src)
	if f != (api.Fault{Err: api.ErrText, At: at}) || len(l) > 0 {
		t.Errorf("Scan(%s) = %v, %v; want ErrText at %d", short(src), l, f, at)
	}
}

func wantLong(t *testing.T, src string) {
	t.Helper()
	l, f := token.Scan(src)
	if f != (api.Fault{Err: api.ErrLong}) || len(l) > 0 {
		t.Errorf("Scan of %d bytes: %d tokens, %v; want ErrLong at 0", len(src), len(l), f)
	}
}

// taken are the tokens of a source that must be right.
func taken(t *testing.T, src string) []api.Token {
	t.Helper()
	l, f := token.Scan(src)
	if f != (api.Fault{}) || len(l) == 0 {
		t.Fatalf("Scan(%s) = %v, %v; want tokens", short(src), l, f)
	}
	return l
}

// short is a source as a remark of a test shows it.
func short(src string) string {
	if len(src) > 80 {
		src = src[:40] + " .. " + src[len(src)-30:]
	}
	return strconv.Quote(src)
}
