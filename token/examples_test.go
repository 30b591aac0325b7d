package token_test

import (
	"strings"
	"testing"

	"smithy/api"
	"smithy/token"
)

func TestExampleTokens(t *testing.T) {
	const name, word, whole, float, sign, end = api.TokName, api.TokWord, api.TokInt, api.TokFloat, api.TokSign, api.TokEnd
	wantTokens(t, "var x i64 = 5u8; // y", []api.Token{
		{Kind: word, At: 0, End: 3}, {Kind: name, At: 4, End: 5}, {Kind: word, At: 6, End: 9}, {Kind: sign, At: 10, End: 11},
		{Kind: whole, At: 12, End: 15}, {Kind: sign, At: 15, End: 16}, {Kind: end, At: 21, End: 21}})
	wantTokens(t, "a<=b<<1", []api.Token{
		{Kind: name, At: 0, End: 1}, {Kind: sign, At: 1, End: 3}, {Kind: name, At: 3, End: 4},
		{Kind: sign, At: 4, End: 6}, {Kind: whole, At: 6, End: 7}, {Kind: end, At: 7, End: 7}})
	wantTokens(t, "1.5e-3", []api.Token{{Kind: float, At: 0, End: 6}, {Kind: end, At: 6, End: 6}})
	wantTokens(t, "", []api.Token{{Kind: end, At: 0, End: 0}})
	wantTokens(t, "a//b\nc", []api.Token{{Kind: name, At: 0, End: 1}, {Kind: name, At: 5, End: 6}, {Kind: end, At: 6, End: 6}})
}

func TestExampleFaults(t *testing.T) {
	for _, c := range []struct {
		src string
		at  int
	}{
		{"5x", 1}, {"5i33", 1}, {"1.", 2}, {"1.e", 2}, {"1.5e", 4}, {"1.5e+", 5}, {"1.5f", 3}, {"a$", 1}, {".5", 0},
		{strings.Repeat("n", 33), 0}, {"1e5", 1}, {"ab \x80", 3}, {"1.5.2", 3},
	} {
		wantRefused(t, c.src, c.at)
	}
}

func TestOneWholeFunction(t *testing.T) {
	src := "func f(n i64) i64 { if n < 2 { return n; } return f(n - 1) + f(n - 2); } // sums\n"
	texts := strings.Fields("func f ( n i64 ) i64 { if n < 2 { return n ; } return f ( n - 1 ) + f ( n - 2 ) ; }")
	l := taken(t, src)
	if len(l) != len(texts)+1 {
		t.Fatalf("%d tokens, want %d", len(l), len(texts)+1)
	}
	for i, s := range texts {
		if got := src[l[i].At:l[i].End]; got != s {
			t.Errorf("token %d is %q, want %q", i, got, s)
		}
		if (l[i].Kind == api.TokWord) != token.Word(s) {
			t.Errorf("token %d, %q, has the kind %d", i, s, l[i].Kind)
		}
	}
}
