package token_test

import (
	"slices"
	"strings"
	"testing"

	"smithy/api"
	"smithy/token"
)

func TestEachTokenAlone(t *testing.T) {
	for _, p := range pieces() {
		src, want := laid("", p)
		wantTokens(t, src, want)
		for _, gap := range []string{" ", "\t", "\r", "\n", " \r\n\t ", " //\n", "\t// x = 1.5e $ \x80 // y\n", "\n//\r//\n \n//\t\n"} {
			src, want := laid(gap, p)
			wantTokens(t, src, want)
		}
	}
}

func TestEachTwoTokens(t *testing.T) {
	for _, p := range pieces() {
		for _, q := range pieces() {
			for _, gap := range []string{" ", "\n", " //\n"} {
				src, want := laid(gap, p, q)
				wantTokens(t, src, want)
			}
		}
	}
}

func TestTokensInARow(t *testing.T) {
	src, want := laid("\n", pieces()...)
	wantTokens(t, src, want)
}

func TestNoTokens(t *testing.T) {
	for _, src := range []string{"", " ", "\t\r\n ", "//", "// x", "// x\n", "//\n//", " // a // b\r\n\t// c", "///", "////", "// \x80\xff$."} {
		wantTokens(t, src, []api.Token{{Kind: api.TokEnd, At: len(src), End: len(src)}})
	}
}

func TestRemarks(t *testing.T) {
	const name, sign, end = api.TokName, api.TokSign, api.TokEnd
	wantTokens(t, "a// b", []api.Token{{Kind: name, End: 1}, {Kind: end, At: 5, End: 5}})
	wantTokens(t, "a//", []api.Token{{Kind: name, End: 1}, {Kind: end, At: 3, End: 3}})
	wantTokens(t, "a//b\rc", []api.Token{{Kind: name, End: 1}, {Kind: end, At: 6, End: 6}})
	wantTokens(t, "// b\na", []api.Token{{Kind: name, At: 5, End: 6}, {Kind: end, At: 6, End: 6}})
	wantTokens(t, "a / / b", []api.Token{{Kind: name, End: 1}, {Kind: sign, At: 2, End: 3}, {Kind: sign, At: 4, End: 5}, {Kind: name, At: 6, End: 7}, {Kind: end, At: 7, End: 7}})
	wantTokens(t, "/=", []api.Token{{Kind: sign, End: 1}, {Kind: sign, At: 1, End: 2}, {Kind: end, At: 2, End: 2}})
	wantTokens(t, "/ ///\n/", []api.Token{{Kind: sign, End: 1}, {Kind: sign, At: 6, End: 7}, {Kind: end, At: 7, End: 7}})
	wantTokens(t, "a//b\n//c\nd", []api.Token{{Kind: name, End: 1}, {Kind: name, At: 9, End: 10}, {Kind: end, At: 10, End: 10}})
}

// The longest sign stands, and the next one begins behind it.
func TestLongestSign(t *testing.T) {
	for src, texts := range map[string]string{
		"===": "== =", "====": "== ==", "<<=": "<< =", "<=<": "<= <", "<==": "<= =", "<<<": "<< <", ">>>": ">> >", ">>=": ">> =",
		">==": ">= =", "!==": "!= =", "!!=": "! !=", "&&&": "&& &", "|||": "|| |", "&|&": "& | &", "<>": "< >", "><": "> <",
		"=<": "= <", "=>": "= >", "=!": "= !", "=!=": "= !=", "++": "+ +", "--": "- -", "**": "* *", "^^": "^ ^", "%%": "% %",
		"+=": "+ =", "-=": "- =", "&=": "& =", "|=": "| =", "^=": "^ =", "/*": "/ *", "([{}])": "( [ { } ] )", ",;": ", ;", ";;": "; ;",
	} {
		var want []api.Token
		at := 0
		for _, s := range strings.Fields(texts) {
			want = append(want, api.Token{Kind: api.TokSign, At: at, End: at + len(s)})
			at += len(s)
		}
		wantTokens(t, src, append(want, api.Token{Kind: api.TokEnd, At: at, End: at}))
	}
}

// Of any two bytes of signs, the two are one sign, or each is one.
func TestEachTwoBytesOfSigns(t *testing.T) {
	single := strings.Join(signs, "")
	for _, a := range single {
		for _, b := range single {
			src := string(a) + string(b)
			want := []api.Token{{Kind: api.TokSign, End: 1}, {Kind: api.TokSign, At: 1, End: 2}}
			if slices.Contains(signs, src) {
				want = []api.Token{{Kind: api.TokSign, End: 2}}
			} else if src == "//" {
				want = nil
			}
			wantTokens(t, src, append(want, api.Token{Kind: api.TokEnd, At: 2, End: 2}))
		}
	}
}

// A sign behind a name or a literal cuts it off without a blank.
func TestSignsBehind(t *testing.T) {
	for _, p := range pieces() {
		if p.kind == api.TokSign {
			continue
		}
		for _, s := range signs {
			src, want := laid("", p, piece{api.TokSign, s}, p)
			wantTokens(t, src, want)
		}
	}
}

func TestNamesOfEachLength(t *testing.T) {
	for n := 1; n <= 40; n++ {
		for _, last := range []string{"a", "Z", "_", "7"} {
			name := ("x" + strings.Repeat(last, 40))[:n]
			if n > api.MaxName {
				wantRefused(t, name, 0)
				wantRefused(t, "a = "+name+" ;", 4)
				continue
			}
			src, want := laid("", piece{api.TokName, name})
			wantTokens(t, src, want)
		}
	}
}

func TestLiteralsHaveNoLimit(t *testing.T) {
	row := strings.Repeat("9", 1000)
	for _, p := range []piece{{api.TokInt, row}, {api.TokInt, row + "u8"}, {api.TokFloat, row + "." + row + "e-" + row}} {
		src, want := laid("", p)
		wantTokens(t, src, want)
	}
}

func TestLongestSource(t *testing.T) {
	const most = api.MaxSource
	end := api.Token{Kind: api.TokEnd, At: most, End: most}
	wantTokens(t, strings.Repeat(" ", most), []api.Token{end})
	wantTokens(t, "//"+strings.Repeat("$", most-2), []api.Token{end})
	wantTokens(t, strings.Repeat("5", most), []api.Token{{Kind: api.TokInt, End: most}, end})
	wantTokens(t, strings.Repeat(" ", most-1)+"a", []api.Token{{Kind: api.TokName, At: most - 1, End: most}, end})
	var signs []api.Token
	for at := range most {
		signs = append(signs, api.Token{Kind: api.TokSign, At: at, End: at + 1})
	}
	wantTokens(t, strings.Repeat("+", most), append(signs, end))
	wantRefused(t, strings.Repeat(" ", most-1)+"$", most-1)
	wantRefused(t, strings.Repeat(" ", most-2)+"1.", most)
}

// What is too long is refused ahead of all else.
func TestTooLongSource(t *testing.T) {
	for _, src := range []string{" ", "a", "$", "5", "\x80", "//"} {
		wantLong(t, strings.Repeat(src, api.MaxSource+1))
		wantLong(t, strings.Repeat(" ", api.MaxSource)+src)
		wantLong(t, strings.Repeat(src, 3*api.MaxSource))
	}
}

func TestWord(t *testing.T) {
	for _, s := range words {
		if !token.Word(s) {
			t.Errorf("%q is a word", s)
		}
		for _, other := range []string{s + "_", "_" + s, s + " ", " " + s, s + "0", s[1:], s[:len(s)-1], strings.ToUpper(s), strings.ToUpper(s[:1]) + s[1:], s + s, s + "\x00"} {
			if token.Word(other) {
				t.Errorf("%q is no word", other)
			}
		}
	}
	for _, s := range append(append([]string{"", "main", "int", "for", "else if", "f32", "u64", "i8", "str", "\x80", strings.Repeat("if", 1<<16)}, names...), signs...) {
		if token.Word(s) {
			t.Errorf("%s is no word", short(s))
		}
	}
}

// What one call answers is not what another one answers: it may be changed, and grown.
func TestAnswersAreNew(t *testing.T) {
	first := taken(t, "a + 1")
	other := taken(t, "a + 1")
	clear(first[:cap(first)])
	_ = append(first, api.Token{Kind: api.TokSign})
	src, want := laid(" ", piece{api.TokName, "a"}, piece{api.TokSign, "+"}, piece{api.TokInt, "1"})
	wantTokens(t, src, want)
	if other[0] != (api.Token{Kind: api.TokName, End: 1}) || len(other) != 4 {
		t.Error("two answers share memory")
	}
}
