package token_test

import (
	"regexp"
	"slices"
	"strings"
	"testing"

	"smithy/api"
	"smithy/token"
)

var (
	gapText  = regexp.MustCompile(`^(?:[ \t\n\r]|//[^\n]*(?:\n|$))*`)
	wantsOne = []*regexp.Regexp{ // what is begun, and the place that must have a digit
		regexp.MustCompile(`^[0-9]+\.()(?:[^0-9]|$)`),
		regexp.MustCompile(`^[0-9]+\.[0-9]+e()(?:[^0-9+-]|$)`),
		regexp.MustCompile(`^[0-9]+\.[0-9]+e[+-]()(?:[^0-9]|$)`),
	}
	floatText = regexp.MustCompile(`^[0-9]+\.[0-9]+(?:e[+-]?[0-9]+)?`)
	afterLit  = regexp.MustCompile(`^[A-Za-z0-9_.]`)
	wholeText = regexp.MustCompile(`^([0-9]+)([A-Za-z0-9_]*)`)
	nameText  = regexp.MustCompile(`^[A-Za-z_][A-Za-z0-9_]*`)
	signText  = regexp.MustCompile(`^(?:==|!=|<=|>=|<<|>>|&&|\|\||[(){}\[\],;=<>+*/%&|^!-])`)
	alphabets = []string{"1.e+-x", "5i642u8.", "a9 /\n$", "=<>!&|", "0.e_\x80/", "1. \n/é"}
)

// asSaid is what the chapter's words say of a source, read off by patterns.
func asSaid(src string) ([]api.Token, api.Fault) {
	var l []api.Token
	at := 0
	for {
		at += len(gapText.FindString(src[at:]))
		if at == len(src) {
			return append(l, api.Token{Kind: api.TokEnd, At: at, End: at}), api.Fault{}
		}
		kind, n := nextSaid(src[at:])
		if kind == 0 {
			return nil, api.Fault{Err: api.ErrText, At: at + n}
		}
		l = append(l, api.Token{Kind: kind, At: at, End: at + n})
		at += n
	}
}

// nextSaid is the first token's kind and length, or 0 and the fault's place.
func nextSaid(s string) (api.TokenKind, int) {
	for _, r := range wantsOne {
		if m := r.FindStringSubmatchIndex(s); m != nil {
			return 0, m[2]
		}
	}
	if n := len(floatText.FindString(s)); n > 0 {
		if afterLit.MatchString(s[n:]) {
			return 0, n
		}
		return api.TokFloat, n
	}
	if m := wholeText.FindStringSubmatch(s); m != nil {
		if slices.Contains([]string{"", "i64", "i32", "u8"}, m[2]) {
			return api.TokInt, len(m[0])
		}
		return 0, len(m[1])
	}
	if name := nameText.FindString(s); len(name) > 32 {
		return 0, 0
	} else if slices.Contains(words, name) {
		return api.TokWord, len(name)
	} else if name != "" {
		return api.TokName, len(name)
	}
	if n := len(signText.FindString(s)); n > 0 {
		return api.TokSign, n
	}
	return 0, 0
}

// each calls do with each text of at most n bytes of an alphabet.
func each(alphabet string, n int, do func(string)) {
	row := []string{""}
	for i := 0; ; i++ {
		for _, s := range row {
			do(s)
		}
		if i == n {
			return
		}
		var longer []string
		for _, s := range row {
			for j := range len(alphabet) {
				longer = append(longer, s+alphabet[j:j+1])
			}
		}
		row = longer
	}
}

func TestAsSaidAtAllShortSources(t *testing.T) {
	for _, alphabet := range alphabets {
		each(alphabet, 5, func(src string) {
			l, f := token.Scan(src)
			want, fault := asSaid(src)
			if f != fault || !slices.Equal(l, want) {
				t.Errorf("Scan(%q) = %v, %v; want %v, %v", src, l, f, want, fault)
			}
		})
	}
}

// Long sources without a pattern, of pieces that often go together wrongly.
func TestAsSaidAtLongSources(t *testing.T) {
	bits := []string{" ", "\n", "//", "/", "1", "0", ".", "e", "+", "-", "i64", "u8", "x", "_", "while", "=", "<", "&", ";", "(", "a b", "1.5", "2.5e-1", "\r\t", "nnnnnnnnnnnnnnnn"}
	w := uint64(0x9e3779b97f4a7c15)
	took := 0
	for range 20000 {
		var b strings.Builder
		for range 1 + w>>32%12 {
			w ^= w << 13
			w ^= w >> 7
			w ^= w << 17
			b.WriteString(bits[w>>16%uint64(len(bits))])
		}
		l, f := token.Scan(b.String())
		want, fault := asSaid(b.String())
		if f != fault || !slices.Equal(l, want) {
			t.Fatalf("Scan(%q) = %v, %v; want %v, %v", b.String(), l, f, want, fault)
		}
		if f == (api.Fault{}) {
			took++
		}
	}
	if took < 1000 || took > 19000 {
		t.Errorf("%d of 20000 were taken: too one-sided a test", took)
	}
}

// P2.3: between tokens stand blanks and remarks alone, and nothing of them is left out or told twice.
func TestOnlyGapsBetweenTokens(t *testing.T) {
	for _, alphabet := range alphabets {
		each(alphabet, 5, func(src string) {
			l, f := token.Scan(src)
			if f != (api.Fault{}) {
				return
			}
			behind := 0
			for _, tok := range l {
				if gap := src[behind:tok.At]; gapText.FindString(gap) != gap {
					t.Errorf("%q: %q stands ahead of the token at %d", src, gap, tok.At)
				}
				behind = tok.End
			}
			if behind != len(src) || l[len(l)-1] != (api.Token{Kind: api.TokEnd, At: len(src), End: len(src)}) {
				t.Errorf("%q ends with %v", src, l[len(l)-1])
			}
		})
	}
}

// P2.3: each token by itself is a source with that token alone; with one blank between each two they are the same tokens.
func TestTokensStandByThemselves(t *testing.T) {
	for _, alphabet := range alphabets {
		each(alphabet, 4, func(src string) {
			l, f := token.Scan(src)
			if f != (api.Fault{}) {
				return
			}
			var texts []string
			var apart []api.Token
			at := 0
			for _, tok := range l[:len(l)-1] {
				text := src[tok.At:tok.End]
				wantTokens(t, text, []api.Token{{Kind: tok.Kind, End: len(text)}, {Kind: api.TokEnd, At: len(text), End: len(text)}})
				texts = append(texts, text)
				apart = append(apart, api.Token{Kind: tok.Kind, At: at, End: at + len(text)})
				at += len(text) + 1
			}
			joined := strings.Join(texts, " ")
			wantTokens(t, joined, append(apart, api.Token{Kind: api.TokEnd, At: len(joined), End: len(joined)}))
		})
	}
}

// P2.3: what is refused at a byte that is no letter and no digit is refused there whatever stands behind it.
func TestRefusedWhateverIsBehind(t *testing.T) {
	seen := 0
	for _, alphabet := range alphabets {
		each(alphabet, 4, func(src string) {
			_, f := token.Scan(src)
			if f == (api.Fault{}) || f.At == len(src) || strings.IndexByte(letters+digits, src[f.At]) >= 0 {
				return
			}
			seen++
			for _, behind := range []string{"", "5", "x", "\n", ".", "e5", "+3", "$", "\x80", " a = 1;", "//", "\nfunc", strings.Repeat("9", 100)} {
				wantRefused(t, src[:f.At+1]+behind, f.At)
			}
		})
	}
	if seen < 100 {
		t.Errorf("only %d faults were looked at", seen)
	}
	wantRefused(t, "1.$"+strings.Repeat("y", api.MaxSource-3), 2)
	wantLong(t, "1.$"+strings.Repeat("y", api.MaxSource-2))
}
