package syntax_test

import (
	"slices"
	"strings"
	"testing"

	"smithy/api"
	"smithy/syntax"
)

// grammar is the document's, a rule a line; words and signs have a ' ahead, NAME, INT, FLOAT and END stand for tokens of those kinds.
const grammar = `
all = source END
source =
source = func source
func = 'func NAME '( params ') type block
params =
params = param more
param = NAME type
more =
more = ', param more
type = 'i64
type = 'i32
type = 'u8
type = 'bool
type = 'f64
block = '{ stmts '}
stmts =
stmts = stmt stmts
stmt = 'var NAME type '= expr ';
stmt = 'var NAME '[ INT '] type ';
stmt = NAME '= expr ';
stmt = NAME '[ expr '] '= expr ';
stmt = call ';
stmt = if
stmt = 'while expr block
stmt = 'break ';
stmt = 'continue ';
stmt = 'return expr ';
stmt = 'print expr ';
if = 'if expr block
if = 'if expr block 'else block
if = 'if expr block 'else if
call = NAME '( args ')
args =
args = expr others
others =
others = ', expr others
expr = both
expr = expr '|| both
both = order
both = both '&& order
order = sum
order = order '== sum
order = order '!= sum
order = order '< sum
order = order '<= sum
order = order '> sum
order = order '>= sum
sum = product
sum = sum '+ product
sum = sum '- product
sum = sum '| product
sum = sum '^ product
product = unary
product = product '* unary
product = product '/ unary
product = product '% unary
product = product '& unary
product = product '<< unary
product = product '>> unary
unary = '- unary
unary = '! unary
unary = primary
primary = INT
primary = FLOAT
primary = 'true
primary = 'false
primary = call
primary = NAME '[ expr ']
primary = NAME
primary = type '( expr ')
primary = '( expr ')
`

type rule struct {
	left  string
	right []string
}

// item is a rule of which so many parts have been read, from the column where it began.
type item struct {
	rule, read, began int
}

// reader knows, behind each token of a row, all ways in which the grammar may have read it.
type reader struct {
	rules   []rule
	byLeft  map[string][]int
	columns [][]item
}

func newReader() *reader {
	r := &reader{byLeft: map[string][]int{}}
	for i, line := range strings.Split(strings.TrimSpace(grammar), "\n") {
		left, right, _ := strings.Cut(line, " =")
		r.rules = append(r.rules, rule{left, strings.Fields(right)})
		r.byLeft[left] = append(r.byLeft[left], i)
	}
	r.columns = [][]item{r.closed(0, []item{{}})}
	return r
}

// next is the part that an item waits for, or none, if it is read.
func (r *reader) next(x item) string {
	if right := r.rules[x.rule].right; x.read < len(right) {
		return right[x.read]
	}
	return ""
}

// closed is a column at a place, with all that its items begin and end.
func (r *reader) closed(at int, column []item) []item {
	seen := map[item]bool{}
	ended := map[string]bool{} // parts that were read of no token at all
	var l []item
	add := func(x item) {
		if !seen[x] {
			seen[x] = true
			l = append(l, x)
		}
	}
	for _, x := range column {
		add(x)
	}
	for i := 0; i < len(l); i++ {
		x := l[i]
		part := r.next(x)
		for _, n := range r.byLeft[part] {
			add(item{n, 0, at})
		}
		if ended[part] {
			add(item{x.rule, x.read + 1, x.began})
		}
		if part != "" {
			continue
		}
		left, from := r.rules[x.rule].left, l
		if x.began < at {
			from = r.columns[x.began]
		} else {
			ended[left] = true
		}
		for _, y := range slices.Clone(from) {
			if r.next(y) == left {
				add(item{y.rule, y.read + 1, y.began})
			}
		}
	}
	return l
}

// read goes behind a token, and tells whether it can stand there.
func (r *reader) read(terminal string) bool {
	var l []item
	for _, x := range r.columns[len(r.columns)-1] {
		if r.next(x) == terminal {
			l = append(l, item{x.rule, x.read + 1, x.began})
		}
	}
	if len(l) == 0 {
		return false
	}
	r.columns = append(r.columns, r.closed(len(r.columns), l))
	return true
}

func (r *reader) back(columns int) { r.columns = r.columns[:columns] }

// terminal is what the grammar calls a token's text.
func terminal(text string) string {
	switch {
	case text == "":
		return "END"
	case slices.Contains(words, text):
		return "'" + text
	case strings.Contains("abcdefgh", text[:1]):
		return "NAME"
	case text[0] < '0' || text[0] > '9':
		return "'" + text
	case strings.Contains(text, "."):
		return "FLOAT"
	}
	return "INT"
}

// allTokens are all words and signs, and one of each other kind.
func allTokens() []string {
	l := append([]string{"a", "1", "1.5", "(", ")", "{", "}", "[", "]", ",", ";", "=", "!"}, words...)
	for _, row := range rows {
		l = append(l, row...)
	}
	return l
}

// tryAll holds Parse against the grammar at all rows of up to n further tokens behind those that were read, and tells how many.
func tryAll(t *testing.T, r *reader, ahead string, tokens []string, n int) int {
	columns := len(r.columns)
	want := api.Fault{Err: api.ErrSyntax, At: len(ahead)}
	if r.read("END") {
		want = api.Fault{}
		r.back(columns)
	}
	if _, f := syntax.Parse(ahead); f != want {
		t.Errorf("Parse(%q): %v; want %v", ahead, f, want)
	}
	tried := 1
	if n == 0 {
		return tried
	}
	for _, s := range tokens {
		longer := ahead + " " + s
		if r.read(terminal(s)) {
			tried += tryAll(t, r, longer, tokens, n-1)
			r.back(columns)
			continue
		}
		tried++
		want := api.Fault{Err: api.ErrSyntax, At: len(ahead) + 1}
		for _, behind := range []string{"", " a ) ; }"} {
			if _, f := syntax.Parse(longer + behind); f != want {
				t.Errorf("Parse(%q): %v; want %v", longer+behind, f, want)
			}
		}
	}
	return tried
}

// P3.1: ErrSyntax is at the first token that no source has there, whatever stands ahead and behind.
func TestAsTheGrammarSays(t *testing.T) {
	tried := 0
	for _, c := range []struct {
		ahead string
		n     int
	}{
		{"", 8}, {"func f ( a i64", 6}, {"func f ( ) i64 {", 4}, {"func f ( ) i64 { a = 1 ;", 2}, {"func f ( ) i64 { if a { }", 3}, {"func f ( ) i64 { if a { } else if b { }", 2}, {"func f ( ) i64 { if a { } else { }", 2},
		{"func f ( ) i64 { while a", 2}, {"func f ( ) i64 { return", 4}, {"func f ( ) i64 { print - ( a", 3}, {"func f ( ) i64 { a [ 1 ]", 3}, {"func f ( ) i64 { a ( b", 3}, {"func f ( ) i64 { print a ( b , c", 2},
		{"func f ( ) i64 { a = b [ 1", 2}, {"func f ( ) i64 { var a", 4}, {"func f ( ) i64 { var a [ 1", 5}, {"func f ( ) i64 { if i64 ( a )", 2}, {"func f ( ) i64 { }", 6}, {"func f ( ) i64 { break", 3}, {"func f ( ) i64 { if a { } else", 2},
	} {
		r := newReader()
		for _, s := range strings.Fields(c.ahead) {
			if !r.read(terminal(s)) {
				t.Fatalf("%q is not begun by any source", c.ahead)
			}
		}
		tried += tryAll(t, r, c.ahead, allTokens(), c.n)
	}
	if tried < 150000 {
		t.Errorf("only %d rows were tried", tried)
	}
}
