package token_test

import (
	"strings"
	"testing"

	"smithy/api"
)

// beginsNone tells whether a byte begins neither a token nor a gap.
func beginsNone(c byte) bool {
	return strings.IndexByte(letters+digits+blanks+strings.Join(signs, ""), c) < 0
}

func TestBytesThatBeginNoToken(t *testing.T) {
	for c := range 256 {
		b := string([]byte{byte(c)})
		if !beginsNone(byte(c)) {
			taken(t, b)
			continue
		}
		wantRefused(t, b, 0)
		wantRefused(t, "a"+b, 1)
		wantRefused(t, "a "+b+" b", 2)
		wantRefused(t, "5u8"+b, 3)
		wantRefused(t, "=="+b, 2)
		wantRefused(t, "// x"+b+"\n"+b, 6)
		if b != "." {
			wantRefused(t, "5"+b, 1)
			wantRefused(t, "1.5"+b, 3)
		}
	}
}

func TestPointsAlone(t *testing.T) {
	for src, at := range map[string]int{".": 0, ".5": 0, "..": 0, "a.b": 1, "5u8.5": 3, "5i64.": 4, "5i32.0": 4, "(.": 1, "1 .5": 2, "f64.": 3} {
		wantRefused(t, src, at)
	}
}

func TestBytesAbove127(t *testing.T) {
	for src, at := range map[string]int{"é": 0, "aé": 1, "x = ö;": 4, "1é": 1, "1.é": 2, "1.5é": 3, "1.5eé": 4, "\u00a0": 0, "a\u2028b": 1, "٣": 0, "\xff": 0} {
		wantRefused(t, src, at)
	}
}

// Of a name that is too long, the first byte; what stands ahead of it is looked at first.
func TestLongNames(t *testing.T) {
	long := strings.Repeat("n", api.MaxName+1)
	wantRefused(t, long, 0)
	wantRefused(t, "\n\t"+long, 2)
	wantRefused(t, "a+"+long+"$", 2)
	wantRefused(t, "$"+long, 0)
	wantRefused(t, long+"$", 0)
	wantRefused(t, "while"+strings.Repeat("0", 28), 0)
	wantRefused(t, strings.Repeat("n", api.MaxName)+"$", api.MaxName)
	wantRefused(t, "x"+strings.Repeat("y", 5000), 0)
}

func TestBehindWholeLiterals(t *testing.T) {
	for _, number := range []string{"0", "5", "1234567"} {
		for _, tail := range []string{
			"x", "_", "e", "e5", "E5", "i", "u", "i6", "i64i64", "i640", "i64_", "i33", "i16", "i32x", "u8u8", "u88", "u16", "u", "U8", "I64", "f64", "bool", "L", "x1f", "_000", "i64e5",
		} {
			wantRefused(t, number+tail, len(number))
			wantRefused(t, "a = "+number+tail+";", 4+len(number))
			wantRefused(t, number+tail+" 1.", len(number))
		}
	}
	for c := range 256 {
		b := string([]byte{byte(c)})
		switch {
		case strings.Contains(letters, b):
			wantRefused(t, "5"+b, 1)
			wantRefused(t, "5u8"+b, 1)
		case strings.Contains(digits, b):
			wantRefused(t, "5u8"+b, 1)
			wantRefused(t, "5i32"+b, 1)
		}
	}
}

func TestBehindFloatLiterals(t *testing.T) {
	for _, number := range []string{"1.5", "0.0", "12.345e6", "12.345e+6", "12.345e-678"} {
		for c := range 256 {
			b := string([]byte{byte(c)})
			if b == "." || strings.Contains(letters, b) && (b != "e" || strings.Contains(number, "e")) {
				wantRefused(t, number+b, len(number))
				wantRefused(t, number+b+"1", len(number))
				wantRefused(t, "x = "+number+b+" ;", 4+len(number))
			}
		}
		wantRefused(t, number+"f64", len(number))
		wantRefused(t, number+"i64", len(number))
		wantRefused(t, number+"E5", len(number))
		wantRefused(t, number+".0", len(number))
		wantRefused(t, number+".e1", len(number))
	}
}

// A float literal's point, e and sign want a digit behind them: there is where the fault is, or at the source's end.
func TestNoDigitWhereOneMustStand(t *testing.T) {
	for _, begun := range []string{"1.", "007.", "1.5e", "1.5e+", "1.5e-", "1.25e", "10.25e-"} {
		wantRefused(t, begun, len(begun))
		wantRefused(t, "  "+begun, 2+len(begun))
		for c := range 256 {
			b := string([]byte{byte(c)})
			if strings.Contains(digits, b) || strings.HasSuffix(begun, "e") && (b == "+" || b == "-") {
				continue
			}
			wantRefused(t, begun+b, len(begun))
			wantRefused(t, begun+b+"5", len(begun))
			wantRefused(t, begun+b+"$", len(begun))
		}
	}
	wantRefused(t, "1.5e+-3", 5)
	wantRefused(t, "1.5e--", 5)
	wantRefused(t, "1.5ee3", 4)
	wantRefused(t, "1.5e3e3", 5)
	wantRefused(t, "1..5", 2)
}

func TestFirstFaultCounts(t *testing.T) {
	wantRefused(t, "a $ 1. .", 2)
	wantRefused(t, "1. $", 2)
	wantRefused(t, "5x 5y", 1)
	wantRefused(t, "1.5.2.3", 3)
}
