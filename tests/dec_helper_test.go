package tests

import (
	"math/big"
	"regexp"
	"strconv"
	"strings"
	"testing"

	"loop.example/pinwhole/impl"
)

var literalForm = regexp.MustCompile(`^(?:0|[1-9][0-9]*)(?:\.[0-9]+)?(?:e(0|-?[1-9][0-9]{0,2}))?$`)

// isLiteral is the document's form, by other means than the program's.
func isLiteral(s string) bool {
	found := literalForm.FindStringSubmatch(s)
	if len(s) > impl.DecMaxText || found == nil {
		return false
	}
	power, _ := strconv.Atoi(found[1])
	return power >= -impl.DecMaxPower && power <= impl.DecMaxPower
}

func literalValue(s string) *big.Rat {
	value, ok := new(big.Rat).SetString(s)
	if !ok {
		panic(s)
	}
	return value
}

// checkLiteral holds DecOk and DecFrac against the form and math/big.
func checkLiteral(t *testing.T, s string) {
	t.Helper()
	is := isLiteral(s)
	if impl.DecOk(s) != is {
		t.Errorf("DecOk %q: %v", s, !is)
	}
	var want *big.Rat
	if is {
		want = literalValue(s)
	}
	got, ok := impl.DecFrac(s)
	checkFrac(t, got, ok, want, "DecFrac "+strconv.Quote(s))
}

// plainText is what DecText should tell, by other means: the exact decimals
// are as many as the greater count of twos and fives in the bottom.
func plainText(r *big.Rat) (string, bool) {
	behind, exact := r.FloatPrec()
	if !exact || r.Sign() < 0 {
		return "", false
	}
	s := r.FloatString(behind)
	if len(s) > impl.DecMaxText {
		return "", false
	}
	return s, true
}

func checkDecText(t *testing.T, f impl.Frac) {
	t.Helper()
	want, is := plainText(ratOf(f))
	if s, ok := impl.DecText(f); s != want || ok != is {
		t.Errorf("DecText %s: %q %v, not %q %v", briefFrac(f), s, ok, want, is)
	}
}

// literals are ordinary ones and those at the edges.
func literals() []string {
	list := []string{
		"0", "1", "7", "9", "10", "12", "100", "65535", "65536", "1000000", "18446744073709551616",
		"0.0", "0.1", "0.5", "0.05", "0.50", "0.10", "1.0", "1.5", "12.50", "10.01", "3.14159", "0.000", "0.0001", "99.99", "100.001", "0.0625",
		"0e0", "0e1", "0e-1", "0e400", "0e-400", "0.0e5", "0.000e-400", "1e0", "1e1", "1e-1", "7e0", "1e3", "1e9", "1e10", "1e99", "1e100", "1e399", "1e400",
		"1e-9", "1e-10", "1e-99", "1e-100", "1e-399", "1e-400", "2.5e-1", "2.50e1", "2.5e2", "0.04e2", "25e-2", "12.5e0", "9.99e400", "9.99e-400", "0.001e3", "4e-2",
	}
	for _, size := range []int{2, 5, 17, 30, 53, 54, 55, 56, 57, 58, 59, 60} {
		list = append(list, strings.Repeat("9", size), "1"+strings.Repeat("0", size-1), strings.Repeat("123456789", 7)[:size])
		for _, power := range []string{"e0", "e1", "e-1", "e400", "e-400"} {
			if size+len(power) <= impl.DecMaxText {
				list = append(list, strings.Repeat("8", size)+power)
			}
		}
		if size < 59 {
			list = append(list, "0."+strings.Repeat("0", size-1)+"1", "0."+strings.Repeat("3", size), "1."+strings.Repeat("0", size), "7."+strings.Repeat("5", size))
		}
	}
	return list
}

// wrongLiterals are none, each for one reason or for several.
func wrongLiterals() []string {
	long := strings.Repeat("5", impl.DecMaxText)
	list := []string{
		"", " ", ".", "e", "-", "+", "00", "01", "007", "00.5", "01.5", "-0", "-1", "+1", "-1.5", "--1",
		".5", ".", "1.", "0.", "1..5", "1.5.", "1.5.5", "1.e1", ".e1", "1.-5", "1.+5", "1,5", "1_000", "1 000", "0x10", "1f", "1.5f",
		"1e", "1.5e", "e1", "1e-", "1e+", "1e+1", "1e+0", "1e-0", "1e--1", "1e-+1", "1e1-", "1e00", "1e01", "1e05", "1e-01", "1e000", "1e0400", "1e-0400",
		"1E1", "1E0", "1e1.0", "1e1.", "1e.5", "1ee1", "1e1e1", "1e1e", "1e 1", "1e1 ", "1 e1", "1e0 ", "1e0.", "1e0e", "1e0-", "1e-e",
		"1e401", "1e-401", "1e402", "1e499", "1e500", "1e999", "1e-999", "1e1000", "1e-1000", "1e4000", "1e1001", "1e10000", "0e401", "0e-401", "0.0e999",
		"1e18446744073709551616", "1e18446744073709551617", "1e18446744073709551615", "1e-18446744073709551617", "1e9223372036854775808", "1e" + strings.Repeat("9", 58), "1e1" + strings.Repeat("0", 57),
		" 1", "1 ", "1\n", "\n1", "\t1", "1\t", "1\x00", "\x001", "1.5\n", "1e1\n", "1.\x005", "\xff", "1\xff", "1.\xff", "1e\xff", "1e1\xff", "\xc0\xb1",
		"\u0661", "\uff11", "1\u0662", "1.\u0665", "1e\u0661", "1\uff0e5", "\u00bd", "1\u00b2", "\ufffd", "1\ufffd", "\u22121", "1e\u22121",
		"1/2", "inf", "NaN", "null", "1e1/2",
		long + "5", long + ".", long + "e1", "0." + long, long[:59] + ".5", long[:58] + ".50", long[:57] + "e400", long[:56] + "e-400", "0." + strings.Repeat("0", 59), strings.Repeat("0", 60), strings.Repeat("0", 61),
		long[:56] + "e01" + "1", strings.Repeat("5", 100000), "0." + strings.Repeat("0", 100000), "1e" + strings.Repeat("1", 100000), "1e-" + strings.Repeat("0", 100000),
	}
	return list
}
