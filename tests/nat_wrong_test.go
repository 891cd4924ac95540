package tests

import (
	"strings"
	"testing"

	"loop.example/pinwhole/impl"
)

// wrongTexts are no number's text.
func wrongTexts() []string {
	return []string{
		"", " ", "00", "01", "007", "0000000000", "-", "-0", "-1", "+1", "+0", " 1", "1 ", "1\n", "\t1", "1\x00", "\x001",
		"1a", "a1", "0x10", "1_000", "1,000", "1.0", "1.", ".1", "1e3", "1/1", "1234/", "123:", "12345678a", "a2345678",
		"\xff", "1\xff", "\u0661", "\uff11", "1\u0662", "\u00bd", "\u00b2", "null",
		"0" + greatestText(), greatestText() + " ", oneMoreText(), greatestText() + "0",
	}
}

func TestWrongTexts(t *testing.T) {
	for _, s := range wrongTexts() {
		if a, ok := impl.NatRead(s); ok || len(a) > 0 {
			t.Errorf("NatRead %q: %s %v", s, brief(a), ok)
		}
	}
}

// Each byte that is no decimal spoils a text, wherever it stands.
func TestWrongBytes(t *testing.T) {
	for c := range 256 {
		if c >= '0' && c <= '9' {
			continue
		}
		for _, size := range []int{1, 2, 4, 5, 9} {
			for place := range size {
				s := []byte(strings.Repeat("5", size))
				s[place] = byte(c)
				if a, ok := impl.NatRead(string(s)); ok || len(a) > 0 {
					t.Errorf("NatRead %q: %s %v", s, brief(a), ok)
				}
			}
		}
	}
}

func TestWrongOneNumber(t *testing.T) {
	for _, bad := range notNumbers() {
		if n, ok := impl.NatSmall(bad); n != 0 || ok {
			t.Errorf("NatSmall %s: %d %v", brief(bad), n, ok)
		}
		if n := impl.NatBits(bad); n != -1 {
			t.Errorf("NatBits %s: %d", brief(bad), n)
		}
		if s := impl.NatText(bad); s != "" {
			t.Errorf("NatText %s: %s", brief(bad), s)
		}
		root, exact, ok := impl.NatRoot(bad)
		nothing(t, "NatRoot "+brief(bad), root, ok)
		if exact {
			t.Errorf("NatRoot %s: exact", brief(bad))
		}
		for _, k := range []int{-5000, -4096, -16, -1, 0, 1, 16, 4096, 5000} {
			got, ok := impl.NatShift(bad, k)
			nothing(t, "NatShift "+brief(bad), got, ok)
		}
		for _, n := range []int{-1, 0, 1, 2, 64, 65} {
			got, ok := impl.NatPow(bad, n)
			nothing(t, "NatPow "+brief(bad), got, ok)
		}
	}
}

func TestWrongTwoNumbers(t *testing.T) {
	others := append(notNumbers(), nil, []int{1}, []int{0, 1}, mixed(30, 1), greatest())
	for _, bad := range notNumbers() {
		for _, other := range others {
			checkWrong(t, bad, other)
			checkWrong(t, other, bad)
		}
	}
}

func checkWrong(t *testing.T, a, b []int) {
	t.Helper()
	said := " " + brief(a) + " " + brief(b)
	if got := impl.NatCmp(a, b); got != 2 {
		t.Errorf("NatCmp%s: %d", said, got)
	}
	got, ok := impl.NatAdd(a, b)
	nothing(t, "NatAdd"+said, got, ok)
	got, ok = impl.NatSub(a, b)
	nothing(t, "NatSub"+said, got, ok)
	got, ok = impl.NatMul(a, b)
	nothing(t, "NatMul"+said, got, ok)
	got, ok = impl.NatGcd(a, b)
	nothing(t, "NatGcd"+said, got, ok)
	quotient, rest, ok := impl.NatDiv(a, b)
	nothing(t, "NatDiv, quotient"+said, quotient, ok)
	nothing(t, "NatDiv, rest"+said, rest, ok)
}
