package tests

import (
	"strings"
	"testing"

	"loop.example/pinwhole/impl"
)

func TestOneWrongFrac(t *testing.T) {
	for _, f := range notFracs() {
		checkOneWrong(t, f)
	}
}

func checkOneWrong(t *testing.T, f impl.Frac) {
	t.Helper()
	if impl.FracOk(f) || impl.FracSign(f) != 0 || impl.FracText(f) != "" {
		t.Errorf("%s: ok %v, sign %d, text %q", briefFrac(f), impl.FracOk(f), impl.FracSign(f), impl.FracText(f))
	}
	got, ok := impl.FracNeg(f)
	noFrac(t, got, ok, "FracNeg", f)
	got, ok = impl.FracAbs(f)
	noFrac(t, got, ok, "FracAbs", f)
	got, ok = impl.FracRoot(f)
	noFrac(t, got, ok, "FracRoot", f)
	got, ok = impl.FracFloor(f)
	noFrac(t, got, ok, "FracFloor", f)
	for _, n := range []int{-1, 0, 1, 2, impl.NatMaxPower, impl.NatMaxPower + 1} {
		got, ok = impl.FracPow(f, n)
		noFrac(t, got, ok, "FracPow", f)
	}
	if s, ok := impl.DecText(f); s != "" || ok {
		t.Errorf("DecText %s: %q %v", briefFrac(f), s, ok)
	}
}

func TestTwoWrongFracs(t *testing.T) {
	others := append(notFracs()[:20], some()...)
	for _, f := range notFracs() {
		for _, other := range others {
			checkTwoWrong(t, f, other)
			checkTwoWrong(t, other, f)
		}
	}
}

func checkTwoWrong(t *testing.T, a, b impl.Frac) {
	t.Helper()
	if got := impl.FracCmp(a, b); got != 2 {
		t.Errorf("FracCmp %s %s: %d", briefFrac(a), briefFrac(b), got)
	}
	got, ok := impl.FracAdd(a, b)
	noFrac(t, got, ok, "FracAdd", a, b)
	got, ok = impl.FracSub(a, b)
	noFrac(t, got, ok, "FracSub", a, b)
	got, ok = impl.FracMul(a, b)
	noFrac(t, got, ok, "FracMul", a, b)
	got, ok = impl.FracDiv(a, b)
	noFrac(t, got, ok, "FracDiv", a, b)
}

func TestFracOfNoNumbers(t *testing.T) {
	others := append(notNumbers(), nil, []int{1}, []int{6}, []int{0, 1}, mixed(30, 1), greatest())
	for _, bad := range notNumbers() {
		for _, other := range others {
			for _, below := range []bool{false, true} {
				got, ok := impl.FracOf(below, bad, other)
				noFrac(t, got, ok, "FracOf "+brief(bad)+" "+brief(other))
				got, ok = impl.FracOf(below, other, bad)
				noFrac(t, got, ok, "FracOf "+brief(other)+" "+brief(bad))
			}
		}
	}
}

// wrongFracTexts are no fraction's text.
func wrongFracTexts() []string {
	list := []string{
		"", "-", "--1", "+1", "-+1", "+-1", "-0", "-0/1", "0/1", "0/2", "0/0", "-0/3", "1/0", "-1/0", "/", "-/", "1/", "/1", "-/2", "-1/", "//",
		"1/1", "-1/1", "5/1", "2/2", "2/4", "-2/4", "6/4", "4/2", "65536/2", "131072/65536", "65535/3", "1/-2", "-1/-2", "1/+2", "1//2", "1/2/3", "1/2/",
		"/1/2", "1-2", "1/2-", "-1/2-", "1 /2", "1/ 2", " 1/2", "1/2 ", "- 1/2", "1/02", "01/2", "-01", "00/1", "1/00", "1/2\n", "\n1/2", "1\x00/2",
		"1.5", "1/2.0", "1e3", "1e0", "0.5", "1:2", "1\u20442", "\u22121", "\u00bd", "1\u00f72", "\uff11/2", "1/\uff12", "nan", "inf", "1/2a", "a1/2",
	}
	for _, s := range wrongTexts() {
		if s == "-1" || strings.Contains(s, "/") {
			continue
		}
		list = append(list, s+"/2", "1/"+s, "-"+s+"/3", "-1/"+s)
	}
	return list
}

func TestWrongFracTexts(t *testing.T) {
	for _, s := range wrongFracTexts() {
		got, ok := impl.FracRead(s)
		noFrac(t, got, ok, "FracRead "+s)
	}
}

// Each other byte spoils a text, wherever it stands; a second sign and a second
// stroke do too.
func TestWrongFracBytes(t *testing.T) {
	for _, text := range []string{"-13/17", "13/17", "-17", "17"} {
		for c := range 256 {
			if c >= '0' && c <= '9' {
				continue
			}
			for place := range len(text) + 1 {
				put := text[:place] + string([]byte{byte(c)}) + text[place:]
				if place == 0 && c == '-' && text[0] != '-' || c == '/' && isSplit(put) {
					continue
				}
				got, ok := impl.FracRead(put)
				noFrac(t, got, ok, "FracRead "+put)
			}
		}
	}
}

// isSplit says whether a stroke was put where it makes a fraction of a whole
// number: "1/7" of "17".
func isSplit(s string) bool { return s == "1/7" || s == "-1/7" }
