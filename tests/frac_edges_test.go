package tests

import (
	"math"
	"math/big"
	"strings"
	"testing"

	"loop.example/pinwhole/impl"
)

// 0 stands in one way; with the other sign it is not ok.
func TestNought(t *testing.T) {
	zero := impl.Frac{Bottom: []int{1}}
	for _, f := range []impl.Frac{impl.FracInt(0), there(t)(impl.FracNeg(zero)), there(t)(impl.FracAbs(zero)), there(t)(impl.FracRoot(zero)),
		there(t)(impl.FracFloor(zero)), there(t)(impl.FracRead("0")), there(t)(impl.FracSub(frac("-1/3"), frac("-1/3"))),
		there(t)(impl.FracAdd(frac("-1/3"), frac("1/3"))), there(t)(impl.FracAdd(frac("1/3"), frac("-1/3"))),
		there(t)(impl.FracMul(zero, frac("-2"))), there(t)(impl.FracMul(frac("-2"), zero)), there(t)(impl.FracDiv(zero, frac("-2/3"))),
		there(t)(impl.FracPow(zero, 1)), there(t)(impl.FracPow(zero, 64)), there(t)(impl.FracAdd(zero, zero)), there(t)(impl.FracSub(zero, zero))} {
		if !sameFrac(f, zero) {
			t.Errorf("0 stands as %s", briefFrac(f))
		}
	}
	for _, bottom := range [][]int{{1}, {2}, {top}, {0, 1}, greatest()} {
		for _, below := range []bool{false, true} {
			for _, none := range [][]int{nil, {}} {
				if f := there(t)(impl.FracOf(below, none, bottom)); !sameFrac(f, zero) {
					t.Errorf("0 by %s: %s", brief(bottom), briefFrac(f))
				}
			}
		}
	}
	if impl.FracSign(zero) != 0 || impl.FracText(zero) != "0" || impl.FracCmp(zero, zero) != 0 || !impl.FracOk(zero) {
		t.Error("0")
	}
	if f := there(t)(impl.FracPow(zero, 0)); !sameFrac(f, frac("1")) {
		t.Errorf("0 to the 0: %s", briefFrac(f))
	}
}

// The sign of 0, as each argument of each function.
func TestNoughtBelow(t *testing.T) {
	below := impl.Frac{Below: true, Bottom: []int{1}}
	checkOneWrong(t, below)
	for _, other := range append(smallFracs(), below, impl.Frac{Bottom: []int{1}}) {
		checkTwoWrong(t, below, other)
		checkTwoWrong(t, other, below)
	}
}

func TestDivisionByNought(t *testing.T) {
	for _, f := range fracs() {
		got, ok := impl.FracDiv(f, impl.FracInt(0))
		noFrac(t, got, ok, "FracDiv by 0", f)
	}
	for _, a := range numbers() {
		for _, below := range []bool{false, true} {
			got, ok := impl.FracOf(below, a, nil)
			noFrac(t, got, ok, "FracOf by 0")
			got, ok = impl.FracOf(below, a, []int{})
			noFrac(t, got, ok, "FracOf by 0")
		}
	}
}

func TestLeastAndGreatestInt(t *testing.T) {
	if s := impl.FracText(impl.FracInt(math.MinInt)); s != "-9223372036854775808" {
		t.Error("least", s)
	}
	if s := impl.FracText(impl.FracInt(math.MaxInt)); s != "9223372036854775807" {
		t.Error("greatest", s)
	}
	sum := there(t)(impl.FracAdd(impl.FracInt(math.MinInt), impl.FracInt(math.MaxInt)))
	if !sameFrac(sum, frac("-1")) {
		t.Error("least and greatest", briefFrac(sum))
	}
}

// Answers of just the most digits, and of one digit more in lowest terms.
func TestFracJustFits(t *testing.T) {
	g, edge := greatest(), placed(1, most-1)
	whole, small := fracOf(rat(g, []int{1})), fracOf(rat([]int{1}, edge))
	for _, sign := range []string{"", "-"} {
		one, base := frac(sign+"1"), frac(sign+"65536")
		last, x := fracOf(rat(lessOne(g), []int{1})), whole
		if sign == "-" {
			last, x = negative(last), negative(x)
		}
		if sum := there(t)(impl.FracAdd(last, one)); !sameFrac(sum, x) {
			t.Error("sum of the most digits", briefFrac(sum))
		}
		got, ok := impl.FracAdd(x, one)
		noFrac(t, got, ok, "FracAdd at the top", x, one)
		got, ok = impl.FracSub(x, negative(one))
		noFrac(t, got, ok, "FracSub at the top", x, one)
		got, ok = impl.FracDiv(small, base)
		noFrac(t, got, ok, "FracDiv at the bottom", small, base)
		got, ok = impl.FracMul(small, frac(sign+"1/65536"))
		noFrac(t, got, ok, "FracMul at the bottom", small)
		got, ok = impl.FracMul(fracOf(rat(edge, []int{1})), base)
		noFrac(t, got, ok, "FracMul at the top", base)
		if f := there(t)(impl.FracMul(small, frac(sign+"1/65535"))); !same(f.Bottom, timesTop(edge)) {
			t.Error("product of the most digits at the bottom", briefFrac(f))
		}
	}
	// The top fits, the bottom does not, and the other way round.
	got, ok := impl.FracAdd(small, fracOf(rat([]int{1}, g)))
	noFrac(t, got, ok, "FracAdd at the bottom")
	got, ok = impl.FracMul(frac("1/65536"), small)
	noFrac(t, got, ok, "FracMul at the bottom")
	got, ok = impl.FracDiv(fracOf(rat(edge, []int{1})), frac("1/65536"))
	noFrac(t, got, ok, "FracDiv at the top")
	got, ok = impl.FracAdd(fracOf(rat(edge, []int{3})), fracOf(rat(edge, []int{1})))
	checkFrac(t, got, ok, new(big.Rat).Mul(rat(edge, []int{1}), big.NewRat(4, 3)), "FracAdd within")
}

// timesTop is a number times the greatest digit.
func timesTop(a []int) []int {
	return digitsOf(new(big.Int).Mul(bigOf(a), big.NewInt(top)))
}

// Too many digits on the way, not in lowest terms.
func TestFracTooLongOnTheWay(t *testing.T) {
	g := greatest()
	third := digitsOf(new(big.Int).Div(bigOf(g), big.NewInt(3)))
	x, y := fracOf(rat(g, lessOne(g))), fracOf(rat(lessOne(g), g))
	for _, c := range []struct {
		name string
		got  impl.Frac
		want *big.Rat
	}{
		{"x times 1/x", there(t)(impl.FracMul(x, y)), big.NewRat(1, 1)},
		{"-x times 1/x", there(t)(impl.FracMul(negative(x), y)), big.NewRat(-1, 1)},
		{"x by x", there(t)(impl.FracDiv(x, x)), big.NewRat(1, 1)},
		{"x less x", there(t)(impl.FracSub(x, x)), new(big.Rat)},
		{"x and -x", there(t)(impl.FracAdd(x, negative(x))), new(big.Rat)},
		{"1/g and 1/g", there(t)(impl.FracAdd(fracOf(rat([]int{1}, g)), fracOf(rat([]int{1}, g)))), rat([]int{2}, g)},
		{"1/g less 2/g", there(t)(impl.FracSub(fracOf(rat([]int{1}, g)), fracOf(rat([]int{2}, g)))), new(big.Rat).Neg(rat([]int{1}, g))},
		{"1/3 and 1/g", there(t)(impl.FracAdd(frac("1/3"), fracOf(rat([]int{1}, g)))), rat(add(t, third, []int{1}), g)},
		{"g/2 and g/2", there(t)(impl.FracAdd(fracOf(rat(g, []int{2})), fracOf(rat(g, []int{2})))), rat(g, []int{1})},
		{"g times 1/g", there(t)(impl.FracMul(fracOf(rat(g, []int{1})), fracOf(rat([]int{1}, g)))), big.NewRat(1, 1)},
	} {
		checkFrac(t, c.got, true, c.want, c.name)
	}
	if impl.FracCmp(x, y) != 1 || impl.FracCmp(y, x) != -1 || impl.FracCmp(x, x) != 0 || impl.FracCmp(negative(x), negative(y)) != -1 {
		t.Error("order of the greatest")
	}
}

func TestFracPowerEdges(t *testing.T) {
	for _, f := range fracs() {
		if p := there(t)(impl.FracPow(f, 0)); !sameFrac(p, frac("1")) {
			t.Errorf("%s to the 0: %s", briefFrac(f), briefFrac(p))
		}
		if p := there(t)(impl.FracPow(f, 1)); !sameFrac(p, f) {
			t.Errorf("%s to the 1: %s", briefFrac(f), briefFrac(p))
		}
		for _, n := range []int{-1, -2, impl.NatMaxPower + 1, math.MinInt, math.MaxInt} {
			got, ok := impl.FracPow(f, n)
			noFrac(t, got, ok, "FracPow past the limit", f)
		}
	}
	for _, n := range []int{0, 1, 2, 3, impl.NatMaxPower - 1, impl.NatMaxPower} {
		sign := big.NewRat(int64(1-n%2*2), 1)
		checkFrac(t, there(t)(impl.FracPow(frac("-1"), n)), true, sign, "-1 to a power")
	}
	// 2^64 less 1 to the 64 has just the most digits, 2^64 one more.
	fits, past := "18446744073709551615", "18446744073709551616"
	for _, s := range []string{fits, "-" + fits, "1/" + fits, "-1/" + fits, "-" + fits + "/18446744073709551614"} {
		f := there(t)(impl.FracPow(frac(s), impl.NatMaxPower))
		if f.Below || max(len(f.Top), len(f.Bottom)) != most {
			t.Errorf("%s to the 64: %s", s, briefFrac(f))
		}
	}
	for _, s := range []string{past, "-" + past, "1/" + past, "-1/" + past, fits + "/" + past, past + "/" + fits} {
		got, ok := impl.FracPow(frac(s), impl.NatMaxPower)
		noFrac(t, got, ok, "FracPow "+s)
		there(t)(impl.FracPow(frac(s), impl.NatMaxPower-1))
	}
}

func TestFracRootEdges(t *testing.T) {
	roots := map[string]string{"0": "0", "1": "1", "4": "2", "1/4": "1/2", "9/4": "3/2", "4/9": "2/3", "65536": "256",
		"4294967296/4294836225": "65536/65535", "18446744073709551616/18446744065119617025": "4294967296/4294967295"}
	for s, want := range roots {
		if root := there(t)(impl.FracRoot(frac(s))); !sameFrac(root, frac(want)) {
			t.Errorf("root of %s: %s", s, briefFrac(root))
		}
	}
	for _, s := range []string{"-1", "-4", "-9/4", "-2", "2", "3", "1/2", "4/3", "3/4", "8/9", "9/8", "2/9", "9/2", "65535", "65537/65536", "4294967297"} {
		got, ok := impl.FracRoot(frac(s))
		noFrac(t, got, ok, "FracRoot "+s)
	}
	// Squares of just the most digits, and their neighbours.
	half := repeated(top, most/2)
	square := mul(t, half, half)
	if root := there(t)(impl.FracRoot(fracOf(rat(square, []int{4})))); !sameFrac(root, fracOf(rat(half, []int{2}))) {
		t.Error("root of the greatest square", briefFrac(root))
	}
	if root := there(t)(impl.FracRoot(fracOf(rat([]int{4}, square)))); !sameFrac(root, fracOf(rat([]int{2}, half))) {
		t.Error("root by the greatest square", briefFrac(root))
	}
	for _, r := range []*big.Rat{rat(lessOne(square), []int{1}), rat(add(t, square, []int{1}), []int{1}), rat([]int{1}, lessOne(square)), rat(greatest(), []int{1})} {
		got, ok := impl.FracRoot(fracOf(r))
		noFrac(t, got, ok, "FracRoot of a square's neighbour")
	}
}

func TestFracFloorEdges(t *testing.T) {
	floors := map[string]string{"0": "0", "1": "1", "-1": "-1", "7": "7", "-7": "-7", "1/2": "0", "-1/2": "-1", "1/65536": "0", "-1/65536": "-1",
		"3/2": "1", "-3/2": "-2", "-65535/65536": "-1", "-65537/65536": "-2", "65537/65536": "1", "-131071/65536": "-2", "99/10": "9", "-99/10": "-10",
		"-9223372036854775808": "-9223372036854775808", "-131071/2": "-65536", "131071/2": "65535", "-4294967295/2": "-2147483648"}
	for s, want := range floors {
		if n := there(t)(impl.FracFloor(frac(s))); !sameFrac(n, frac(want)) {
			t.Errorf("floor of %s: %s", s, briefFrac(n))
		}
	}
	g := greatest()
	for _, f := range []impl.Frac{fracOf(rat(g, []int{1})), negative(fracOf(rat(g, []int{1})))} {
		if n := there(t)(impl.FracFloor(f)); !sameFrac(n, f) {
			t.Error("floor of the greatest whole number", briefFrac(n))
		}
	}
	if n := there(t)(impl.FracFloor(negative(fracOf(rat([]int{1}, g))))); !sameFrac(n, frac("-1")) {
		t.Error("floor of what is just below 0", briefFrac(n))
	}
}

// Texts of fractions of the most digits, and of one more than they are.
func TestFracTextEdges(t *testing.T) {
	g, more := greatestText(), oneMoreText()
	less := bigOf(lessOne(greatest())).String()
	for _, s := range []string{g, "-" + g, "1/" + g, "-1/" + g, g + "/" + less, "-" + less + "/" + g} {
		f := there(t)(impl.FracRead(s))
		if got := impl.FracText(f); got != s {
			t.Errorf("%s: %s", s, got)
		}
	}
	for _, s := range []string{more, "-" + more, "1/" + more, "-1/" + more, g + "/" + more, more + "/" + g, g + "/" + g, strings.Repeat("1", 5000), "1/" + strings.Repeat("1", 5000)} {
		got, ok := impl.FracRead(s)
		noFrac(t, got, ok, "FracRead of a long text")
	}
}
