package tests

import (
	"math"
	"math/big"
	"strings"
	"testing"

	"loop.example/pinwhole/impl"
)

func TestFracOk(t *testing.T) {
	for _, f := range fracs() {
		if !impl.FracOk(f) {
			t.Errorf("FracOk %s", briefFrac(f))
		}
	}
	for _, f := range notFracs() {
		if impl.FracOk(f) {
			t.Errorf("FracOk %s", briefFrac(f))
		}
	}
}

func TestTwoFracs(t *testing.T) {
	list := append(smallFracs(), middleFracs()...)
	for _, a := range list {
		for _, b := range list {
			checkTwoFracs(t, a, b)
		}
	}
}

// Those with the most digits cost the most: each with a few others, on both
// sides.
func TestTwoGreatFracs(t *testing.T) {
	others := []impl.Frac{frac("0"), frac("1"), frac("-1"), frac("2"), frac("-1/2"), frac("1/3"), frac("65536"), frac("-1/65536"), middleFracs()[5]}
	for i, a := range greatFracs() {
		for _, b := range others {
			checkTwoFracs(t, a, b)
			checkTwoFracs(t, b, a)
		}
		for j, b := range greatFracs() {
			if (i+j)%3 == 0 || i == j {
				checkTwoFracs(t, a, b)
			}
		}
	}
}

func checkTwoFracs(t *testing.T, a, b impl.Frac) {
	t.Helper()
	x, y := ratOf(a), ratOf(b)
	if got := impl.FracCmp(a, b); got != x.Cmp(y) {
		t.Errorf("FracCmp %s %s: %d", briefFrac(a), briefFrac(b), got)
	}
	got, ok := impl.FracAdd(a, b)
	checkFrac(t, got, ok, new(big.Rat).Add(x, y), "FracAdd", a, b)
	got, ok = impl.FracSub(a, b)
	checkFrac(t, got, ok, new(big.Rat).Sub(x, y), "FracSub", a, b)
	got, ok = impl.FracMul(a, b)
	checkFrac(t, got, ok, new(big.Rat).Mul(x, y), "FracMul", a, b)
	var quotient *big.Rat
	if y.Sign() != 0 {
		quotient = new(big.Rat).Quo(x, y)
	}
	got, ok = impl.FracDiv(a, b)
	checkFrac(t, got, ok, quotient, "FracDiv", a, b)
}

func TestOneFrac(t *testing.T) {
	for _, f := range fracs() {
		x := ratOf(f)
		if got := impl.FracSign(f); got != x.Sign() {
			t.Errorf("FracSign %s: %d", briefFrac(f), got)
		}
		got, ok := impl.FracNeg(f)
		checkFrac(t, got, ok, new(big.Rat).Neg(x), "FracNeg", f)
		got, ok = impl.FracAbs(f)
		checkFrac(t, got, ok, new(big.Rat).Abs(x), "FracAbs", f)
		got, ok = impl.FracRoot(f)
		checkFrac(t, got, ok, rootOf(x), "FracRoot", f)
		got, ok = impl.FracFloor(f)
		checkFrac(t, got, ok, floorOf(x), "FracFloor", f)
		if s := impl.FracText(f); s != strings.TrimSuffix(x.String(), "/1") {
			t.Errorf("FracText %s: %s", briefFrac(f), s)
		}
		got, ok = impl.FracRead(strings.TrimSuffix(x.String(), "/1"))
		checkFrac(t, got, ok, x, "FracRead", f)
	}
}

// rootOf is the root of a fraction, nil if that is none.
func rootOf(x *big.Rat) *big.Rat {
	if x.Sign() < 0 {
		return nil
	}
	root := new(big.Rat).SetFrac(new(big.Int).Sqrt(x.Num()), new(big.Int).Sqrt(x.Denom()))
	if new(big.Rat).Mul(root, root).Cmp(x) != 0 {
		return nil
	}
	return root
}

// floorOf leans on Div, which rounds down where the divisor is above 0.
func floorOf(x *big.Rat) *big.Rat {
	return new(big.Rat).SetInt(new(big.Int).Div(x.Num(), x.Denom()))
}

func TestFracOf(t *testing.T) {
	for _, a := range numbers() {
		for i, b := range numbers() {
			// Those of the most digits cost the most.
			if len(a)+len(b) > most && i%4 > 0 {
				continue
			}
			for _, below := range []bool{false, true} {
				got, ok := impl.FracOf(below, a, b)
				checkFrac(t, got, ok, signedRat(below, a, b), "FracOf", impl.Frac{Below: below, Top: a, Bottom: b})
			}
		}
	}
}

func signedRat(below bool, top, bottom []int) *big.Rat {
	if len(bottom) == 0 {
		return nil
	}
	r := rat(top, bottom)
	if below {
		r.Neg(r)
	}
	return r
}

func TestFracInt(t *testing.T) {
	ints := []int{0, 1, -1, 2, -2, 65535, -65535, 65536, -65536, math.MaxInt32, math.MinInt32,
		math.MaxInt, -math.MaxInt, math.MinInt, math.MinInt + 1}
	for k := range 63 {
		ints = append(ints, 1<<k, -1<<k, 6700417<<k)
	}
	for _, n := range ints {
		checkFrac(t, impl.FracInt(n), true, new(big.Rat).SetInt64(int64(n)), "FracInt")
	}
}

func TestFracPowers(t *testing.T) {
	list := append(smallFracs(), middleFracs()[:8]...)
	for _, f := range append(list, greatFracs()[:4]...) {
		want := big.NewRat(1, 1)
		for n := 0; n <= impl.NatMaxPower; n++ {
			if n%5 == 0 || n < 5 || n > 61 {
				got, ok := impl.FracPow(f, n)
				checkFrac(t, got, ok, want, "FracPow", f)
			}
			want = new(big.Rat).Mul(want, ratOf(f))
		}
	}
}
