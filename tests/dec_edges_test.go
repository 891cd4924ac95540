package tests

import (
	"math/big"
	"strings"
	"testing"

	"loop.example/pinwhole/impl"
)

func TestLiteralSizes(t *testing.T) {
	nines, noughts := strings.Repeat("9", 70), strings.Repeat("0", 70)
	for _, form := range []func(size int) string{
		func(size int) string { return nines[:size] },
		func(size int) string { return "1" + noughts[:size-1] },
		func(size int) string { return "0." + noughts[:size-2] },
		func(size int) string { return "0." + noughts[:size-3] + "1" },
		func(size int) string { return nines[:size-2] + ".5" },
		func(size int) string { return nines[:size-2] + "e0" },
		func(size int) string { return nines[:size-2] + "e1" },
		func(size int) string { return nines[:size-4] + "e400" },
		func(size int) string { return nines[:size-5] + "e-400" },
		func(size int) string { return "1." + nines[:size-7] + "e-400" },
	} {
		fits, past := form(impl.DecMaxText), form(impl.DecMaxText+1)
		if len(fits) != impl.DecMaxText || !impl.DecOk(fits) || impl.DecOk(past) {
			t.Errorf("%s: %v, with one byte more %v", fits, impl.DecOk(fits), impl.DecOk(past))
		}
		checkLiteral(t, fits)
		checkLiteral(t, past)
	}
}

func TestLiteralPowers(t *testing.T) {
	for s, want := range map[string]bool{"5e0": true, "5e1": true, "5e-1": true, "5e400": true, "5e-400": true, "5e401": false, "5e-401": false,
		"0e400": true, "0e401": false, "0e-401": false, "5.5e400": true, "5.5e-401": false, "5e-0": false} {
		if impl.DecOk(s) != want {
			t.Errorf("DecOk %s: %v", s, !want)
		}
		checkLiteral(t, s)
	}
	hundreds := new(big.Int).Exp(big.NewInt(10), big.NewInt(400), nil)
	checkFrac(t, there(t)(impl.DecFrac("1e400")), true, new(big.Rat).SetInt(hundreds), "1e400")
	checkFrac(t, there(t)(impl.DecFrac("1e-400")), true, new(big.Rat).SetFrac(big.NewInt(1), hundreds), "1e-400")
}

// The value is in lowest terms, and 0 stands in one way.
func TestLiteralLowest(t *testing.T) {
	for s, want := range map[string]string{"0": "0", "0.000": "0", "0e400": "0", "0e-400": "0", "0.0e-1": "0", "0.5": "1/2", "12.50": "25/2", "2.5e-1": "1/4",
		"4e-1": "2/5", "0.125e3": "125", "0.125e2": "25/2", "10e-1": "1", "1000e-3": "1", "1.000e3": "1000", "65.536e3": "65536"} {
		if got := there(t)(impl.DecFrac(s)); impl.FracText(got) != want {
			t.Errorf("%s: %s", s, impl.FracText(got))
		}
	}
}

// tenTo is a power of ten.
func tenTo(n int64) *big.Int { return new(big.Int).Exp(big.NewInt(10), big.NewInt(n), nil) }

// by is a number by the power of another.
func by(top int64, base, power int64) *big.Rat {
	return new(big.Rat).SetFrac(big.NewInt(top), new(big.Int).Exp(big.NewInt(base), big.NewInt(power), nil))
}

func TestPlainTextSizes(t *testing.T) {
	half := big.NewRat(1, 2)
	whole := func(n *big.Int) *big.Rat { return new(big.Rat).SetInt(n) }
	fits := []*big.Rat{
		whole(new(big.Int).Sub(tenTo(60), big.NewInt(1))), whole(tenTo(59)), new(big.Rat).Add(whole(tenTo(57)), half),
		by(1, 2, 58), by(1, 5, 58), by(1, 10, 58), by(7, 10, 58), new(big.Rat).Sub(whole(tenTo(58)), half),
		new(big.Rat).Sub(big.NewRat(10, 1), by(1, 10, 58)), new(big.Rat).Sub(big.NewRat(1, 1), by(1, 10, 58)),
		new(big.Rat).Add(whole(tenTo(28)), by(1, 10, 30)),
	}
	for _, r := range fits {
		s, ok := impl.DecText(fracOf(r))
		if !ok || len(s) != impl.DecMaxText || literalValue(s).Cmp(r) != 0 {
			t.Errorf("%s: %q %v", r, s, ok)
		}
		checkDecText(t, fracOf(r))
	}
	past := []*big.Rat{
		whole(tenTo(60)), whole(new(big.Int).Add(tenTo(60), big.NewInt(1))), new(big.Rat).Add(whole(tenTo(58)), half),
		by(1, 2, 59), by(1, 5, 59), by(1, 10, 59), by(1, 2, 1000), by(1, 10, 400),
		new(big.Rat).Add(big.NewRat(10, 1), by(1, 10, 58)), new(big.Rat).Add(whole(tenTo(29)), by(1, 10, 30)),
		rat(greatest(), []int{1}), rat(placed(1, most-1), []int{1}), rat([]int{1}, placed(1, most-1)), rat(greatest(), placed(1, 1)),
	}
	for _, r := range past {
		if s, ok := impl.DecText(fracOf(r)); s != "" || ok {
			t.Errorf("%s: %q %v", r, s, ok)
		}
		checkDecText(t, fracOf(r))
	}
}

func TestNoPlainText(t *testing.T) {
	for _, s := range []string{"1/3", "2/3", "1/6", "1/7", "1/9", "1/11", "22/7", "1/30", "1/65535", "1/65537", "100/3", "-1", "-1/2", "-5/4", "-1/3", "-10", "-65536"} {
		if text, ok := impl.DecText(frac(s)); text != "" || ok {
			t.Errorf("%s: %q %v", s, text, ok)
		}
	}
	for s, want := range map[string]string{"0": "0", "1": "1", "10": "10", "1/2": "0.5", "1/10": "0.1", "1/100": "0.01", "25/2": "12.5", "101/100": "1.01", "1/1024": "0.0009765625", "65537/65536": "1.0000152587890625"} {
		if text, ok := impl.DecText(frac(s)); text != want || !ok {
			t.Errorf("%s: %q %v", s, text, ok)
		}
	}
}
