package tests

import (
	"math/big"
	"strconv"
	"strings"
	"testing"

	"loop.example/pinwhole/impl"
)

func TestDecLimits(t *testing.T) {
	if impl.DecMaxText != 60 || impl.DecMaxPower != 400 {
		t.Error("limits")
	}
}

func TestLiteralValues(t *testing.T) {
	for _, s := range literals() {
		if !impl.DecOk(s) {
			t.Errorf("DecOk %q", s)
		}
		checkLiteral(t, s)
	}
}

// Every text of up to six of these bytes.
func TestShortTexts(t *testing.T) {
	const bytes = "0145.e-+"
	texts := []string{""}
	for range 6 {
		var longer []string
		for _, s := range texts {
			for _, c := range bytes {
				longer = append(longer, s+string(c))
			}
		}
		for _, s := range longer {
			if impl.DecOk(s) != isLiteral(s) {
				t.Errorf("DecOk %q: %v", s, impl.DecOk(s))
			}
			if len(s) < 6 || strings.HasPrefix(s, "1.") || strings.HasPrefix(s, "0.") {
				checkLiteral(t, s)
			}
		}
		texts = longer
	}
}

func TestAllPowers(t *testing.T) {
	for power := range 1200 {
		for _, digits := range []string{"0", "1", "3.75", "0.004"} {
			checkLiteral(t, digits+"e"+strconv.Itoa(power))
			checkLiteral(t, digits+"e-"+strconv.Itoa(power))
		}
	}
}

func TestPlainTexts(t *testing.T) {
	for _, f := range fracs() {
		checkDecText(t, f)
	}
	for top := range 41 {
		for bottom := 1; bottom <= 130; bottom++ {
			checkDecText(t, fracOf(big.NewRat(int64(top), int64(bottom))))
		}
	}
}

// Bottoms of twos and fives alone, and with another divisor beside.
func TestPlainTextBottoms(t *testing.T) {
	for twos := range 64 {
		for fives := range 64 {
			if twos > 3 && fives > 3 && (twos+fives)%3 > 0 {
				continue
			}
			bottom := new(big.Int).Exp(big.NewInt(5), big.NewInt(int64(fives)), nil)
			bottom.Lsh(bottom, uint(twos))
			for _, top := range []int64{1, 3, 999999999999} {
				r := new(big.Rat).SetFrac(big.NewInt(top), bottom)
				checkDecText(t, fracOf(r))
				checkDecText(t, fracOf(new(big.Rat).Mul(r, big.NewRat(1, 7))))
			}
		}
	}
}
