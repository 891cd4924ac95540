package tests

import (
	"math/big"
	"testing"

	"loop.example/pinwhole/impl"
)

// checkAnswer holds an answer against the true one: nothing and false, if that
// has too many digits.
func checkAnswer(t *testing.T, got []int, ok bool, want *big.Int, name string, args ...[]int) {
	t.Helper()
	var list []int
	fits := want.Sign() >= 0 && want.BitLen() <= 16*most
	if fits {
		list = digitsOf(want)
	}
	if ok != fits || !same(got, list) {
		said := name
		for _, a := range args {
			said += " " + brief(a)
		}
		t.Errorf("%s: %s %v, not %s %v", said, brief(got), ok, brief(list), fits)
	}
}

func TestOk(t *testing.T) {
	for _, a := range numbers() {
		if !impl.NatOk(a) {
			t.Errorf("NatOk %s", brief(a))
		}
	}
	for _, a := range notNumbers() {
		if impl.NatOk(a) {
			t.Errorf("NatOk %s", brief(a))
		}
	}
}

func TestLimits(t *testing.T) {
	if impl.NatBase != 65536 || impl.NatMaxDigits != 256 || impl.NatMaxText != 1300 || impl.NatMaxPower != 64 {
		t.Error("limits")
	}
}

func TestTwoNumbers(t *testing.T) {
	for _, a := range numbers() {
		x := bigOf(a)
		for _, b := range numbers() {
			y := bigOf(b)
			if got := impl.NatCmp(a, b); got != x.Cmp(y) {
				t.Errorf("NatCmp %s %s: %d", brief(a), brief(b), got)
			}
			sum, ok := impl.NatAdd(a, b)
			checkAnswer(t, sum, ok, new(big.Int).Add(x, y), "NatAdd", a, b)
			left, ok := impl.NatSub(a, b)
			checkAnswer(t, left, ok, new(big.Int).Sub(x, y), "NatSub", a, b)
			product, ok := impl.NatMul(a, b)
			checkAnswer(t, product, ok, new(big.Int).Mul(x, y), "NatMul", a, b)
			common, ok := impl.NatGcd(a, b)
			checkAnswer(t, common, ok, new(big.Int).GCD(nil, nil, x, y), "NatGcd", a, b)
			checkDivision(t, a, b)
		}
	}
}

func checkDivision(t *testing.T, a, b []int) {
	t.Helper()
	quotient, rest, ok := impl.NatDiv(a, b)
	if len(b) == 0 {
		if ok || len(quotient) > 0 || len(rest) > 0 {
			t.Errorf("NatDiv %s by 0: %s %s %v", brief(a), brief(quotient), brief(rest), ok)
		}
		return
	}
	q, r := new(big.Int).QuoRem(bigOf(a), bigOf(b), new(big.Int))
	checkAnswer(t, quotient, ok, q, "NatDiv, quotient", a, b)
	checkAnswer(t, rest, ok, r, "NatDiv, rest", a, b)
}

func TestOneNumber(t *testing.T) {
	for _, a := range numbers() {
		x := bigOf(a)
		if got := impl.NatBits(a); got != x.BitLen() {
			t.Errorf("NatBits %s: %d", brief(a), got)
		}
		if got := impl.NatText(a); got != x.String() {
			t.Errorf("NatText %s: %s", brief(a), got)
		}
		n, ok := impl.NatSmall(a)
		if ok != x.IsUint64() || ok && n != x.Uint64() || !ok && n != 0 {
			t.Errorf("NatSmall %s: %d %v", brief(a), n, ok)
		}
		read, ok := impl.NatRead(x.String())
		checkAnswer(t, read, ok, x, "NatRead", a)
		checkRoot(t, a)
	}
}

func checkRoot(t *testing.T, a []int) {
	t.Helper()
	root, exact, ok := impl.NatRoot(a)
	want := new(big.Int).Sqrt(bigOf(a))
	checkAnswer(t, root, ok, want, "NatRoot", a)
	if exact != (want.Mul(want, want).Cmp(bigOf(a)) == 0) {
		t.Errorf("NatRoot %s: exact %v", brief(a), exact)
	}
}

func TestShifts(t *testing.T) {
	steps := []int{0, 1, 2, 15, 16, 17, 31, 32, 33, 100, 2047, 2048, 2049, 4079, 4080, 4081, 4094, 4095, 4096}
	for _, a := range numbers() {
		for _, k := range steps {
			up, ok := impl.NatShift(a, k)
			checkAnswer(t, up, ok, new(big.Int).Lsh(bigOf(a), uint(k)), "NatShift up", a, []int{k})
			down, ok := impl.NatShift(a, -k)
			checkAnswer(t, down, ok, new(big.Int).Rsh(bigOf(a), uint(k)), "NatShift down", a, []int{k})
		}
	}
}

func TestPowers(t *testing.T) {
	for _, a := range numbers() {
		want := big.NewInt(1)
		for n := 0; n <= impl.NatMaxPower; n++ {
			power, ok := impl.NatPow(a, n)
			checkAnswer(t, power, ok, want, "NatPow", a, []int{n})
			want = new(big.Int).Mul(want, bigOf(a))
		}
	}
}
