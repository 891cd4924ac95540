package tests

import (
	"math"
	"math/big"
	"slices"
	"strconv"
	"testing"

	"loop.example/pinwhole/impl"
)

const (
	top  = impl.NatBase - 1
	most = impl.NatMaxDigits
)

// same holds the empty list and the nil list for one value.
func same(a, b []int) bool { return slices.Equal(a, b) }

func repeated(digit, size int) []int { return slices.Repeat([]int{digit}, size) }

// greatest is the greatest number, NatBase to the power of NatMaxDigits less 1.
func greatest() []int { return repeated(top, most) }

// placed is a digit with noughts below it.
func placed(digit, noughts int) []int { return append(repeated(0, noughts), digit) }

// mixed is a number of so many digits without a pattern, the same at each run.
func mixed(size int, seed uint32) []int {
	a := make([]int, size)
	for i := range a {
		seed = seed*1664525 + 1013904223
		a[i] = int(seed >> 16)
	}
	if size > 0 && a[size-1] == 0 {
		a[size-1] = 1
	}
	return a
}

func bigOf(a []int) *big.Int {
	n := new(big.Int)
	for i := len(a) - 1; i >= 0; i-- {
		n.Lsh(n, 16)
		n.Or(n, big.NewInt(int64(a[i])))
	}
	return n
}

func digitsOf(n *big.Int) []int {
	var a []int
	for n = new(big.Int).Set(n); n.Sign() > 0; n.Rsh(n, 16) {
		a = append(a, int(new(big.Int).And(n, big.NewInt(top)).Int64()))
	}
	return a
}

// numbers are ordinary ones and those at the edges.
func numbers() [][]int {
	list := [][]int{
		nil, {}, {1}, {2}, {3}, {9}, {10}, {9999}, {10000}, {32767}, {32768}, {top},
		{0, 1}, {1, 1}, {top, 1}, {top, top}, {0, 32768}, {top, 32767}, {0, 0, 1}, {top, top, top},
		{0, 0, 0, 1}, {top, top, top, top}, {0, 0, 0, 0, 1}, {1, 0, 0, 0, 1},
		{top, top, 0, 32768}, {top, 0, 32768}, {0, top, 32767}, {top, 0, 0, 1}, {top, top, 0, 1},
		greatest(), placed(1, most-1), placed(top, most-1), placed(32768, most-1), placed(1, most-2),
		repeated(top, most-1), repeated(1, most), repeated(top, most/2), placed(1, most/2), placed(1, most/2-1),
	}
	for i, size := range []int{1, 2, 3, 4, 5, 8, 17, 64, most / 2, most/2 + 1, most - 1, most} {
		list = append(list, mixed(size, uint32(i+1)))
		small := mixed(size, uint32(100+i))
		small[size-1] = 1
		list = append(list, small)
	}
	return list
}

// notNumbers are lists that are no number, each for one reason or for several.
func notNumbers() [][]int {
	return [][]int{
		{0}, {0, 0}, {1, 0}, {top, top, 0}, repeated(0, most), append(repeated(1, most-1), 0),
		{-1}, {-1, 1}, {1, -1}, {5, -1, 5}, append(repeated(1, most-1), -1), {math.MinInt},
		{impl.NatBase}, {impl.NatBase, 1}, {1, impl.NatBase}, {5, impl.NatBase, 5},
		append(repeated(1, most-1), impl.NatBase), {math.MaxInt}, {math.MaxInt, math.MaxInt},
		repeated(1, most+1), repeated(top, most+1), placed(1, most), repeated(0, most+1), repeated(top, 5000),
	}
}

// brief tells a number in a fault without filling the page.
func brief(a []int) string {
	if len(a) <= 6 {
		return listText(a)
	}
	return listText(a[:3]) + ".." + listText(a[len(a)-3:]) + " of " + strconv.Itoa(len(a)) + " digits"
}

func listText(a []int) string {
	s := "["
	for i, x := range a {
		if i > 0 {
			s += " "
		}
		s += strconv.Itoa(x)
	}
	return s + "]"
}

// The helpers below ask for an answer where there must be one.

func add(t *testing.T, a, b []int) []int {
	t.Helper()
	c, ok := impl.NatAdd(a, b)
	return numberOf(t, "NatAdd", c, ok)
}

func sub(t *testing.T, a, b []int) []int {
	t.Helper()
	c, ok := impl.NatSub(a, b)
	return numberOf(t, "NatSub", c, ok)
}

func mul(t *testing.T, a, b []int) []int {
	t.Helper()
	c, ok := impl.NatMul(a, b)
	return numberOf(t, "NatMul", c, ok)
}

func div(t *testing.T, a, b []int) ([]int, []int) {
	t.Helper()
	q, r, ok := impl.NatDiv(a, b)
	return numberOf(t, "NatDiv", q, ok), numberOf(t, "NatDiv", r, ok)
}

func shift(t *testing.T, a []int, k int) []int {
	t.Helper()
	c, ok := impl.NatShift(a, k)
	return numberOf(t, "NatShift", c, ok)
}

func pow(t *testing.T, a []int, n int) []int {
	t.Helper()
	c, ok := impl.NatPow(a, n)
	return numberOf(t, "NatPow", c, ok)
}

func gcd(t *testing.T, a, b []int) []int {
	t.Helper()
	c, ok := impl.NatGcd(a, b)
	return numberOf(t, "NatGcd", c, ok)
}

func read(t *testing.T, s string) []int {
	t.Helper()
	c, ok := impl.NatRead(s)
	return numberOf(t, "NatRead", c, ok)
}

func numberOf(t *testing.T, name string, a []int, ok bool) []int {
	t.Helper()
	if !ok {
		t.Fatalf("%s: no answer", name)
	}
	if !impl.NatOk(a) {
		t.Fatalf("%s: the answer %s is no number", name, brief(a))
	}
	return a
}
