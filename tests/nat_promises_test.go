package tests

import (
	"math"
	"math/bits"
	"strconv"
	"testing"

	"loop.example/pinwhole/impl"
)

// Promise 2: the quotient times the divisor, and the rest, is the number; the
// rest is less than the divisor.
func TestPromise2Division(t *testing.T) {
	for _, a := range numbers() {
		for _, b := range numbers() {
			if len(b) == 0 {
				continue
			}
			q, r := div(t, a, b)
			if impl.NatCmp(r, b) != -1 {
				t.Errorf("%s by %s: the rest is %s", brief(a), brief(b), brief(r))
			}
			if back := add(t, mul(t, q, b), r); !same(back, a) {
				t.Errorf("%s by %s: back comes %s", brief(a), brief(b), brief(back))
			}
		}
	}
}

// Promise 2: what is added comes off.
func TestPromise2Sums(t *testing.T) {
	for _, a := range numbers() {
		for _, b := range numbers() {
			sum, ok := impl.NatAdd(a, b)
			if ok && (!same(sub(t, sum, b), a) || !same(sub(t, sum, a), b)) {
				t.Errorf("%s and %s: %s", brief(a), brief(b), brief(sum))
			}
		}
	}
}

// Promise 2, where a quotient's digit is guessed one too great: just below a
// multiple of a divisor whose lower digits are the greatest.
func TestPromise2GuessedTooGreat(t *testing.T) {
	for _, high := range []int{1, 2, 3, 255, 32767, 32768, 32769, top} {
		for _, next := range []int{0, 1, 32768, top} {
			b := append(repeated(top, 5), next, high)
			for _, factor := range [][]int{{1}, {2}, {3}, {32768}, {top}, {0, 1}, {top, top}, mixed(7, 9)} {
				product := mul(t, b, factor)
				below := sub(t, product, []int{1})
				for _, a := range [][]int{below, product, add(t, product, []int{1})} {
					checkDivision(t, a, b)
				}
			}
		}
	}
}

// Promise 2, where the rest's top two digits are the divisor's, so that the
// quotient of the top digits would be no digit.
func TestPromise2SamePair(t *testing.T) {
	for _, high := range []int{1, 32767, 32768, top} {
		for _, low := range [][]int{{0}, {1}, {top}, {0, 0}, {top, top}, {5, 0, 7}} {
			b := append(append([]int{}, low...), 3, high)
			most := sub(t, mul(t, b, []int{0, 1}), []int{1})
			for _, less := range [][]int{nil, {1}, {top}, low[:1], {0, 1}, b} {
				if !impl.NatOk(less) {
					continue
				}
				a := sub(t, most, less)
				checkDivision(t, a, b)
				checkDivision(t, add(t, mul(t, a, placed(1, 3)), []int{77}), b)
			}
		}
	}
}

// Promise 3: a number is read back from its text.
func TestPromise3FromNumbers(t *testing.T) {
	for _, a := range numbers() {
		if s := impl.NatText(a); !same(read(t, s), a) {
			t.Errorf("%s: %s", brief(a), s)
		}
	}
}

// Promise 3: a text that is read is the text of its number.
func TestPromise3FromTexts(t *testing.T) {
	texts := []string{"0", "1", "9", "10", "99", "100", "9999", "10000", "10001", "99999999", "100000000", "1000000000000",
		"65535", "65536", "4294967295", "4294967296", "18446744073709551615", "18446744073709551616",
		"100020003000400050006", "900000000000000000000000000000000000000000000"}
	for _, s := range append(texts, wrongTexts()...) {
		a, ok := impl.NatRead(s)
		if ok && impl.NatText(a) != s {
			t.Errorf("%q: %s", s, impl.NatText(a))
		}
	}
	for _, s := range texts {
		read(t, s)
	}
}

// Promise 4: the square of NatRoot is not above the number, that of one more
// is; exact is told just where the square is the number.
func TestPromise4(t *testing.T) {
	for _, a := range numbers() {
		checkRootBounds(t, a)
		square, ok := impl.NatMul(a, a)
		if !ok {
			continue
		}
		root, exact, ok := impl.NatRoot(square)
		if !ok || !exact || !same(root, a) {
			t.Errorf("root of the square of %s: %s %v %v", brief(a), brief(root), exact, ok)
		}
		checkRootBounds(t, square)
		if more, ok := impl.NatAdd(square, []int{1}); ok {
			checkRootBounds(t, more)
		}
		if len(square) > 0 {
			checkRootBounds(t, sub(t, square, []int{1}))
		}
	}
	for n := range 3000 {
		checkRootBounds(t, impl.NatOf(uint64(n)))
	}
}

func checkRootBounds(t *testing.T, a []int) {
	t.Helper()
	root, exact, ok := impl.NatRoot(a)
	numberOf(t, "NatRoot", root, ok)
	order := impl.NatCmp(mul(t, root, root), a)
	if order == 1 || exact != (order == 0) {
		t.Errorf("root of %s: %s %v", brief(a), brief(root), exact)
	}
	// The square of one more may have too many digits: then it is above a.
	one := add(t, root, []int{1})
	if square, ok := impl.NatMul(one, one); ok && impl.NatCmp(square, a) != 1 {
		t.Errorf("root of %s: %s is too small", brief(a), brief(root))
	}
}

// Promise 5: NatShift up is a product, and comes back; bits grow by as many.
func TestPromise5(t *testing.T) {
	for _, a := range numbers() {
		for k := 0; k < 16*most; k++ {
			checkShift(t, a, k, placed(1<<(k%16), k/16))
		}
	}
}

func checkShift(t *testing.T, a []int, k int, factor []int) {
	t.Helper()
	up, ok := impl.NatShift(a, k)
	fits := len(a) == 0 || impl.NatBits(a)+k <= 16*most
	if ok != fits {
		t.Fatalf("%s up %d: %v", brief(a), k, ok)
	}
	if !ok {
		return
	}
	if !same(shift(t, up, -k), a) {
		t.Errorf("%s up %d does not come back", brief(a), k)
	}
	if len(a) > 0 && impl.NatBits(up) != impl.NatBits(a)+k {
		t.Errorf("%s up %d: %d bits", brief(a), k, impl.NatBits(up))
	}
	if k%7 == 0 && !same(up, mul(t, a, factor)) {
		t.Errorf("%s up %d: %s", brief(a), k, brief(up))
	}
}

// Promise 6: NatGcd divides both; what is left of both has no divisor but 1.
func TestPromise6(t *testing.T) {
	for _, a := range numbers() {
		for _, b := range numbers() {
			g := gcd(t, a, b)
			if len(a) == 0 || len(b) == 0 {
				if !same(g, add(t, a, b)) {
					t.Errorf("gcd of %s and %s: %s", brief(a), brief(b), brief(g))
				}
				continue
			}
			x, rest := div(t, a, g)
			y, more := div(t, b, g)
			if len(rest) > 0 || len(more) > 0 || !same(gcd(t, x, y), []int{1}) {
				t.Errorf("gcd of %s and %s: %s", brief(a), brief(b), brief(g))
			}
		}
	}
}

// Promise 6 with a divisor in common that is known.
func TestPromise6Common(t *testing.T) {
	x, y := mixed(20, 3), add(t, mul(t, mixed(20, 3), mixed(9, 4)), []int{1})
	if !same(gcd(t, x, y), []int{1}) {
		t.Fatal("one more than a multiple")
	}
	for _, size := range []int{0, 1, 2, 50, 200} {
		common := mixed(size, 5)
		if g := gcd(t, mul(t, x, common), mul(t, y, common)); !same(g, common) {
			t.Errorf("gcd %s, not %s", brief(g), brief(common))
		}
	}
}

// Promise 7: the product of two powers is the power of the exponents' sum.
func TestPromise7(t *testing.T) {
	bases := [][]int{nil, {1}, {2}, {3}, {10}, {top}, {0, 1}, {top, top}, {0, 0, 0, 1}, {top, top, top, top}, {0, 0, 0, 0, 1}, mixed(3, 8), mixed(20, 8), greatest()}
	for _, a := range bases {
		for m := 0; m <= impl.NatMaxPower; m++ {
			for n := 0; m+n <= impl.NatMaxPower; n += 3 {
				checkPowers(t, a, m, n)
			}
		}
	}
}

func checkPowers(t *testing.T, a []int, m, n int) {
	t.Helper()
	both, ok := impl.NatPow(a, m+n)
	x, okX := impl.NatPow(a, m)
	y, okY := impl.NatPow(a, n)
	if !okX || !okY {
		// Only powers of what is above 1 can be missing, and they grow.
		if ok {
			t.Errorf("%s to the %d is there, to the %d and %d not", brief(a), m+n, m, n)
		}
		return
	}
	product, fits := impl.NatMul(x, y)
	if ok != fits || !same(product, both) {
		t.Errorf("%s to the %d and %d: %s %v, not %s %v", brief(a), m, n, brief(product), fits, brief(both), ok)
	}
}

// small are numbers of 64 bits, the edges of digits and of bits among them.
func small() []uint64 {
	list := []uint64{0, 1, 2, 3, 7, 10, 12, 84, 120, 9999, 10000, 65535, 65536, 65537, 1000001,
		math.MaxUint32, math.MaxUint32 + 1, math.MaxInt64, math.MaxInt64 + 1, math.MaxUint64 - 1, math.MaxUint64}
	for k := 0; k < 64; k += 5 {
		list = append(list, 1<<k, 1<<k-1, 6700417<<k)
	}
	return list
}

// Promise 8: numbers below 2^64 are reckoned with as such.
func TestPromise8(t *testing.T) {
	for _, x := range small() {
		a := impl.NatOf(x)
		if n, ok := impl.NatSmall(a); !ok || n != x || !impl.NatOk(a) {
			t.Fatalf("NatOf %d: %s", x, brief(a))
		}
		if impl.NatBits(a) != bits.Len64(x) {
			t.Errorf("bits of %d: %d", x, impl.NatBits(a))
		}
		if s := strconv.FormatUint(x, 10); impl.NatText(a) != s || !same(read(t, s), a) {
			t.Errorf("text of %d: %s", x, impl.NatText(a))
		}
		for _, y := range small() {
			checkSmall(t, x, y)
		}
		for k := 0; k <= 64; k++ {
			is(t, "down", shift(t, a, -k), x>>k)
			if up := shift(t, a, k); bits.Len64(x)+k <= 64 {
				is(t, "up", up, x<<k)
			} else if _, ok := impl.NatSmall(up); ok {
				t.Errorf("%d up %d: %s", x, k, brief(up))
			}
		}
	}
}

func checkSmall(t *testing.T, x, y uint64) {
	t.Helper()
	a, b := impl.NatOf(x), impl.NatOf(y)
	order := 0
	if x < y {
		order = -1
	} else if x > y {
		order = 1
	}
	if impl.NatCmp(a, b) != order {
		t.Errorf("NatCmp %d %d: %d", x, y, impl.NatCmp(a, b))
	}
	low, carry := bits.Add64(x, y, 0)
	isWide(t, "sum", add(t, a, b), carry, low)
	high, low := bits.Mul64(x, y)
	isWide(t, "product", mul(t, a, b), high, low)
	if x >= y {
		is(t, "difference", sub(t, a, b), x-y)
	} else if left, ok := impl.NatSub(a, b); ok || len(left) > 0 {
		t.Errorf("%d less %d: %s %v", x, y, brief(left), ok)
	}
	if y > 0 {
		q, r := div(t, a, b)
		is(t, "quotient", q, x/y)
		is(t, "rest", r, x%y)
	}
	g, h := x, y
	for h > 0 {
		g, h = h, g%h
	}
	is(t, "gcd", gcd(t, a, b), g)
}

func is(t *testing.T, name string, a []int, want uint64) {
	t.Helper()
	if n, ok := impl.NatSmall(a); !ok || n != want {
		t.Errorf("%s: %s, not %d", name, brief(a), want)
	}
}

func isWide(t *testing.T, name string, a []int, high, low uint64) {
	t.Helper()
	_, ok := impl.NatSmall(a)
	if ok != (high == 0) {
		t.Errorf("%s: %s is below 2^64: %v", name, brief(a), ok)
	}
	is(t, name+", low", lowDigits(a), low)
	if len(a) > 4 {
		is(t, name+", high", a[4:], high)
	}
}

// lowDigits are the four lowest, as a number.
func lowDigits(a []int) []int {
	a = a[:min(4, len(a))]
	for len(a) > 0 && a[len(a)-1] == 0 {
		a = a[:len(a)-1]
	}
	return a
}
