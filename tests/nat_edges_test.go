package tests

import (
	"math"
	"strings"
	"testing"

	"loop.example/pinwhole/impl"
)

func TestZero(t *testing.T) {
	for _, zero := range [][]int{nil, {}} {
		for _, a := range [][]int{nil, {1}, {0, 1}, mixed(40, 2), greatest()} {
			if !same(add(t, a, zero), a) || !same(add(t, zero, a), a) || !same(sub(t, a, zero), a) {
				t.Errorf("sums of %s and 0", brief(a))
			}
			if len(mul(t, a, zero)) != 0 || len(mul(t, zero, a)) != 0 {
				t.Errorf("products of %s and 0", brief(a))
			}
			if !same(gcd(t, a, zero), a) || !same(gcd(t, zero, a), a) {
				t.Errorf("gcd of %s and 0", brief(a))
			}
			if q, r, ok := impl.NatDiv(a, zero); ok || len(q) > 0 || len(r) > 0 {
				t.Errorf("%s by 0: %s %s %v", brief(a), brief(q), brief(r), ok)
			}
		}
		if q, r := div(t, zero, []int{7}); len(q) > 0 || len(r) > 0 {
			t.Error("0 by 7")
		}
		if left, ok := impl.NatSub(zero, []int{1}); ok || len(left) > 0 {
			t.Error("0 less 1")
		}
		if root, exact, ok := impl.NatRoot(zero); len(root) > 0 || !exact || !ok {
			t.Error("root of 0")
		}
		if n, ok := impl.NatSmall(zero); n != 0 || !ok {
			t.Error("NatSmall of 0")
		}
		if impl.NatBits(zero) != 0 || impl.NatText(zero) != "0" || impl.NatCmp(zero, nil) != 0 || !impl.NatOk(zero) {
			t.Error("0")
		}
	}
	if len(impl.NatOf(0)) != 0 || len(read(t, "0")) != 0 {
		t.Error("0 has no digits")
	}
}

func nothing(t *testing.T, name string, a []int, ok bool) {
	t.Helper()
	if ok || len(a) > 0 {
		t.Errorf("%s: %s %v", name, brief(a), ok)
	}
}

func TestJustFits(t *testing.T) {
	g := greatest()
	if !same(add(t, sub(t, g, []int{1}), []int{1}), g) {
		t.Error("sum of the most digits")
	}
	sum, ok := impl.NatAdd(g, []int{1})
	nothing(t, "one more than the greatest", sum, ok)
	sum, ok = impl.NatAdd(g, g)
	nothing(t, "twice the greatest", sum, ok)

	if p := mul(t, repeated(top, most/2), repeated(top, most/2)); len(p) != most {
		t.Error("product of the most digits", len(p))
	}
	if p := mul(t, placed(1, most-1), []int{top}); !same(p, placed(top, most-1)) {
		t.Error("product by the greatest digit")
	}
	if p := mul(t, placed(1, most/2), placed(1, most/2-1)); !same(p, placed(1, most-1)) {
		t.Error("product of two powers of the base")
	}
	product, ok := impl.NatMul(placed(1, most/2), placed(1, most/2))
	nothing(t, "product of one digit more", product, ok)
	product, ok = impl.NatMul(placed(32768, most-1), []int{2})
	nothing(t, "product of one bit more", product, ok)
	product, ok = impl.NatMul(g, g)
	nothing(t, "square of the greatest", product, ok)
	if p := mul(t, g, []int{1}); !same(p, g) {
		t.Error("the greatest times 1")
	}
}

func TestGreatestDivided(t *testing.T) {
	g := greatest()
	if q, r := div(t, g, g); !same(q, []int{1}) || len(r) > 0 {
		t.Error("by itself")
	}
	if q, r := div(t, g, []int{1}); !same(q, g) || len(r) > 0 {
		t.Error("by 1")
	}
	if q, r := div(t, g, []int{top}); !same(q, repeated(1, most)) || len(r) > 0 {
		t.Error("by the greatest digit")
	}
	if q, r := div(t, g, []int{0, 1}); !same(q, repeated(top, most-1)) || !same(r, []int{top}) {
		t.Error("by the base")
	}
	if q, r := div(t, sub(t, g, []int{1}), g); len(q) > 0 || !same(r, sub(t, g, []int{1})) {
		t.Error("of one less")
	}
	for size := 1; size < most; size++ {
		for _, b := range [][]int{repeated(top, size), placed(1, size), repeated(1, size), mixed(size, 6)} {
			checkDivision(t, g, b)
			checkDivision(t, placed(1, most-1), b)
		}
	}
}

// A divisor whose highest digit is small, above lower digits that are great.
func TestSmallHighestDigit(t *testing.T) {
	for _, high := range []int{1, 2, 3, 4, 7, 8, 100, 32767} {
		for _, low := range []int{0, 1, 32767, 32768, top} {
			for size := 1; size < 6; size++ {
				b := append(repeated(low, size), high)
				for _, a := range [][]int{repeated(top, 9), placed(1, 9), append(repeated(0, 8), top, high), append(repeated(top, 8), high), mixed(12, 4)} {
					checkDivision(t, a, b)
				}
			}
		}
	}
}

func TestShiftEdges(t *testing.T) {
	const far = 16 * most
	for _, a := range [][]int{nil, {1}, {5}, greatest()} {
		for _, k := range []int{far + 1, -far - 1, math.MaxInt, math.MinInt, math.MinInt + 1} {
			got, ok := impl.NatShift(a, k)
			nothing(t, "shift past the limit", got, ok)
		}
		if got := shift(t, a, -far); len(got) > 0 {
			t.Errorf("%s shifted down by all bits: %s", brief(a), brief(got))
		}
		if !same(shift(t, a, 0), a) {
			t.Errorf("%s shifted by 0", brief(a))
		}
	}
	if got := shift(t, nil, far); len(got) > 0 {
		t.Error("0 up by the most")
	}
	up, ok := impl.NatShift([]int{1}, far)
	nothing(t, "1 up by the most", up, ok)
	if !same(shift(t, []int{1}, far-1), placed(32768, most-1)) {
		t.Error("1 up to the highest bit")
	}
	up, ok = impl.NatShift([]int{2}, far-1)
	nothing(t, "2 up past the highest bit", up, ok)
	if !same(shift(t, greatest(), 1-far), []int{1}) {
		t.Error("the greatest down to its highest bit")
	}
	up, ok = impl.NatShift(greatest(), 1)
	nothing(t, "the greatest up by 1", up, ok)
}

func TestPowerEdges(t *testing.T) {
	for _, a := range [][]int{nil, {1}, {2}, {top, top, top, top}, greatest()} {
		if !same(pow(t, a, 0), []int{1}) || !same(pow(t, a, 1), a) {
			t.Errorf("%s to the 0 and 1", brief(a))
		}
		for _, n := range []int{-1, impl.NatMaxPower + 1, math.MinInt, math.MaxInt} {
			got, ok := impl.NatPow(a, n)
			nothing(t, "power past the limit", got, ok)
		}
	}
	if len(pow(t, nil, impl.NatMaxPower)) > 0 || !same(pow(t, []int{1}, impl.NatMaxPower), []int{1}) {
		t.Error("0 and 1 to the most")
	}
	// 2^64 less 1 to the 64 has just the most digits, 2^64 one more.
	if len(pow(t, repeated(top, 4), impl.NatMaxPower)) != most {
		t.Error("power of just the most digits")
	}
	got, ok := impl.NatPow(placed(1, 4), impl.NatMaxPower)
	nothing(t, "power of one digit more", got, ok)
	if !same(pow(t, placed(1, 4), impl.NatMaxPower-1), placed(1, 4*(impl.NatMaxPower-1))) {
		t.Error("2^64 to one less than the most")
	}
	got, ok = impl.NatPow(greatest(), 2)
	nothing(t, "square of the greatest", got, ok)
}

func TestSmallEdges(t *testing.T) {
	if !same(impl.NatOf(math.MaxUint64), repeated(top, 4)) || !same(impl.NatOf(65535), []int{top}) || !same(impl.NatOf(65536), []int{0, 1}) {
		t.Error("NatOf")
	}
	if n, ok := impl.NatSmall(repeated(top, 4)); n != math.MaxUint64 || !ok {
		t.Error("2^64 less 1", n, ok)
	}
	for _, a := range [][]int{placed(1, 4), {1, 0, 0, 0, 1}, repeated(top, 5), greatest()} {
		if n, ok := impl.NatSmall(a); n != 0 || ok {
			t.Errorf("NatSmall %s: %d", brief(a), n)
		}
	}
}

func TestRootEdges(t *testing.T) {
	root, exact, ok := impl.NatRoot(greatest())
	if !ok || exact || !same(root, repeated(top, most/2)) {
		t.Errorf("root of the greatest: %s %v %v", brief(root), exact, ok)
	}
	root, exact, ok = impl.NatRoot(placed(1, most-2))
	if !ok || !exact || !same(root, placed(1, most/2-1)) {
		t.Errorf("root of an even power of the base: %s %v %v", brief(root), exact, ok)
	}
	root, exact, ok = impl.NatRoot(placed(1, most-1))
	if !ok || !exact || !same(root, placed(256, most/2-1)) {
		t.Errorf("root of an odd power of the base: %s %v %v", brief(root), exact, ok)
	}
	root, exact, ok = impl.NatRoot(placed(32768, most-1))
	if !ok || exact || len(root) != most/2 {
		t.Errorf("root of an odd power of two: %s %v %v", brief(root), exact, ok)
	}
}

// The decimals of the greatest number, 2^4096 less 1, and of one more.
func greatestText() string { return bigOf(greatest()).String() }

func oneMoreText() string { return bigOf(placed(1, most)).String() }

func TestReadEdges(t *testing.T) {
	if !same(read(t, greatestText()), greatest()) || impl.NatText(greatest()) != greatestText() {
		t.Error("text of the greatest")
	}
	a, ok := impl.NatRead(oneMoreText())
	nothing(t, "text of one more than the greatest", a, ok)
	for _, size := range []int{len(greatestText()) + 1, impl.NatMaxText - 1, impl.NatMaxText, impl.NatMaxText + 1, 100000} {
		for _, s := range []string{strings.Repeat("0", size), strings.Repeat("9", size), "1" + strings.Repeat("0", size-1), strings.Repeat("0", size-1) + "1"} {
			a, ok := impl.NatRead(s)
			nothing(t, "long text", a, ok)
		}
	}
}

// A number's text may begin with each decimal and may hold noughts anywhere.
func TestTextNoughts(t *testing.T) {
	for size := 1; size < 40; size++ {
		for _, s := range []string{"1" + strings.Repeat("0", size), "7" + strings.Repeat("0", size) + "3", strings.Repeat("9", size), strings.Repeat("10", size)} {
			if got := impl.NatText(read(t, s)); got != s {
				t.Errorf("%s: %s", s, got)
			}
		}
	}
}
