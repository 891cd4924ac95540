package tests

import (
	"slices"
	"testing"

	"loop.example/pinwhole/impl"
)

// some are few enough to be taken three at a time.
func some() []impl.Frac {
	list := []impl.Frac{
		frac("0"), frac("1"), frac("-1"), frac("2"), frac("1/2"), frac("-1/3"), frac("5/6"), frac("-9/4"), frac("65536"),
		frac("-65535/65536"), frac("1/18446744073709551615"),
	}
	return append(list, middleFracs()[:6]...)
}

// twice runs an operation on the answer of another, if both are there.
func twice(first, second func(a, b impl.Frac) (impl.Frac, bool), a, b, c impl.Frac) (impl.Frac, bool) {
	x, ok := first(a, b)
	if !ok {
		return impl.Frac{}, false
	}
	return second(x, c)
}

// turned is an operation with its arguments the other way round.
func turned(run func(a, b impl.Frac) (impl.Frac, bool)) func(a, b impl.Frac) (impl.Frac, bool) {
	return func(a, b impl.Frac) (impl.Frac, bool) { return run(b, a) }
}

// Promise 1: sums and products do not hang on their order.
func TestPromise1Order(t *testing.T) {
	for _, a := range append(some(), greatFracs()...) {
		for _, b := range some() {
			sum, ok := impl.FracAdd(a, b)
			other, okOther := impl.FracAdd(b, a)
			if ok != okOther || !sameFrac(sum, other) {
				t.Errorf("sum of %s and %s", briefFrac(a), briefFrac(b))
			}
			product, ok := impl.FracMul(a, b)
			other, okOther = impl.FracMul(b, a)
			if ok != okOther || !sameFrac(product, other) {
				t.Errorf("product of %s and %s", briefFrac(a), briefFrac(b))
			}
		}
	}
}

// Promise 1: nor on how they are put together; products go over sums.
func TestPromise1Together(t *testing.T) {
	for _, a := range some() {
		for _, b := range some() {
			for _, c := range some() {
				checkTogether(t, a, b, c)
			}
		}
	}
}

// Promise 1 among fractions of the most digits, where what comes up is there
// or not.
func TestPromise1TogetherGreat(t *testing.T) {
	great := greatFracs()
	for i, a := range great {
		b := great[(i+3)%len(great)]
		checkTogether(t, a, b, frac("-1/3"))
		checkTogether(t, a, frac("65537/2"), negative(a))
		checkTogether(t, frac("3/7"), a, negative(b))
	}
}

func checkTogether(t *testing.T, a, b, c impl.Frac) {
	t.Helper()
	said := briefFrac(a) + " " + briefFrac(b) + " " + briefFrac(c)
	left, ok := twice(impl.FracAdd, impl.FracAdd, a, b, c)
	right, okRight := twice(impl.FracAdd, turned(impl.FracAdd), b, c, a)
	if ok && okRight && !sameFrac(left, right) {
		t.Errorf("sums of %s: %s, %s", said, briefFrac(left), briefFrac(right))
	}
	left, ok = twice(impl.FracMul, impl.FracMul, a, b, c)
	right, okRight = twice(impl.FracMul, turned(impl.FracMul), b, c, a)
	if ok && okRight && !sameFrac(left, right) {
		t.Errorf("products of %s: %s, %s", said, briefFrac(left), briefFrac(right))
	}
	left, ok = twice(impl.FracAdd, impl.FracMul, a, b, c)
	x, okX := impl.FracMul(a, c)
	y, okY := impl.FracMul(b, c)
	if !ok || !okX || !okY {
		return
	}
	right, okRight = impl.FracAdd(x, y)
	if !okRight || !sameFrac(left, right) {
		t.Errorf("product over the sum of %s: %s, %s", said, briefFrac(left), briefFrac(right))
	}
}

// Promise 1: what is added comes off, what is multiplied by what is not 0 is
// divided off.
func TestPromise1Off(t *testing.T) {
	for _, a := range append(some(), greatFracs()...) {
		for _, b := range append(some(), greatFracs()[:3]...) {
			if sum, ok := impl.FracAdd(a, b); ok {
				back, ok := impl.FracSub(sum, b)
				if !ok || !sameFrac(back, a) {
					t.Errorf("%s and %s: back comes %s", briefFrac(a), briefFrac(b), briefFrac(back))
				}
			}
			if product, ok := impl.FracMul(a, b); ok && len(b.Top) > 0 {
				back, ok := impl.FracDiv(product, b)
				if !ok || !sameFrac(back, a) {
					t.Errorf("%s times %s: back comes %s", briefFrac(a), briefFrac(b), briefFrac(back))
				}
			}
		}
	}
}

// Promise 9: a fraction stays the same if its top and bottom are multiplied by
// one number that is not 0.
func TestPromise9(t *testing.T) {
	factors := [][]int{{1}, {2}, {3}, {10}, {top}, {0, 1}, {1, 1}, mixed(5, 1), mixed(30, 2), placed(1, 60), repeated(top, 90), mixed(215, 3)}
	for _, f := range append(smallFracs(), middleFracs()...) {
		for _, k := range factors {
			if len(f.Top)+len(k) > most || len(f.Bottom)+len(k) > most {
				continue
			}
			for _, below := range []bool{false, true} {
				plain := there(t)(impl.FracOf(below, f.Top, f.Bottom))
				more := there(t)(impl.FracOf(below, mul(t, f.Top, k), mul(t, f.Bottom, k)))
				if !sameFrac(plain, more) || !same(plain.Top, f.Top) || !same(plain.Bottom, f.Bottom) {
					t.Errorf("%s by %s: %s, %s", briefFrac(f), brief(k), briefFrac(plain), briefFrac(more))
				}
			}
		}
	}
}

// Promise 9 where the multiplied top or bottom has just the most digits.
func TestPromise9Great(t *testing.T) {
	g := greatest()
	for _, k := range [][]int{{3}, {5}, {17}, {257}, {top}, repeated(top, 2), repeated(top, most/2), g} {
		rest, _ := div(t, g, k)
		f := there(t)(impl.FracOf(true, g, k))
		if !sameFrac(f, impl.Frac{Below: true, Top: rest, Bottom: []int{1}}) {
			t.Errorf("the greatest by %s: %s", brief(k), briefFrac(f))
		}
		f = there(t)(impl.FracOf(false, k, g))
		if !sameFrac(f, impl.Frac{Top: []int{1}, Bottom: rest}) {
			t.Errorf("%s by the greatest: %s", brief(k), briefFrac(f))
		}
	}
}

// Promise 10: fractions are compared as the sign of their difference.
func TestPromise10Difference(t *testing.T) {
	list := append(some(), greatFracs()...)
	for _, a := range list {
		for _, b := range list {
			order := impl.FracCmp(a, b)
			if order != -impl.FracCmp(b, a) || (order == 0) != sameFrac(a, b) {
				t.Errorf("%s, %s: %d", briefFrac(a), briefFrac(b), order)
			}
			if left, ok := impl.FracSub(a, b); ok && impl.FracSign(left) != order {
				t.Errorf("%s less %s: %s, order %d", briefFrac(a), briefFrac(b), briefFrac(left), order)
			}
		}
	}
}

// Promise 10: the order goes through.
func TestPromise10Through(t *testing.T) {
	list := append(append(smallFracs(), middleFracs()...), greatFracs()[:6]...)
	slices.SortFunc(list, impl.FracCmp)
	for i, a := range list {
		for j, b := range list {
			if (j-i)%5 != 0 && j-i != 1 {
				continue
			}
			want := 0
			if !sameFrac(a, b) && i < j {
				want = -1
			} else if !sameFrac(a, b) {
				want = 1
			}
			if got := impl.FracCmp(a, b); got != want {
				t.Errorf("%s at %d, %s at %d: %d", briefFrac(a), i, briefFrac(b), j, got)
			}
		}
	}
}

// Promise 11: FracRoot of a square is the fraction without its sign; what has
// a root is its square.
func TestPromise11Root(t *testing.T) {
	list := append(smallFracs(), middleFracs()...)
	for _, a := range append(list, fracOf(rat(repeated(top, most/2), mixed(most/2, 7))), negative(fracOf(rat([]int{3}, repeated(top, most/2))))) {
		square := there(t)(impl.FracMul(a, a))
		root := there(t)(impl.FracRoot(square))
		if !sameFrac(root, there(t)(impl.FracAbs(a))) {
			t.Errorf("root of the square of %s: %s", briefFrac(a), briefFrac(root))
		}
	}
	for _, f := range fracs() {
		root, ok := impl.FracRoot(f)
		if !ok {
			continue
		}
		if back := there(t)(impl.FracMul(root, root)); !sameFrac(back, f) || impl.FracSign(root) < 0 {
			t.Errorf("root of %s: %s", briefFrac(f), briefFrac(root))
		}
	}
}

// Promise 11: FracFloor is at most the fraction, and one more is above it.
func TestPromise11Floor(t *testing.T) {
	for _, f := range fracs() {
		n := there(t)(impl.FracFloor(f))
		if !same(n.Bottom, []int{1}) || impl.FracCmp(n, f) == 1 {
			t.Errorf("floor of %s: %s", briefFrac(f), briefFrac(n))
		}
		// One more than the greatest whole number is none, and above all.
		more, ok := impl.FracAdd(n, impl.FracInt(1))
		if ok && impl.FracCmp(more, f) != 1 || !ok && !sameFrac(n, impl.Frac{Top: greatest(), Bottom: []int{1}}) {
			t.Errorf("floor of %s: %s is too small", briefFrac(f), briefFrac(n))
		}
	}
}

// Promise 12: a fraction is read back from its text.
func TestPromise12FromFracs(t *testing.T) {
	for _, f := range fracs() {
		if back := there(t)(impl.FracRead(impl.FracText(f))); !sameFrac(back, f) {
			t.Errorf("%s: %s", briefFrac(f), briefFrac(back))
		}
	}
}

// Promise 12: a text that is read is the text of its fraction.
func TestPromise12FromTexts(t *testing.T) {
	texts := []string{"0", "1", "-1", "10", "1/2", "-1/2", "2/3", "100/9", "-9/100", "65536/65537", "-18446744073709551616/18446744073709551615", "1/10000000000000000000000"}
	for _, s := range texts {
		there(t)(impl.FracRead(s))
	}
	for _, s := range append(texts, wrongFracTexts()...) {
		if f, ok := impl.FracRead(s); ok && impl.FracText(f) != s {
			t.Errorf("%q: %s", s, impl.FracText(f))
		}
	}
}
