package tests

import (
	"math/big"
	"testing"

	"loop.example/pinwhole/impl"
)

// The fractions of the tests are made by math/big, not by what is tested.

func fracOf(r *big.Rat) impl.Frac {
	size := new(big.Int).Abs(r.Num())
	return impl.Frac{Below: r.Sign() < 0, Top: digitsOf(size), Bottom: digitsOf(r.Denom())}
}

func ratOf(f impl.Frac) *big.Rat {
	r := new(big.Rat).SetFrac(bigOf(f.Top), bigOf(f.Bottom))
	if f.Below {
		r.Neg(r)
	}
	return r
}

func rat(top, bottom []int) *big.Rat { return new(big.Rat).SetFrac(bigOf(top), bigOf(bottom)) }

// frac is the fraction of a text such as "-2/3", which need not be in lowest
// terms.
func frac(s string) impl.Frac {
	r, ok := new(big.Rat).SetString(s)
	if !ok {
		panic(s)
	}
	return fracOf(r)
}

func negative(f impl.Frac) impl.Frac {
	return impl.Frac{Below: !f.Below && len(f.Top) > 0, Top: f.Top, Bottom: f.Bottom}
}

// lessOne is a number above 0 less 1.
func lessOne(a []int) []int { return digitsOf(new(big.Int).Sub(bigOf(a), big.NewInt(1))) }

// smallFracs are of a few digits, each with both signs.
func smallFracs() []impl.Frac {
	list := []impl.Frac{frac("0")}
	for _, s := range []string{
		"1", "2", "3", "4", "10", "25", "65535", "65536", "65537", "18446744073709551616",
		"1/2", "1/3", "2/3", "3/2", "9/4", "4/9", "7/4", "25/16", "1/6", "5/6", "1/10", "99/100", "101/100",
		"1/65535", "1/65536", "65535/65536", "65536/65535", "65537/65536", "65536/65537",
		"9223372036854775807/9223372036854775808", "18446744073709551616/3", "1/18446744073709551615",
	} {
		list = append(list, frac(s), negative(frac(s)))
	}
	return list
}

// middleFracs are of more digits, none near the limit.
func middleFracs() []impl.Frac {
	var list []impl.Frac
	for i, size := range []int{3, 8, 20, 40} {
		seed := uint32(10 * i)
		list = append(list, fracOf(rat(mixed(size, seed), mixed(size+1, seed+1))),
			negative(fracOf(rat(mixed(size+1, seed+2), mixed(size, seed+3)))),
			fracOf(rat(placed(1, size), repeated(top, size))), negative(fracOf(rat(mixed(size, seed), []int{1}))))
	}
	return list
}

// greatFracs have just the most digits at the top, at the bottom, or at both.
func greatFracs() []impl.Frac {
	g, one := greatest(), []int{1}
	list := []impl.Frac{}
	for _, r := range []*big.Rat{
		rat(g, one), rat(one, g), rat(g, lessOne(g)), rat(lessOne(g), g),
		rat(placed(1, most-1), one), rat(one, placed(1, most-1)), rat(placed(1, most-1), g),
		rat(g, placed(1, most/2)), rat(mixed(most, 1), mixed(most, 2)), rat(mixed(most, 3), mixed(3, 4)),
	} {
		list = append(list, fracOf(r))
	}
	return append(list, negative(list[0]), negative(list[1]), negative(list[2]), negative(list[8]))
}

func fracs() []impl.Frac { return append(append(smallFracs(), middleFracs()...), greatFracs()...) }

// notFracs are not ok, each for one reason or for several.
func notFracs() []impl.Frac {
	list := []impl.Frac{
		{}, {Below: true}, {Below: true, Bottom: []int{1}}, {Below: true, Bottom: []int{2}},
		{Bottom: []int{2}}, {Bottom: greatest()}, {Bottom: []int{}, Top: []int{}},
	}
	x := mixed(40, 5)
	for _, f := range []impl.Frac{
		{Top: []int{1}}, {Top: greatest()}, {Top: []int{1}, Bottom: []int{}},
		{Top: []int{2}, Bottom: []int{2}}, {Top: []int{2}, Bottom: []int{4}}, {Top: []int{6}, Bottom: []int{4}}, {Top: []int{4}, Bottom: []int{2}},
		{Top: []int{1, 1}, Bottom: []int{2, 2}}, {Top: []int{3, 3}, Bottom: []int{1, 1}}, {Top: []int{0, 1}, Bottom: []int{0, 0, 1}},
		{Top: x, Bottom: x}, {Top: digitsOf(new(big.Int).Mul(bigOf(x), big.NewInt(3))), Bottom: digitsOf(new(big.Int).Mul(bigOf(x), big.NewInt(7)))},
		{Top: greatest(), Bottom: greatest()}, {Top: greatest(), Bottom: []int{3}}, {Top: placed(1, most-1), Bottom: []int{2}},
	} {
		list = append(list, f, impl.Frac{Below: true, Top: f.Top, Bottom: f.Bottom})
	}
	for i, a := range notNumbers() {
		below := i%2 == 0
		list = append(list, impl.Frac{Below: below, Top: a, Bottom: []int{1}}, impl.Frac{Below: !below, Top: []int{1}, Bottom: a},
			impl.Frac{Bottom: a}, impl.Frac{Below: below, Top: a, Bottom: a}, impl.Frac{Below: below, Top: a})
	}
	return list
}

func sameFrac(f, g impl.Frac) bool {
	return f.Below == g.Below && same(f.Top, g.Top) && same(f.Bottom, g.Bottom)
}

func briefFrac(f impl.Frac) string {
	s := brief(f.Top) + "/" + brief(f.Bottom)
	if f.Below {
		s = "-" + s
	}
	return s
}

// checkFrac holds an answer against the true one: nothing and false, if there
// is none or it has too many digits in lowest terms.
func checkFrac(t *testing.T, got impl.Frac, ok bool, want *big.Rat, name string, args ...impl.Frac) {
	t.Helper()
	var f impl.Frac
	fits := want != nil && want.Num().BitLen() <= 16*most && want.Denom().BitLen() <= 16*most
	if fits {
		f = fracOf(want)
	}
	if ok != fits || !sameFrac(got, f) {
		said := name
		for _, a := range args {
			said += " " + briefFrac(a)
		}
		t.Errorf("%s: %s %v, not %s %v", said, briefFrac(got), ok, briefFrac(f), fits)
	}
}

func noFrac(t *testing.T, got impl.Frac, ok bool, name string, args ...impl.Frac) {
	t.Helper()
	checkFrac(t, got, ok, nil, name, args...)
}

// there takes an answer where there must be one.
func there(t *testing.T) func(f impl.Frac, ok bool) impl.Frac {
	return func(f impl.Frac, ok bool) impl.Frac {
		t.Helper()
		if !ok {
			t.Fatal("no answer")
		}
		if !impl.FracOk(f) {
			t.Fatalf("the answer %s is not ok", briefFrac(f))
		}
		return f
	}
}
