package tests

import (
	"slices"
	"testing"

	"loop.example/pinwhole/impl"
)

// fracCall is a function of two fractions as a function of its lists.
type fracCall struct {
	name string
	run  func(a, b impl.Frac) impl.Frac
}

func first(f impl.Frac, ok bool) impl.Frac { return f }

func fracCalls() []fracCall {
	list := []fracCall{
		{"FracOk", func(a, b impl.Frac) impl.Frac { impl.FracOk(a); return impl.Frac{} }},
		{"FracCmp", func(a, b impl.Frac) impl.Frac { impl.FracCmp(a, b); return impl.Frac{} }},
		{"FracSign", func(a, b impl.Frac) impl.Frac { impl.FracSign(a); return impl.Frac{} }},
		{"FracText", func(a, b impl.Frac) impl.Frac { impl.FracText(a); return impl.Frac{} }},
		{"DecText", func(a, b impl.Frac) impl.Frac { impl.DecText(a); return impl.Frac{} }},
		{"FracInt", func(a, b impl.Frac) impl.Frac { return impl.FracInt(len(a.Top) - len(b.Top)) }},
		{"FracOf", func(a, b impl.Frac) impl.Frac { return first(impl.FracOf(a.Below, a.Top, b.Top)) }},
		{"FracOf", func(a, b impl.Frac) impl.Frac { return first(impl.FracOf(b.Below, a.Top, a.Bottom)) }},
		{"FracOf", func(a, b impl.Frac) impl.Frac { return first(impl.FracOf(b.Below, a.Top, a.Top)) }},
		{"FracNeg", func(a, b impl.Frac) impl.Frac { return first(impl.FracNeg(a)) }},
		{"FracAbs", func(a, b impl.Frac) impl.Frac { return first(impl.FracAbs(a)) }},
		{"FracAdd", func(a, b impl.Frac) impl.Frac { return first(impl.FracAdd(a, b)) }},
		{"FracSub", func(a, b impl.Frac) impl.Frac { return first(impl.FracSub(a, b)) }},
		{"FracMul", func(a, b impl.Frac) impl.Frac { return first(impl.FracMul(a, b)) }},
		{"FracDiv", func(a, b impl.Frac) impl.Frac { return first(impl.FracDiv(a, b)) }},
		{"FracRoot", func(a, b impl.Frac) impl.Frac { return first(impl.FracRoot(a)) }},
		{"FracFloor", func(a, b impl.Frac) impl.Frac { return first(impl.FracFloor(a)) }},
		{"FracRead", func(a, b impl.Frac) impl.Frac { return first(impl.FracRead(impl.FracText(a))) }},
		{"DecFrac", func(a, b impl.Frac) impl.Frac { return first(impl.DecFrac(decimals(a))) }},
	}
	for _, n := range []int{0, 1, 2, 3} {
		list = append(list, fracCall{"FracPow", func(a, b impl.Frac) impl.Frac { return first(impl.FracPow(a, n)) }})
	}
	return list
}

// decimals is some literal that hangs on a fraction.
func decimals(f impl.Frac) string {
	s, ok := impl.DecText(f)
	if !ok {
		return "12.5e-3"
	}
	return s
}

func memoryFracs() []impl.Frac {
	return []impl.Frac{
		frac("0"), frac("1"), frac("-1"), frac("2"), frac("4"), frac("-1/2"), frac("9/4"), frac("65536/65537"), frac("-5/65536"), frac("1/10"),
		middleFracs()[6], fracOf(rat(greatest(), []int{1})), fracOf(rat([]int{1}, greatest())),
		{}, {Below: true, Bottom: []int{1}}, {Top: []int{2}, Bottom: []int{4}}, {Top: []int{0}, Bottom: []int{1}}, {Top: []int{1}, Bottom: []int{-1}},
	}
}

func roomyFrac(f impl.Frac) impl.Frac {
	return impl.Frac{Below: f.Below, Top: roomy(f.Top), Bottom: roomy(f.Bottom)}
}

// joined has its top, its bottom and spare room in one piece of memory, so that
// the bottom stands right behind the top's end.
func joined(f impl.Frac) impl.Frac {
	all := roomy(append(slices.Clone(f.Top), f.Bottom...))
	return impl.Frac{Below: f.Below, Top: all[:len(f.Top)], Bottom: all[len(f.Top):]}
}

func checkFracCall(t *testing.T, c fracCall, a, b impl.Frac) {
	t.Helper()
	said := c.name + " " + briefFrac(a) + " " + briefFrac(b)
	checkMemory(t, said, [][]int{a.Top, a.Bottom, b.Top, b.Bottom}, func() [][]int {
		f := c.run(a, b)
		return [][]int{f.Top, f.Bottom}
	})
}

func TestFracMemory(t *testing.T) {
	for _, c := range fracCalls() {
		for _, a := range memoryFracs() {
			for _, b := range memoryFracs() {
				checkFracCall(t, c, roomyFrac(a), roomyFrac(b))
			}
			checkFracCall(t, c, joined(a), joined(a))
			one := joined(a)
			checkFracCall(t, c, one, one)
		}
	}
}

// What stands behind the ends of an argument's lists does not matter.
func TestFracSpareRoomUnread(t *testing.T) {
	for _, c := range fracCalls() {
		for _, a := range memoryFracs() {
			for _, b := range memoryFracs()[:9] {
				x, y := c.run(roomyFrac(a), joined(b)), c.run(a, b)
				if !sameFrac(x, y) {
					t.Errorf("%s %s %s: the answer hangs on spare room", c.name, briefFrac(a), briefFrac(b))
				}
			}
		}
	}
}
