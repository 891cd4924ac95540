package tests

import (
	"slices"
	"testing"

	"loop.example/pinwhole/impl"
)

// mark stands in spare room, and is written over answers: no digit is like it.
const mark = -12345

// call is a function of two numbers as a function of its lists: what it
// answers, list by list.
type call struct {
	name string
	run  func(a, b []int) [][]int
}

func lists(a []int, ok bool) [][]int { return [][]int{a} }

func calls() []call {
	list := []call{
		{"NatOk", func(a, b []int) [][]int { impl.NatOk(a); return nil }},
		{"NatSmall", func(a, b []int) [][]int { impl.NatSmall(a); return nil }},
		{"NatCmp", func(a, b []int) [][]int { impl.NatCmp(a, b); return nil }},
		{"NatBits", func(a, b []int) [][]int { impl.NatBits(a); return nil }},
		{"NatText", func(a, b []int) [][]int { impl.NatText(a); return nil }},
		{"NatOf", func(a, b []int) [][]int { return [][]int{impl.NatOf(uint64(len(a)) << 20)} }},
		{"NatRead", func(a, b []int) [][]int { return lists(impl.NatRead(impl.NatText(a))) }},
		{"NatAdd", func(a, b []int) [][]int { return lists(impl.NatAdd(a, b)) }},
		{"NatSub", func(a, b []int) [][]int { return lists(impl.NatSub(a, b)) }},
		{"NatMul", func(a, b []int) [][]int { return lists(impl.NatMul(a, b)) }},
		{"NatGcd", func(a, b []int) [][]int { return lists(impl.NatGcd(a, b)) }},
		{"NatDiv", func(a, b []int) [][]int {
			quotient, rest, _ := impl.NatDiv(a, b)
			return [][]int{quotient, rest}
		}},
		{"NatRoot", func(a, b []int) [][]int {
			root, _, _ := impl.NatRoot(a)
			return [][]int{root}
		}},
	}
	for _, k := range []int{-4096, -17, -16, -1, 0, 1, 16, 17} {
		list = append(list, call{"NatShift", func(a, b []int) [][]int { return lists(impl.NatShift(a, k)) }})
	}
	for _, n := range []int{0, 1, 2, 5} {
		list = append(list, call{"NatPow", func(a, b []int) [][]int { return lists(impl.NatPow(a, n)) }})
	}
	return list
}

// roomy is a copy with spare room behind its end, all of it marked.
func roomy(a []int) []int {
	whole := make([]int, len(a)+600)
	for i := range whole {
		whole[i] = mark
	}
	return whole[:copy(whole, a)]
}

// whole is a list with its spare room.
func whole(a []int) []int { return a[:cap(a)] }

func overwrite(a []int) {
	for i := range whole(a) {
		whole(a)[i] = mark
	}
}

func copies(answer [][]int) [][]int {
	var out [][]int
	for _, a := range answer {
		out = append(out, slices.Clone(whole(a)))
	}
	return out
}

func memoryPairs() [][2][]int {
	list := [][2][]int{}
	some := [][]int{nil, {1}, {2}, {top}, {0, 1}, {top, top}, {5, 1}, mixed(9, 1), mixed(10, 2), mixed(128, 3), mixed(255, 4), greatest()}
	for _, a := range append(some, []int{0}, []int{-1, 1}) {
		for _, b := range append(some, []int{1, 0}, []int{1, -1}) {
			list = append(list, [2][]int{a, b})
		}
	}
	return list
}

func TestMemory(t *testing.T) {
	for _, c := range calls() {
		for _, p := range memoryPairs() {
			checkCall(t, c, roomy(p[0]), roomy(p[1]))
		}
	}
}

// The arguments may be one list, or overlap.
func TestMemoryOverlap(t *testing.T) {
	for _, c := range calls() {
		for _, size := range []int{0, 1, 2, 9, 128, 256} {
			a := roomy(repeated(3, size))
			for _, b := range [][]int{a, a[:size/2], a[size/2:], a[:min(1, size)]} {
				checkCall(t, c, a, b)
				checkCall(t, c, b, a)
			}
		}
	}
}

func checkCall(t *testing.T, c call, a, b []int) {
	t.Helper()
	said := c.name + " " + brief(a) + " " + brief(b)
	checkMemory(t, said, [][]int{a, b}, func() [][]int { return c.run(a, b) })
}

// checkMemory asks, of a run with the lists args as arguments, that nothing is
// written into them, and that no list of an answer shares memory with them,
// with another list of the answer, or with those of another run.
func checkMemory(t *testing.T, said string, args [][]int, run func() [][]int) {
	t.Helper()
	before := copies(args)
	kept := func() bool { return slices.EqualFunc(copies(args), before, slices.Equal) }
	answer := run()
	again := run()
	if !kept() {
		t.Fatalf("%s: an argument is changed", said)
	}
	then := copies(again)
	for i, list := range answer {
		others := copies(answer)
		overwrite(list)
		for j := range answer {
			if j != i && !slices.Equal(whole(answer[j]), others[j]) {
				t.Fatalf("%s: two lists share memory", said)
			}
		}
	}
	if !kept() {
		t.Fatalf("%s: the answer shares memory with an argument", said)
	}
	for i := range again {
		if !slices.Equal(whole(again[i]), then[i]) {
			t.Fatalf("%s: two answers share memory", said)
		}
	}
	for i, list := range run() {
		if !same(list, again[i]) {
			t.Fatalf("%s: something is kept between two calls", said)
		}
	}
}

// What stands behind an argument's end does not matter.
func TestSpareRoomUnread(t *testing.T) {
	for _, c := range calls() {
		for _, p := range memoryPairs() {
			x, y := c.run(roomy(p[0]), roomy(p[1])), c.run(slices.Clip(slices.Clone(p[0])), slices.Clip(slices.Clone(p[1])))
			for i := range x {
				if !same(x[i], y[i]) {
					t.Errorf("%s %s %s: the answer hangs on spare room", c.name, brief(p[0]), brief(p[1]))
				}
			}
		}
	}
}
