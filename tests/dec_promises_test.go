package tests

import (
	"strings"
	"testing"

	"loop.example/pinwhole/impl"
)

// Promise 13: a literal with a further nought behind its point has the same
// value.
func TestPromise13Noughts(t *testing.T) {
	count := 0
	for _, s := range literals() {
		digits, power, powered := strings.Cut(s, "e")
		if !strings.Contains(digits, ".") {
			continue
		}
		value := there(t)(impl.DecFrac(s))
		for more := digits + "0"; ; more += "0" {
			longer := more
			if powered {
				longer += "e" + power
			}
			if len(longer) > impl.DecMaxText {
				break
			}
			count++
			if got := there(t)(impl.DecFrac(longer)); !sameFrac(got, value) {
				t.Errorf("%s: %s, %s: %s", s, briefFrac(value), longer, briefFrac(got))
			}
		}
	}
	if count < 500 {
		t.Error("too few literals have been asked", count)
	}
}

// Promise 13: with a power of 1 in place of none it has ten times the value.
func TestPromise13Power(t *testing.T) {
	for _, s := range literals() {
		if strings.Contains(s, "e") || len(s)+2 > impl.DecMaxText {
			continue
		}
		value := there(t)(impl.DecFrac(s))
		ten := there(t)(impl.FracMul(value, impl.FracInt(10)))
		if got := there(t)(impl.DecFrac(s + "e1")); !sameFrac(got, ten) {
			t.Errorf("%s: %s, with e1 %s", s, briefFrac(value), briefFrac(got))
		}
		if got := there(t)(impl.DecFrac(s + "e0")); !sameFrac(got, value) {
			t.Errorf("%s: %s, with e0 %s", s, briefFrac(value), briefFrac(got))
		}
	}
}

// Promise 13: DecText tells the value again, where there is one.
func TestPromise13Again(t *testing.T) {
	for _, s := range literals() {
		value := there(t)(impl.DecFrac(s))
		told, ok := impl.DecText(value)
		plain := !strings.Contains(s, "e")
		if plain && (!ok || len(told) > len(s)) {
			t.Errorf("%s: DecText tells %q %v", s, told, ok)
		}
		if !ok {
			continue
		}
		if again := there(t)(impl.DecFrac(told)); !sameFrac(again, value) || strings.Contains(told, "e") || !impl.DecOk(told) {
			t.Errorf("%s: DecText tells %q, that is %s", s, told, briefFrac(again))
		}
		if strings.Contains(told, ".") && strings.HasSuffix(told, "0") {
			t.Errorf("%s: DecText tells %q, with needless noughts", s, told)
		}
	}
}

// Promise 13 from the side of fractions.
func TestPromise13FromFracs(t *testing.T) {
	for _, f := range fracs() {
		told, ok := impl.DecText(f)
		if !ok {
			continue
		}
		if again := there(t)(impl.DecFrac(told)); !sameFrac(again, f) {
			t.Errorf("%s: DecText tells %q", briefFrac(f), told)
		}
	}
}
