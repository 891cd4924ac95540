package tests

import (
	"testing"

	"loop.example/pinwhole/impl"
)

func TestWrongLiterals(t *testing.T) {
	for _, s := range wrongLiterals() {
		if impl.DecOk(s) {
			t.Errorf("DecOk %q", s)
		}
		got, ok := impl.DecFrac(s)
		noFrac(t, got, ok, "DecFrac "+s)
	}
}

// Each byte, put into a literal or in place of one of its bytes, wherever it
// stands.
func TestLiteralBytes(t *testing.T) {
	for _, text := range []string{"7", "0", "12", "3.25", "0.5", "9e4", "8e-12", "10.01e-300", "6.0e400"} {
		for c := range 256 {
			other := string([]byte{byte(c)})
			for place := range len(text) + 1 {
				checkLiteral(t, text[:place]+other+text[place:])
				if place < len(text) {
					checkLiteral(t, text[:place]+other+text[place+1:])
				}
			}
		}
	}
}

// DecText of what is not ok.
func TestPlainTextWrong(t *testing.T) {
	for _, f := range notFracs() {
		if s, ok := impl.DecText(f); s != "" || ok {
			t.Errorf("DecText %s: %q %v", briefFrac(f), s, ok)
		}
	}
}
