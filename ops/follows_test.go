package ops

import (
	"math/rand"
	"slices"
	"strings"
	"testing"

	"quill/api"
)

// drawer draws texts and operations, the same ones each time.
type drawer struct{ *rand.Rand }

func (d drawer) text(n int) string {
	var s strings.Builder
	for range n {
		s.WriteString([]string{"a", "é", "世", "🐚"}[d.Intn(4)])
	}
	return s.String()
}

func (d drawer) op(n int) []api.Part {
	var l []api.Part
	for range d.Intn(api.MaxParts + 1) {
		k := 1 + d.Intn(3)
		switch kind := 1 + d.Intn(3); {
		case kind == api.Insert:
			l = append(l, put(d.text(k)))
		case k <= n:
			l, n = append(l, api.Part{Kind: kind, N: k}), n-k
		}
	}
	return l
}

func length(s string) int { return len([]rune(s)) }

// TestWhatFollows: P13, by the calls alone, at drawn operations of up to MaxParts parts. (The texts
// are short enough that no answer has more, which could not be handed in again.)
func TestWhatFollows(t *testing.T) {
	d := drawer{rand.New(rand.NewSource(1))}
	for range 5000 {
		text := d.text(d.Intn(40))
		n := length(text)
		a, b := d.op(n), d.op(n)
		byA, byB := applied(t, text, a), applied(t, text, b)

		behind := d.op(length(byA))
		whole := composed(t, a, behind, n)
		staysAsItIs(t, whole, n)
		if got, want := applied(t, text, whole), applied(t, byA, behind); got != want {
			t.Fatalf("P13: Apply(%q, Compose(%v, %v, %d)) = %q, want %q", text, a, behind, n, got, want)
		}

		first, second, e := Transform(a, b, n)
		if e != api.OK {
			t.Fatalf("P5: Transform(%v, %v, %d): %d", a, b, n, e)
		}
		staysAsItIs(t, first, length(byB))
		staysAsItIs(t, second, length(byA))
		if x, y := composed(t, a, second, n), composed(t, b, first, n); !slices.Equal(x, y) {
			t.Fatalf("P13: of %v, %v, %d: Compose of a and b' = %v, of b and a' = %v", a, b, n, x, y)
		}

		back, e := Invert(a, text)
		if e != api.OK || applied(t, byA, back) != text {
			t.Fatalf("P13: Invert(%v, %q) = %v, %d", a, text, back, e)
		}
		staysAsItIs(t, back, length(byA))
	}
}

func applied(t *testing.T, text string, l []api.Part) string {
	s, e := Apply(text, l)
	if e != api.OK {
		t.Fatalf("P3: Apply(%q, %v) = %q, %d", text, l, s, e)
	}
	return s
}

func composed(t *testing.T, a, b []api.Part, n int) []api.Part {
	l, e := Compose(a, b, n)
	if e != api.OK {
		t.Fatalf("P4: Compose(%v, %v, %d) = %v, %d", a, b, n, l, e)
	}
	return l
}

func staysAsItIs(t *testing.T, l []api.Part, n int) {
	if normal, e := Normal(l, n); e != api.OK || !slices.Equal(normal, l) {
		t.Fatalf("P13: Normal(%v, %d) = %v, %d", l, n, normal, e)
	}
}

// TestTransformsMeet: Compose of a and b' is Compose of b and a', at all short operations.
func TestTransformsMeet(t *testing.T) {
	for _, a := range ones {
		for _, b := range others {
			n := max(reach(a), reach(b))
			first, second, _ := Transform(a, b, n)
			if x, y := composed(t, a, second, n), composed(t, b, first, n); !slices.Equal(x, y) {
				t.Fatalf("P13: of %v, %v, %d: Compose of a and b' = %v, of b and a' = %v", a, b, n, x, y)
			}
		}
	}
}
