package ops

import (
	"slices"
	"testing"

	"quill/api"
)

// TestAllShort holds Normal and Apply, at all operations of up to five parts of these, against
// what the document says of them: text and Texts have no character in common, so that what is
// left tells the operation.
func TestAllShort(t *testing.T) {
	some := op(keep(1), keep(2), gone(1), gone(2), put("X"), put("Ωж"))
	var all func(l []api.Part)
	all = func(l []api.Part) {
		holdAgainst(t, l)
		if len(l) < 5 {
			for _, p := range some {
				all(append(slices.Clone(l), p))
			}
		}
	}
	all(nil)
}

func holdAgainst(t *testing.T, l []api.Part) {
	characters := []rune("aé世🐚bñ界🐙cü🐌")
	least := 0
	for _, p := range l {
		least += p.N
	}
	for n := range characters {
		text := string(characters[:n])
		normal, e := Normal(l, n)
		left, f := Apply(text, l)
		if n < least {
			if normal != nil || e != api.ErrLength || left != "" || f != api.ErrLength {
				t.Errorf("P2, P3: %v on %q: Normal = %v, %d; Apply = %q, %d", l, text, normal, e, left, f)
			}
			continue
		}
		want := leaves(characters[:n], l)
		if e != api.OK || !isNormal(normal) || leaves(characters[:n], normal) != want {
			t.Errorf("P2: Normal(%v, %d) = %v, %d", l, n, normal, e)
		}
		if f != api.OK || left != want {
			t.Errorf("P3: Apply(%q, %v) = %q, %d, want %q", text, l, left, f, want)
		}
		if again, e := Normal(normal, n); e != api.OK || !slices.Equal(again, normal) {
			t.Errorf("P2: Normal(%v, %d) = %v, %d", normal, n, again, e)
		}
	}
}

func leaves(text []rune, l []api.Part) string {
	left := ""
	for _, p := range l {
		if p.Kind == api.Keep {
			left += string(text[:p.N])
		}
		left += p.Text
		text = text[p.N:]
	}
	return left + string(text)
}

func isNormal(l []api.Part) bool {
	for i, p := range l {
		if p.Kind == api.Insert && (p.N != 0 || p.Text == "") || p.Kind != api.Insert && (p.N < 1 || p.Text != "") {
			return false
		}
		if i > 0 && (l[i-1].Kind == p.Kind || l[i-1].Kind == api.Delete && p.Kind == api.Insert) {
			return false
		}
	}
	return len(l) == 0 || l[len(l)-1].Kind != api.Keep
}
