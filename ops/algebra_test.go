package ops

import (
	"slices"
	"testing"

	"quill/api"
)

// said is what an operation says of each character of a text, and of each gap by its normal form.
type said struct {
	goes []bool
	puts []string
}

func say(l []api.Part, n int) said {
	s, at := said{make([]bool, n), make([]string, n+1)}, 0
	for _, p := range l {
		s.puts[at] += p.Text
		for range p.N {
			s.goes[at] = p.Kind == api.Delete
			at++
		}
	}
	for g := n; g > 0; g-- {
		if s.goes[g-1] {
			s.puts[g-1] += s.puts[g]
			s.puts[g] = ""
		}
	}
	return s
}

// together is what both together leave of a text.
func together(a, b said, text []rune) string {
	left := a.puts[0] + b.puts[0]
	for i, r := range text {
		if !a.goes[i] && !b.goes[i] {
			left += string(r)
		}
		left += a.puts[i+1] + b.puts[i+1]
	}
	return left
}

// allShort gives all operations of up to three parts of these.
func allShort(some ...api.Part) [][]api.Part {
	all := [][]api.Part{nil}
	for from := 0; len(all[from]) < 3; from++ {
		for _, p := range some {
			all = append(all, append(slices.Clone(all[from]), p))
		}
	}
	return all
}

// The text and what two operations put in have no character in common, so that what is left of
// a text tells which operation in normal form it was.
var (
	letters = []rune("aé世🐚bñ界🐙c")
	ones    = allShort(keep(1), keep(2), gone(1), gone(2), put("X"), put("Ωж"))
	others  = allShort(keep(1), keep(2), gone(1), gone(2), put("Y"), put("Λ🐌"))
)

func TestComposeAllShort(t *testing.T) {
	for _, a := range ones {
		for n := reach(a); n <= 6; n++ {
			left := leaves(letters[:n], a)
			for _, b := range others {
				l, e := Compose(a, b, n)
				if reach(b) > len([]rune(left)) {
					if l != nil || e != api.ErrLength {
						t.Fatalf("P4: Compose(%v, %v, %d) = %v, %d", a, b, n, l, e)
					}
					continue
				}
				if e != api.OK || !isNormal(l) || leaves(letters[:n], l) != leaves([]rune(left), b) {
					t.Fatalf("P4: Compose(%v, %v, %d) = %v, %d", a, b, n, l, e)
				}
			}
		}
	}
}

func TestTransformAllShort(t *testing.T) {
	for _, a := range ones {
		for _, b := range others {
			for n := max(reach(a), reach(b)); n <= 6; n++ {
				text := letters[:n]
				first, second, e := Transform(a, b, n)
				if e != api.OK || !isNormal(first) || !isNormal(second) {
					t.Fatalf("P5: Transform(%v, %v, %d) = %v, %v, %d", a, b, n, first, second, e)
				}
				want := together(say(a, n), say(b, n), text)
				if leaves([]rune(leaves(text, b)), first) != want || leaves([]rune(leaves(text, a)), second) != want {
					t.Fatalf("P5: Transform(%v, %v, %d) = %v, %v; both together leave %q", a, b, n, first, second, want)
				}
			}
		}
	}
}

// TestInvertAllShort does what Invert gives to other characters, and as many: those that stood in
// both texts stay, so that it is to be seen which these are.
func TestInvertAllShort(t *testing.T) {
	for _, in := range ones {
		for n := reach(in); n <= 6; n++ {
			l, e := Invert(in, string(letters[:n]))
			if e != api.OK || !isNormal(l) {
				t.Fatalf("P6: Invert(%v, %q) = %v, %d", in, string(letters[:n]), l, e)
			}
			masked := []rune(leaves(letters[:n], in))
			want := slices.Clone(letters[:n])
			for i, r := range masked {
				masked[i] = rune('0' + i)
				if at := slices.Index(want, r); at >= 0 {
					want[at] = masked[i]
				}
			}
			if got := leaves(masked, l); got != string(want) {
				t.Fatalf("P6: Invert(%v, %q) = %v: makes %q of %q, not %q", in, string(letters[:n]), l, got, string(masked), string(want))
			}
		}
	}
}
