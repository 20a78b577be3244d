package chars

import (
	"strings"
	"testing"
)

func TestCount(t *testing.T) {
	for _, k := range []struct {
		text string
		n    int
		ok   bool
	}{
		{"", 0, true},
		{"abc", 3, true},
		{"\x00\x7f", 2, true},
		{"\u0080\u07ff", 2, true},
		{"\u0800\ud7ff\ue000\uffff", 4, true},
		{"\U00010000\U0010ffff", 2, true},
		{"aé世🐚", 4, true},
		{"e\u0301", 2, true}, // a letter and an accent of its own are two
		{"\ufffd", 1, true},
		{"\ufffd\ufffda", 3, true},
		{strings.Repeat("世", 1000), 1000, true},
		{"\xff", 0, false},
		{"\x80", 0, false},
		{"a\xc3", 0, false},
		{"\xc3a", 0, false},
		{"\xe4\xb8", 0, false},
		{"\xf0\x9f\x90", 0, false},
		{"\xef\xbf", 0, false},
		{"\ufffd\xff", 0, false},
		{"\xff\ufffd", 0, false},
		{"\xc0\x80", 0, false},         // U+0000 at greater length
		{"\xe0\x80\x80", 0, false},     // likewise
		{"\xed\xa0\x80", 0, false},     // half of a pair
		{"\xed\xbf\xbf", 0, false},     // likewise
		{"\xf4\x90\x80\x80", 0, false}, // behind the last one
		{"\xf8\x88\x80\x80\x80", 0, false},
	} {
		if n, ok := Count(k.text); n != k.n || ok != k.ok {
			t.Errorf("Count(%q) = %d, %v, want %d, %v", k.text, n, ok, k.n, k.ok)
		}
	}
}

func TestCut(t *testing.T) {
	for _, k := range []struct {
		text       string
		n          int
		head, rest string
	}{
		{"", 0, "", ""},
		{"", 1, "", ""},
		{"aé世🐚b", 0, "", "aé世🐚b"},
		{"aé世🐚b", 1, "a", "é世🐚b"},
		{"aé世🐚b", 2, "aé", "世🐚b"},
		{"aé世🐚b", 3, "aé世", "🐚b"},
		{"aé世🐚b", 4, "aé世🐚", "b"},
		{"aé世🐚b", 5, "aé世🐚b", ""},
		{"aé世🐚b", 6, "aé世🐚b", ""},
		{"é", -1, "", "é"},
		{"\ufffd\ufffd", 1, "\ufffd", "\ufffd"},
	} {
		if head, rest := Cut(k.text, k.n); head != k.head || rest != k.rest {
			t.Errorf("Cut(%q, %d) = %q, %q, want %q, %q", k.text, k.n, head, rest, k.head, k.rest)
		}
	}
}
