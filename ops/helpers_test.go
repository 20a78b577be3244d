package ops

import (
	"fmt"
	"slices"

	"quill/api"
)

func keep(n int) api.Part { return api.Part{Kind: api.Keep, N: n} }

func gone(n int) api.Part { return api.Part{Kind: api.Delete, N: n} }

func put(s string) api.Part { return api.Part{Kind: api.Insert, Text: s} }

func op(l ...api.Part) []api.Part { return l }

func times(n int, l ...api.Part) []api.Part { return slices.Repeat(l, n) }

// shown cuts what is long, since a Text may be of a million characters.
func shown(l []api.Part) string { return fmt.Sprintf("%.120s", fmt.Sprint(l)) }

// badTexts: each has bytes that are no character.
func badTexts() []string {
	return []string{"\xff", "\x80", "\xc3", "a\xc3", "\xc3a", "\xe4\xb8", "\xf0\x9f\x90", "\xef\xbf", "\ufffd\xff", "\xc0\x80", "\xed\xa0\x80", "\xf4\x90\x80\x80", "世\xe4"}
}

// goodTexts: all of them characters, of one to four bytes, the first and the last of each length among them.
func goodTexts() []string {
	return []string{"a", "\x00", "\x7f", "\u0080", "\u07ff", "\u0800", "\ud7ff", "\ue000", "\ufffd", "\uffff", "\U00010000", "\U0010ffff", "aé世🐚"}
}
