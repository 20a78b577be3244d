// Package chars: texts as characters in UTF-8.
package chars

import (
	"strings"
	"unicode/utf8"
)

// Count tells how many characters a text has, and whether it is all characters.
func Count(text string) (int, bool) {
	n := 0
	for at, r := range text {
		if r == utf8.RuneError && !strings.HasPrefix(text[at:], string(utf8.RuneError)) {
			// Bytes that are no character look like U+FFFD to range, which is one itself.
			return 0, false
		}
		n++
	}
	return n, true
}

// Cut parts a text behind its first n characters, or behind all if it has fewer.
func Cut(text string, n int) (string, string) {
	for at := range text {
		if n <= 0 {
			return text[:at], text[at:]
		}
		n--
	}
	return text, ""
}
