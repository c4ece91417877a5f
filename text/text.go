// Package text is layer 1: texts, rune by rune: see shared/doc/01-text.md.
package text

import (
	"strings"
	"unicode/utf8"

	"lantern/api"
)

// replacement is U+FFFD as it is written in UTF-8. Going through a text gives
// this rune for a byte that can't be read, too: only its bytes tell them apart.
const replacement = "\uFFFD"

// Check tells why a text may not be.
func Check(s string) api.Errno {
	for i, r := range s {
		if r == utf8.RuneError && !strings.HasPrefix(s[i:], replacement) {
			return api.ErrText
		}
	}
	return api.OK
}

// Xml tells why a text may not stand in XML.
func Xml(s string) api.Errno {
	// All of it is checked ahead: ErrText is named first, wherever the fault lies.
	if e := Check(s); e != api.OK {
		return e
	}
	for _, r := range s {
		if !standsInXml(r) {
			return api.ErrArg
		}
	}
	return api.OK
}

// Count is how many runes there are.
func Count(s string) int {
	if Check(s) != api.OK {
		return 0
	}
	n := 0
	for range s {
		n++
	}
	return n
}

// Head is the first runes.
func Head(s string, n int) string {
	if n < 1 || Check(s) != api.OK {
		return ""
	}
	for i := range s {
		if n == 0 {
			return strings.Clone(s[:i])
		}
		n--
	}
	return strings.Clone(s)
}

// Lower is letters of ASCII turned.
func Lower(s string) string {
	b := []byte(s)
	for i, c := range b {
		if 'A' <= c && c <= 'Z' {
			b[i] = c - 'A' + 'a'
		}
	}
	return string(b)
}

// Trim is a text without white at its ends.
func Trim(s string) string {
	return strings.Clone(strings.TrimFunc(s, isWhite))
}

// Words is what stands between white.
func Words(s string) []string {
	var words []string
	begin := 0
	for i, r := range s {
		if isWhite(r) {
			words = appendWord(words, s[begin:i])
			begin = i + 1 // each white is one byte long
		}
	}
	return appendWord(words, s[begin:])
}

// Squeeze is words, one blank between.
func Squeeze(s string) string {
	return strings.Join(Words(s), " ")
}

// appendWord copies the word, so that the answer doesn't hold on to the text it was cut from.
func appendWord(words []string, word string) []string {
	if word == "" {
		return words
	}
	return append(words, strings.Clone(word))
}

func isWhite(r rune) bool {
	switch r {
	case ' ', '\t', '\n', '\r':
		return true
	}
	return false
}

func standsInXml(r rune) bool {
	switch {
	case r == '\t', r == '\n', r == '\r':
		return true
	case 0x20 <= r && r <= 0xD7FF:
		return true
	case 0xE000 <= r && r <= 0xFFFD:
		return true
	}
	return 0x10000 <= r && r <= 0x10FFFF
}
