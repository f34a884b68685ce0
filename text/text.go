// Package text: names, and texts cut between letters (doc/01-text.md).
package text

import (
	"strings"
	"unicode/utf8"

	"pleach/api"
)

// none stands for a byte that begins no letter.
const none = -1

// letter tells the number of r, which range met at the front of s.
// For a byte that begins no letter range says U+FFFD, as it does for the letter U+FFFD itself: only the bytes tell which it is.
func letter(s string, r rune) int {
	if r == utf8.RuneError && !strings.HasPrefix(s, "\uFFFD") {
		return none
	}
	return int(r)
}

// Letters tells the numbers of the letters of s, -1 for each byte that begins none.
func Letters(s string) []int {
	var l []int
	for i, r := range s {
		l = append(l, letter(s[i:], r))
	}
	return l
}

// Count tells how many letters, and bytes that begin none, s has.
func Count(s string) int {
	n := 0
	for range s {
		n++
	}
	return n
}

// Cut tells the longest front of s of at most n bytes that cuts no letter.
func Cut(s string, n int) string {
	if len(s) <= n {
		return s
	}
	end := 0
	for i := range s {
		if i > n {
			break
		}
		end = i
	}
	return s[:end]
}

// Name tells whether s may be a name.
func Name(s string) bool {
	n := 0
	for i, r := range s {
		c := letter(s[i:], r)
		if c < 33 || 127 <= c && c <= 159 {
			return false
		}
		n++
	}
	return 1 <= n && n <= api.MaxName
}

// Show tells s in letters from 32 to 126 alone.
func Show(s string) string {
	var b strings.Builder
	for i, r := range s {
		switch c := letter(s[i:], r); {
		case c == none:
			b.WriteString("\\x" + digits(int(s[i]), 2))
		case c == '"' || c == '\\':
			b.WriteString("\\" + string(r))
		case 32 <= c && c <= 126:
			b.WriteRune(r)
		case c > 65535:
			b.WriteString("\\U" + digits(c, 8))
		default:
			b.WriteString("\\u" + digits(c, 4))
		}
	}
	return b.String()
}

// digits tells the lowest n digits of v, sixteen to a place.
func digits(v, n int) string {
	const all = "0123456789abcdef"
	s := ""
	for range n {
		s = all[v%16:v%16+1] + s
		v /= 16
	}
	return s
}
