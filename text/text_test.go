package text

import (
	"slices"
	"strings"
	"testing"
	"unicode/utf8"
)

// odd has ordinary texts, and ones that are no UTF-8: bytes that go on with nothing, that end too soon, letters too long, surrogates, numbers too great.
var odd = []string{"", "a", "root", "né", "\x00", "\x7f", "\x80", "\xff", "\xc3", "a\xc3", "\xc3\xa9", "\xc3\x28", "\xe2\x82", "\xe2\x82\xac", "\xe2\x82a", "\ufffd", "\xef\xbf", "\xef\xbf\xbd\xef", "\xf0\x9f\x98", "\U0001f600!", "\xed\xa0\x80", "\xc0\x80", "\xf4\x90\x80\x80", "\U0010ffff", "\x80z\x80"}

// model reads s by the library's own decoder: numbers, and where each ends.
func model(s string) (l, ends []int) {
	for at := 0; at < len(s); {
		r, n := utf8.DecodeRuneInString(s[at:])
		c := int(r)
		if r == utf8.RuneError && n == 1 {
			c = -1
		}
		at += n
		l, ends = append(l, c), append(ends, at)
	}
	return l, ends
}

func all() []string {
	var l []string
	for _, a := range odd {
		for _, b := range odd {
			l = append(l, a+b)
		}
	}
	return l
}

func TestLettersAndCountAndCut(t *testing.T) {
	for _, s := range all() {
		want, ends := model(s)
		if got := Letters(s); !slices.Equal(got, want) {
			t.Errorf("Letters of %x: %v, not %v", s, got, want)
		}
		if got := Count(s); got != len(want) {
			t.Errorf("Count of %x: %d", s, got)
		}
		for n := -2; n < len(s)+3; n++ {
			end := 0
			for _, e := range ends {
				if e <= n {
					end = e
				}
			}
			if got := Cut(s, n); got != s[:end] {
				t.Errorf("Cut of %x at %d: %x", s, n, got)
			}
		}
	}
	if Cut("abc", -1<<63) != "" || Cut("abc", 1<<63-1) != "abc" {
		t.Error("Cut at the ends of int")
	}
}

func TestLettersByHand(t *testing.T) {
	if got := Letters("né\xff\ufffd"); !slices.Equal(got, []int{110, 233, -1, 0xfffd}) {
		t.Error(got)
	}
	if Count("né") != 2 || Letters("") != nil {
		t.Error("né, or nothing")
	}
}

func TestName(t *testing.T) {
	for _, s := range []string{"a", "!", "~", "root", "12345678", "éééééééé", "\u00a0", "\ufffd", "\U0010ffff"} {
		if !Name(s) {
			t.Errorf("%q is one", s)
		}
	}
	for _, s := range []string{"", " ", "a b", "123456789", "ééééééééé", "\x00", "\x1f", "\x7f", "\u0080", "\u009f", "\xff", "a\xff", "\xffa"} {
		if Name(s) {
			t.Errorf("%q is none", s)
		}
	}
	for c := rune(0); c < 300; c++ {
		if want := c >= 33 && (c < 127 || c > 159); Name(string(c)) != want {
			t.Errorf("letter %d: %v", c, !want)
		}
	}
}

func TestShow(t *testing.T) {
	for s, want := range map[string]string{
		"": "", "aZ ~": "aZ ~", "\"\\": "\\\"\\\\", "\n\x1f": "\\u000a\\u001f", "\x7f": "\\u007f", "é": "\\u00e9",
		"\uffff": "\\uffff", "\U00010000": "\\U00010000", "\U0010ffff": "\\U0010ffff", "\xff\x80a": "\\xff\\x80a", "\ufffd": "\\ufffd", "\xc3(": "\\xc3(",
		"\u0123\u4567\u89ab\ucdef": "\\u0123\\u4567\\u89ab\\ucdef",
	} {
		if got := Show(s); got != want {
			t.Errorf("%x: %s", s, got)
		}
	}
}

func TestShownAlikeIsAlike(t *testing.T) {
	from := map[string]string{}
	for _, s := range append(all(), "\\xff", "\\u00e9", "\\\"") {
		got := Show(s)
		if strings.ContainsFunc(got, func(r rune) bool { return r < 32 || r > 126 }) {
			t.Errorf("%x shown as %q", s, got)
		}
		if was, ok := from[got]; ok && was != s {
			t.Errorf("%x and %x are shown alike", was, s)
		}
		from[got] = s
	}
}
