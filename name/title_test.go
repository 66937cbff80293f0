package name_test

import (
	"strings"
	"testing"
	"unicode"
	"unicode/utf8"

	"entrepot/api"
	"entrepot/name"
)

// titleFault is the fault that the chapter asks for.
func titleFault(s string) api.Fault {
	runes := 0
	for at := 0; at < len(s); {
		r, n := utf8.DecodeRuneInString(s[at:])
		runes++
		if runes == 65 {
			return tooLong(at)
		}
		if r == utf8.RuneError && n == 1 || !unicode.IsPrint(r) {
			return badName(at)
		}
		at += n
	}
	return api.Fault{}
}

func checkTitle(t *testing.T, s string, want api.Fault) {
	t.Helper()
	if got := name.Title(s); got != want {
		t.Errorf("Title(%q) = %v, not %v", s, got, want)
	}
}

// P3.2: Title.
func TestTitle(t *testing.T) {
	cases := []struct {
		s    string
		want api.Fault
	}{
		{"L\u00E4den 7", api.Fault{}},
		{"", api.Fault{}},
		{"a\n", badName(1)},
		{"\u00E4\xFF", badName(2)},
		{strings.Repeat("\u00E4", 65), tooLong(128)},
		{strings.Repeat("\u00E4", 64), api.Fault{}},
		{" ", api.Fault{}},
		{"  a  ", api.Fault{}},
		{"\uFFFD", api.Fault{}},
		{"\uFFFD\xFF", badName(3)},
		{"\xFF\uFFFD", badName(0)},
		{"e\u0301", api.Fault{}},
		{"\u65E5\u672C \U0001F600", api.Fault{}},
		{"\t", badName(0)},
		{"a\x00b", badName(1)},
		{"a\x7F", badName(1)},
		{"a\u00A0b", badName(1)},
		{"a\u00ADb", badName(1)},
		{"a\u2028b", badName(1)},
		{"a\u200Bb", badName(1)},
		{"\uFEFFa", badName(0)},
		{"a\uE000", badName(1)},
		{"\u00E4\uFFFF", badName(2)},
		{"\U0010FFFF", badName(0)},
	}
	for _, c := range cases {
		checkTitle(t, c.s, c.want)
	}
}

// P3.2: each rune that there is.
func TestEachRuneOfTitles(t *testing.T) {
	for r := rune(0); r <= unicode.MaxRune; r++ {
		if !utf8.ValidRune(r) {
			continue
		}
		want := badName(1)
		if r == ' ' || unicode.In(r, unicode.L, unicode.M, unicode.N, unicode.P, unicode.S) {
			want = api.Fault{}
		}
		if got := name.Title("a" + string(r)); got != want {
			t.Errorf("Title(a%q) = %v, not %v", r, got, want)
		}
	}
}

// broken is bytes of which each one is not part of a character.
var broken = []string{"\x80", "\xBF", "\xC0", "\xC3", "\xFE", "\xFF", "\xC0\x80", "\xC1\xA1", "\xE2\x82", "\xE0\x80\x80", "\xED\xA0\x80", "\xF0\x9F\x98", "\xF0\x80\x80\x80", "\xF4\x90\x80\x80", "\xEF\xBF", "\xEF", "\xBF\xBD"}

// P3.2: bytes that are not part of a character, at each kind of place.
func TestBrokenTitles(t *testing.T) {
	for _, b := range broken {
		for _, before := range []string{"", "a", "\u00E4", "\uFFFD", "\U0001F600 "} {
			for _, behind := range []string{"", "a", "\uFFFD", "\u00E4"} {
				checkTitle(t, before+b+behind, badName(len(before)))
			}
		}
	}
}

// P3.2: titles of every length about the limit, of runes of every size.
func TestLongTitles(t *testing.T) {
	for _, r := range []string{"a", " ", "\u00E4", "\u65E5", "\uFFFD", "\U0001F600", "a\u00E4", "\U0001F600\u65E5a"} {
		for n := range 150 {
			s := strings.Repeat(r, n)
			checkTitle(t, s, titleFault(s))
		}
		long := strings.Repeat(r, 1<<16)
		checkTitle(t, long, titleFault(long))
	}
}

// P3.2: the first fault counts, and of the 65th rune that it is too long, whatever it is.
func TestFirstFaultOfTitles(t *testing.T) {
	wrong := append([]string{"\n", "\u00A0", "\u2028", "\U0010FFFF"}, broken...)
	for _, good := range []string{"a", "\u00E4", "\U0001F600"} {
		for _, bad := range wrong {
			for before := 60; before <= 66; before++ {
				for _, behind := range []int{0, 1, 2, 10} {
					want := badName(before * len(good))
					if before >= 64 {
						want = tooLong(64 * len(good))
					}
					checkTitle(t, strings.Repeat(good, before)+bad+strings.Repeat(good, behind), want)
				}
			}
			checkTitle(t, good+bad+strings.Repeat("a", 100), badName(len(good)))
			checkTitle(t, strings.Repeat("a", 64)+strings.Repeat(bad, 3), tooLong(64))
		}
	}
}
