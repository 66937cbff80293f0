package name_test

import (
	"regexp"
	"strings"
	"testing"
	"unicode/utf8"

	"entrepot/api"
	"entrepot/name"
)

// kind is a kind of names, as the chapter defines it.
type kind struct {
	what string
	call func(string) api.Fault
	most int
	is   func(string) bool
	// Each beginning of a name, of any length, is one with one of these behind it.
	endings []string
}

var (
	part     = regexp.MustCompile(`^[a-z0-9]+((\.|__?|-+)[a-z0-9]+)*$`)
	tag      = regexp.MustCompile(`^[a-zA-Z0-9_][a-zA-Z0-9_.-]*$`)
	platform = regexp.MustCompile(`^[a-z0-9]+/[a-z0-9]+$`)
)

var (
	repos     = kind{"Repo", name.Repo, 128, isRepo, []string{"", "a"}}
	tags      = kind{"Tag", name.Tag, 64, tag.MatchString, []string{"", "a"}}
	platforms = kind{"Platform", name.Platform, 64, platform.MatchString, []string{"", "a", "/a", "a/a"}}
	kinds     = []kind{repos, tags, platforms}
)

func isRepo(s string) bool {
	parts := strings.Split(s, "/")
	for _, p := range parts {
		if !part.MatchString(p) {
			return false
		}
	}
	return len(parts) <= 8
}

// want is the fault that the chapter asks for.
func (k kind) want(s string) api.Fault {
	if len(s) > k.most {
		return api.Fault{Err: api.ErrLong, At: k.most}
	}
	for at := 0; at < len(s); {
		_, n := utf8.DecodeRuneInString(s[at:])
		if !k.begins(s[:at+n]) {
			return badName(at)
		}
		at += n
	}
	if !k.is(s) {
		return badName(len(s))
	}
	return api.Fault{}
}

func (k kind) begins(s string) bool {
	for _, e := range k.endings {
		if k.is(s + e) {
			return true
		}
	}
	return false
}

func (k kind) check(t *testing.T, s string, want api.Fault) {
	t.Helper()
	if got := k.call(s); got != want {
		t.Errorf("%s(%q) = %v, not %v", k.what, s, got, want)
	}
}

func badName(at int) api.Fault {
	return api.Fault{Err: api.ErrName, At: at}
}

func tooLong(at int) api.Fault {
	return api.Fault{Err: api.ErrLong, At: at}
}

// allOf calls a function with all strings of up to n of these pieces.
func allOf(pieces []string, n int, f func(string)) {
	var grow func(s string, n int)
	grow = func(s string, n int) {
		f(s)
		if n == 0 {
			return
		}
		for _, p := range pieces {
			grow(s+p, n-1)
		}
	}
	grow("", n)
}

// P3.1: Repo, by its examples and by what a part consists of.
func TestRepo(t *testing.T) {
	cases := []struct {
		s    string
		want api.Fault
	}{
		{"library/go_1.2--x", api.Fault{}},
		{"a__b", api.Fault{}},
		{"a___b", badName(3)},
		{"a/", badName(2)},
		{"", badName(0)},
		{"Ab", badName(0)},
		{"a..b", badName(2)},
		{"a-", badName(2)},
		{"1/2/3/4/5/6/7/8", api.Fault{}},
		{"1/2/3/4/5/6/7/8/9", badName(15)},
		{"1/2/3/4/5/6/7/8/", badName(15)},
		{strings.Repeat("a", 129), tooLong(128)},
		{"a", api.Fault{}},
		{"z0.9a_y__b-c--d---e/0/z", api.Fault{}},
		{"a" + strings.Repeat("-", 100) + "b", api.Fault{}},
		{"/a", badName(0)},
		{"a//b", badName(2)},
		{"a./b", badName(2)},
		{"a_/b", badName(2)},
		{"a__/b", badName(3)},
		{"a-/b", badName(2)},
		{"a/.b", badName(2)},
		{"a/_b", badName(2)},
		{"a/-b", badName(2)},
		{"a_.b", badName(2)},
		{"a._b", badName(2)},
		{"a-_b", badName(2)},
		{"a_-b", badName(2)},
		{"a-.b", badName(2)},
		{"a--.b", badName(3)},
		{"a.", badName(2)},
		{"a_", badName(2)},
		{"a__", badName(3)},
		{"aB", badName(1)},
		{"a b", badName(1)},
		{"a:b", badName(1)},
		{"a\x00", badName(1)},
	}
	for _, c := range cases {
		repos.check(t, c.s, c.want)
	}
}

// P3.1: the number of parts, whatever they are, and however the text ends.
func TestParts(t *testing.T) {
	for _, p := range []string{"a", "0", "go_1.2--x", "a__b"} {
		for n := 1; n <= 12; n++ {
			s := strings.Repeat(p+"/", n-1) + p
			want := api.Fault{}
			if n > 8 {
				want = badName(8*len(p) + 7)
			}
			repos.check(t, s, want)
			if n < 8 {
				repos.check(t, s+"/", badName(len(s)+1))
				repos.check(t, s+"//", badName(len(s)+1))
			}
		}
	}
}

// P3.1: Tag.
func TestTag(t *testing.T) {
	cases := []struct {
		s    string
		want api.Fault
	}{
		{"v1.0-B_", api.Fault{}},
		{".x", badName(0)},
		{"", badName(0)},
		{"a\u00E9", badName(1)},
		{"a \u00E9", badName(1)},
		{strings.Repeat("a", 65), tooLong(64)},
		{"-", badName(0)},
		{"-x", badName(0)},
		{".", badName(0)},
		{"_", api.Fault{}},
		{"__..--", api.Fault{}},
		{"a..b", api.Fault{}},
		{"Z", api.Fault{}},
		{"0", api.Fault{}},
		{"a/b", badName(1)},
		{"latest\n", badName(6)},
		{" a", badName(0)},
	}
	for _, c := range cases {
		tags.check(t, c.s, c.want)
	}
}

// P3.1: Platform.
func TestPlatform(t *testing.T) {
	cases := []struct {
		s    string
		want api.Fault
	}{
		{"linux/amd64", api.Fault{}},
		{"linux", badName(5)},
		{"linux/", badName(6)},
		{"a/b/c", badName(3)},
		{"", badName(0)},
		{"/", badName(0)},
		{"/a", badName(0)},
		{"a//b", badName(2)},
		{"a/b/", badName(3)},
		{"0/9", api.Fault{}},
		{"Linux/amd64", badName(0)},
		{"linux/Amd64", badName(6)},
		{"linux/arm64.v8", badName(11)},
		{"lin-ux/a", badName(3)},
		{"lin_ux/a", badName(3)},
		{strings.Repeat("a", 65), tooLong(64)},
	}
	for _, c := range cases {
		platforms.check(t, c.s, c.want)
	}
}

// P3.1: all short strings.
func TestShortNames(t *testing.T) {
	for _, k := range kinds {
		compare := func(s string) { k.check(t, s, k.want(s)) }
		allOf([]string{"a", "0", ".", "_", "-", "/", "Z", "\u00E9", "\xFF"}, 5, compare)
		allOf([]string{"a", "_", "-", "/"}, 7, compare)
	}
}

// P3.1: each byte, and runes that look like others, at each kind of place.
func TestEachRuneOfNames(t *testing.T) {
	var runes []string
	for x := range 256 {
		runes = append(runes, string([]byte{byte(x)}), string(rune(x)))
	}
	runes = append(runes, "\uFF41", "\u0430", "\u0660", "\u2215", "\uFF0F", "\uFF0E", "\u2010", "\u00AA", "\u2126", "\uFFFD", "\U0001D41A", "\U0010FFFF", "\xED\xA0\x80", "\xC1\xA1", "\xE2\x82")
	for _, k := range kinds {
		for _, before := range []string{"", "a", "a.", "a_", "a__", "a-", "a--", "a/", "a/b", "a/b_", "a.b/c", "A", "_"} {
			for _, r := range runes {
				for _, behind := range []string{"", "a", "/a", "\xFF"} {
					s := before + r + behind
					k.check(t, s, k.want(s))
				}
			}
		}
	}
}

// P3.1: names of every length about the limit, whole ones and beginnings.
func TestLongNames(t *testing.T) {
	for _, k := range kinds {
		for n := k.most - 3; n <= k.most+3; n++ {
			for _, first := range []string{"a", "a/", "a.", "A", "/", "", "a_b/c-"} {
				for _, last := range []string{"a", "/a", ".a", "/", ".", "_", "__", "-", "A", "\u00E9", "\xFF", "", "/a/", "__a"} {
					s := first + strings.Repeat("b", n-len(first)-len(last)) + last
					k.check(t, s, k.want(s))
				}
			}
		}
		k.check(t, strings.Repeat("a", 1<<20), tooLong(k.most))
		k.check(t, strings.Repeat("\xFF", k.most), badName(0))
		k.check(t, strings.Repeat("\xFF", k.most+1), tooLong(k.most))
	}
	repos.check(t, strings.Repeat("a", 128), api.Fault{})
	repos.check(t, strings.Repeat("a", 127)+"/", badName(128))
	repos.check(t, strings.Repeat("a", 127)+"\u00E9", tooLong(128))
	repos.check(t, "A"+strings.Repeat("a", 128), tooLong(128))
	repos.check(t, strings.Repeat("a/", 64)+"a", tooLong(128))
	tags.check(t, strings.Repeat(".", 65), tooLong(64))
	tags.check(t, strings.Repeat("a", 64), api.Fault{})
	platforms.check(t, "a/"+strings.Repeat("a", 62), api.Fault{})
	platforms.check(t, "a/"+strings.Repeat("a", 63), tooLong(64))
	platforms.check(t, strings.Repeat("a", 63)+"/", badName(64))
	platforms.check(t, strings.Repeat("a", 64), badName(64))
}

// P3.4: names that are joined by / are a name, unless it is too long or has too many parts.
func TestJoinedNames(t *testing.T) {
	names := []string{"a", "library/go_1.2--x", "a__b", "1/2/3/4", "1/2/3/4/5/6/7", "1/2/3/4/5/6/7/8", "0-0/a", strings.Repeat("a", 63), strings.Repeat("b", 64), strings.Repeat("c", 126), strings.Repeat("d", 127), strings.Repeat("e", 128)}
	for _, a := range names {
		repos.check(t, a, api.Fault{})
		for _, b := range names {
			s := a + "/" + b
			parts := strings.Count(s, "/") + 1
			got := name.Repo(s)
			if joined := len(s) <= 128 && parts <= 8; joined != (got == api.Fault{}) {
				t.Errorf("Repo(%q) = %v: %d parts of %d bytes", s, got, parts, len(s))
			}
			if got != repos.want(s) {
				t.Errorf("Repo(%q) = %v, not %v", s, got, repos.want(s))
			}
		}
	}
}

// P3.4: a name that is divided at a / is two names.
func TestDividedNames(t *testing.T) {
	divided := 0
	allOf([]string{"a", "_", "-", ".", "/", "A"}, 6, func(s string) {
		if name.Repo(s) != (api.Fault{}) {
			return
		}
		for at, r := range s {
			if r == '/' {
				repos.check(t, s[:at], api.Fault{})
				repos.check(t, s[at+1:], api.Fault{})
				divided++
			}
		}
	})
	if divided == 0 {
		t.Error("no name was divided")
	}
}
