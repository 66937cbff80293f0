package strict_test

import (
	"slices"
	"strings"
	"testing"

	"entrepot/api"
	"entrepot/strict"
)

// strs are all strings of at most n out of some pieces.
func strs(n int, pieces ...string) []string {
	list := []string{""}
	for begin := 0; n > 0; n-- {
		end := len(list)
		for _, s := range list[begin:end] {
			for _, p := range pieces {
				list = append(list, s+p)
			}
		}
		begin = end
	}
	return list
}

// checkSplit splits a string as the chapter does, and reports whether it is a platform.
func checkSplit(t *testing.T, s string) bool {
	t.Helper()
	var want [2]string
	is := isPlatform(s)
	if is {
		want = [2]string(strings.Split(s, "/"))
	}
	if a, b, got := strict.Split(s); a != want[0] || b != want[1] || got != is {
		t.Fatalf("Split(%q) = %q, %q, %v", s, a, b, got)
	}
	return is
}

func checkFits(t *testing.T, pattern, platform string) bool {
	t.Helper()
	is := strict.Fits(pattern, platform)
	if want := fits(pattern, platform); is != want {
		t.Fatalf("Fits(%q, %q) = %v", pattern, platform, is)
	}
	return is
}

// P12.2: platforms are split, nothing else is.
func TestSplit(t *testing.T) {
	for _, s := range platforms() {
		if !checkSplit(t, s) {
			t.Errorf("%q is not split", s)
		}
	}
	for _, s := range append(noPlatforms(), "") {
		if checkSplit(t, s) {
			t.Errorf("%q is split", s)
		}
	}
	for _, s := range strs(6, "a", "z", "0", "9", "/", "*") {
		checkSplit(t, s)
	}
	for _, s := range strs(4, "a", "/", "A", "-", " ", "\n", "\x00", "\xff", "ä", "\uFFFD", "`", "{", ":") {
		checkSplit(t, s)
	}
	for n := range 70 {
		checkSplit(t, strings.Repeat("a", n)+"/b")
		checkSplit(t, "a/"+strings.Repeat("b", n))
		checkSplit(t, strings.Repeat("a", n)+"/"+strings.Repeat("b", n))
	}
}

// P12.2: all short patterns and platforms, and strings that are none.
func TestFits(t *testing.T) {
	came := map[bool]int{}
	list := strs(4, "a", "0", "/", "*")
	for _, pattern := range list {
		for _, platform := range list {
			came[checkFits(t, pattern, platform)]++
		}
	}
	for _, pattern := range strs(5, "a", "b", "/", "*") {
		for _, platform := range []string{"a/b", "aa/b", "a/bb", "b/a", "ab/ab", "a/a"} {
			came[checkFits(t, pattern, platform)]++
		}
	}
	if came[true] < 100 || came[false] < 1000 {
		t.Errorf("%v", came)
	}
}

// P12.2: each rune in each place of a pattern and of a platform.
func TestRunes(t *testing.T) {
	for _, s := range []string{"ab/cd", "*/cd", "ab/*", "*/*"} {
		for at := range len(s) + 1 {
			for r := rune(-1); r < 0x800; r++ {
				c := string(r)
				checkFits(t, s[:at]+c+s[at:], "ab/cd")
				checkFits(t, s[:at]+c+s[at:], s[:at]+c+s[at:])
				if at < len(s) {
					checkFits(t, s[:at]+c+s[at+1:], "ab/cd")
					checkFits(t, s, "ab/cd"[:min(at, 4)]+c+"ab/cd"[min(at, 4)+1:])
				}
			}
			for x := range 256 {
				c := string([]byte{byte(x)})
				checkFits(t, s[:at]+c+s[at:], "ab/cd")
				checkFits(t, s[:at]+c+s[at:], s[:at]+c+s[at:])
			}
		}
	}
}

// P12.2: patterns are longer than platforms, as far as they like, but then fit none.
func TestLongPatterns(t *testing.T) {
	for n := range 70 {
		a, b := strings.Repeat("a", n), strings.Repeat("b", n)
		for _, platform := range []string{a + "/b", "a/" + b, a + "/" + b} {
			for _, pattern := range []string{platform, a + "/*", "*/" + b, "*/*", a + "/b", "a/" + b, a + "a/*", "*/b" + b} {
				if is := checkFits(t, pattern, platform); is && len(platform) > 64 {
					t.Fatalf("%q fits %q", pattern, platform)
				}
			}
		}
	}
	long := strings.Repeat("a", 1<<20)
	for _, pattern := range []string{long, long + "/" + long, long + "/*", "*/" + long, strings.Repeat("*", 1<<20), strings.Repeat("/", 1<<20), "*/*" + long} {
		checkFits(t, pattern, "a/b")
		checkFits(t, pattern, pattern)
		checkFits(t, "*/*", pattern)
	}
	many := api.Manifest{Subs: make([]api.Desc, 10000)}
	if d, is := strict.Choose(many, long+"/*"); d != (api.Desc{}) || is {
		t.Errorf("%v is chosen", d)
	}
}

// patterns are patterns, and strings that are none.
func patterns() []string {
	return append([]string{"*/*", "linux/*", "*/arm0", "*/arm1", "*/arm7", "linux/arm1", "linux/arm9", "*/amd64", "windows/*", "*", "", "/", "linux", "linux/", "/arm1", "lin*/arm1", "linux/arm*", "*/*/*", "linux/arm1/", "**/*", "*/**", "Linux/*", "*a/*", "a*/*", " */*", "*/* "}, noPlatforms()...)
}

func checkChoose(t *testing.T, m api.Manifest, pattern string) bool {
	t.Helper()
	want, is := choice(m, pattern)
	given := copied(m)
	if d, got := strict.Choose(given, pattern); d != want || got != is {
		t.Fatalf("Choose(%v, %q) = %v, %v, not %v, %v", m, pattern, d, got, want, is)
	}
	if !same(given, m) {
		t.Fatalf("Choose changed %v to %v", m, given)
	}
	return is
}

// P12.2: the first sub that a pattern fits, at each place, whatever else the manifest is.
func TestChoose(t *testing.T) {
	manifests := valid()
	for _, m := range []api.Manifest{anIndex(8, 0), anIndex(4, 4), anIndex(20, 0), {Subs: make([]api.Desc, 3)}} {
		for _, kind := range []int{image, index, 0, 9} {
			m.Kind = kind
			manifests = append(manifests, m)
		}
		backward := copied(m)
		slices.Reverse(backward.Subs)
		manifests = append(manifests, backward)
		for _, s := range append(noPlatforms(), "", "windows/arm1", "a/amd64") {
			if len(m.Subs) > 0 {
				other := copied(m)
				other.Subs[len(m.Subs)/2].Platform = s
				other.Subs[0].Platform = s
				manifests = append(manifests, other)
			}
		}
	}
	came := map[bool]int{}
	for _, m := range manifests {
		for _, pattern := range patterns() {
			came[checkChoose(t, m, pattern)]++
		}
	}
	if came[true] < 100 || came[false] < 100 {
		t.Errorf("%v", came)
	}
	m := anIndex(3, 0)
	for i := range m.Subs {
		m.Subs[i].Platform = "same/platform"
	}
	if d, is := strict.Choose(m, "same/*"); d != m.Subs[0] || !is {
		t.Errorf("%v, %v", d, is)
	}
	m.Subs[0].Platform = "same/*"
	if d, is := strict.Choose(m, "same/*"); d != m.Subs[1] || !is {
		t.Errorf("%v, %v", d, is)
	}
}
