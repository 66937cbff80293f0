package strict

// pattern is the two parts of a pattern.
type pattern struct{ first, second string }

// Where the reader of a pattern is.
const (
	atBegin = iota // of a part
	inWord
	behindStar
)

// readPattern returns the pattern that s is.
func readPattern(s string) (pattern, bool) {
	where, slash := atBegin, -1
	for at, r := range s {
		switch {
		case ofWord(r) && where != behindStar:
			where = inWord
		case r == '*' && where == atBegin:
			where = behindStar
		case r == '/' && where != atBegin && slash < 0:
			where, slash = atBegin, at
		default:
			return pattern{}, false
		}
	}
	if where == atBegin || slash < 0 {
		return pattern{}, false
	}
	return pattern{s[:slash], s[slash+1:]}, true
}

// ofWord reports whether a rune may be in a word.
func ofWord(r rune) bool {
	return 'a' <= r && r <= 'z' || '0' <= r && r <= '9'
}

// fits reports whether the pattern fits a platform.
func (p pattern) fits(platform string) bool {
	first, second, is := Split(platform)
	return is && fitsPart(p.first, first) && fitsPart(p.second, second)
}

// fitsPart reports whether a part of a pattern fits one of a platform.
func fitsPart(part, of string) bool {
	return part == "*" || part == of
}
