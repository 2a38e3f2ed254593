package head

import "strings"

// MayName: may it be a field's name?
func MayName(s string) bool { return s != "" && each(s, inName) }

// MayText: may it be text?
func MayText(s string) bool { return each(s, inText) }

// isNumber: is it so many digits, and nothing else?
func isNumber(s string, least, most int) bool {
	return least <= len(s) && len(s) <= most && each(s, isDigit)
}

// each: may all bytes of s stand there?
func each(s string, may func(c byte) bool) bool {
	for i := range len(s) {
		if !may(s[i]) {
			return false
		}
	}
	return true
}

// inName: may a byte stand in a field's name?
func inName(c byte) bool {
	switch {
	case 'a' <= c && c <= 'z':
		fallthrough
	case 'A' <= c && c <= 'Z':
		fallthrough
	case isDigit(c):
		fallthrough
	case strings.IndexByte("!#$%&'*+-.^_`|~", c) >= 0:
		return true
	}
	return false
}

// inText: may a byte stand in text?
func inText(c byte) bool {
	switch {
	case c == '\t':
		fallthrough
	case ' ' <= c && c <= '~':
		fallthrough
	case c >= 128:
		return true
	}
	return false
}

func isDigit(c byte) bool { return '0' <= c && c <= '9' }
