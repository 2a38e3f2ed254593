package request

import "strings"

const (
	maxHost = 255
	maxPath = 1024
)

// MayHost: is it a host?
func MayHost(s string) bool {
	return s != "" && len(s) <= maxHost && each(s, inHost)
}

// MayPath: is it a path?
func MayPath(s string) bool {
	return strings.HasPrefix(s, "/") && len(s) <= maxPath && each(s, inPath)
}

// each: may all bytes of s stand there?
func each(s string, may func(c byte) bool) bool {
	for i := range len(s) {
		if !may(s[i]) {
			return false
		}
	}
	return true
}

// inHost: may a byte stand in a host?
func inHost(c byte) bool {
	switch {
	case 'a' <= c && c <= 'z':
		fallthrough
	case 'A' <= c && c <= 'Z':
		fallthrough
	case '0' <= c && c <= '9':
		fallthrough
	case strings.IndexByte("-.:[]", c) >= 0:
		return true
	}
	return false
}

// inPath: may a byte stand in a path?
func inPath(c byte) bool { return '!' <= c && c <= '~' && c != '#' }
