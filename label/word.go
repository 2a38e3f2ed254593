package label

import (
	"strings"

	"odometer/api"
)

// IsWord: is it a word?
func IsWord(s string) bool { return IsMetric(s) && !strings.Contains(s, ":") }

// IsMetric: is it a metric's name?
func IsMetric(s string) bool {
	if s == "" || len(s) > api.MaxName || isDigit(s[0]) {
		return false
	}
	for i := range len(s) {
		if c := s[i]; !isLetter(c) && !isDigit(c) {
			return false
		}
	}
	return true
}

// isLetter: is it a letter, or a byte that is as one in a metric's name?
func isLetter(c byte) bool {
	return 'a' <= c && c <= 'z' || 'A' <= c && c <= 'Z' || c == '_' || c == ':'
}

func isDigit(c byte) bool { return '0' <= c && c <= '9' }
