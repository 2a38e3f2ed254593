package body

import (
	"strconv"
	"strings"

	"odometer/head"
)

const (
	lineEnd   = "\r\n"
	blanks    = " \t"
	hexDigits = "0123456789abcdefABCDEF"
	maxDigits = 8
)

// size is what a size line tells, that stands there with its end; is it one?
func size(line string) (int64, bool) {
	line, ended := strings.CutSuffix(line, lineEnd)
	rest := strings.TrimLeft(line, hexDigits)
	digits := strings.TrimSuffix(line, rest)
	between, text, _ := strings.Cut(rest, ";")
	if !ended || len(digits) > maxDigits || strings.Trim(between, blanks) != "" || !head.MayText(text) {
		return 0, false
	}
	n, err := strconv.ParseInt(digits, 16, 64)
	return n, err == nil
}

// isTrailer: is a line, that stands there with its end, a trailer?
func isTrailer(line string) bool {
	line, ended := strings.CutSuffix(line, lineEnd)
	name, text, is := strings.Cut(line, ":")
	return ended && is && head.MayName(name) && head.MayText(text)
}
