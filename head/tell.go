package head

import (
	"strings"

	"odometer/api"
)

// maxDigits is how many digits a length has at most.
const maxDigits = 15

// tell is what the lines of a whole head tell together.
func (l *lines) tell() (api.Head, api.Errno) {
	lengths, codings := l.values("content-length"), l.values("transfer-encoding")
	if !agree(lengths) || len(lengths) > 0 && len(codings) > 0 {
		return api.Head{}, api.ErrLength
	}
	chunked := len(codings) > 0
	if chunked && (l.old || len(codings) > 1 || small(codings[0]) != "chunked") {
		return api.Head{}, api.ErrChunk
	}
	h := api.Head{Status: l.status, Length: -1, Chunked: chunked}
	if len(lengths) > 0 {
		h.Length = number(lengths[0])
	}
	h.Close = h.Length < 0 && !chunked || closes(l.values("connection"), l.old)
	return h, api.OK
}

// values are the values of all fields of a name, in order.
func (l *lines) values(name string) []string {
	var values []string
	for _, f := range l.fields {
		if f.Name == name {
			values = append(values, f.Value)
		}
	}
	return values
}

// agree: are all of them one and the same length?
func agree(lengths []string) bool {
	for _, s := range lengths {
		if s != lengths[0] || !isNumber(s, 1, maxDigits) {
			return false
		}
	}
	return true
}

// closes: is the connection closed by what these values say? If they say nothing of it, an old one is.
func closes(values []string, old bool) bool {
	closed := old
values:
	for _, value := range values {
		for {
			word, rest, more := strings.Cut(value, ",")
			switch small(strings.Trim(word, blanks)) {
			case "close":
				closed = true
				break values // whatever else is said
			case "keep-alive":
				closed = false
			}
			if !more {
				continue values
			}
			value = rest
		}
	}
	return closed
}

// small is a text whose letters are small; all other bytes, those of letters beyond the alphabet too, stay as they are.
func small(s string) string {
	b := []byte(s)
	for i, c := range b {
		if 'A' <= c && c <= 'Z' {
			b[i] = c - 'A' + 'a'
		}
	}
	return string(b)
}

// number is what digits tell.
func number(digits string) int64 {
	n := int64(0)
	for i := range len(digits) {
		n = 10*n + int64(digits[i]-'0')
	}
	return n
}
