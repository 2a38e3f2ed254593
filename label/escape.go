package label

import "odometer/api"

// Escape is a value as it stands between '"'.
func Escape(s string) string {
	b := make([]byte, 0, len(s))
	for i := range len(s) {
		c := s[i]
		switch c {
		case '\n':
			c = 'n'
			fallthrough
		case '\\', '"':
			b = append(b, '\\')
		}
		b = append(b, c)
	}
	return string(b)
}

// Unescape is the value that stands so between '"'; true: it is one.
func Unescape(s string) (string, bool) {
	value, rest, err := readValue(s)
	if errno(err) != api.OK || rest != "" {
		return "", false
	}
	return value, true
}

// readValue is the value that stands ahead in s, up to a '"' or to the end, and what is left, from the '"' on.
func readValue(s string) (string, string, error) {
	var b []byte
	for i := 0; i < len(s); i++ {
		c := s[i]
		switch c {
		case '"':
			return string(b), s[i:], nil
		case '\n':
			return "", "", &fault{"a byte 10 in a value", api.ErrLabel}
		case '\\':
			i++
			if i == len(s) {
				return "", "", &fault{"a backslash ahead of nothing", api.ErrLabel}
			}
			told, ok := unescaped(s[i])
			if !ok {
				return "", "", &fault{"a backslash ahead of another byte", api.ErrLabel}
			}
			c = told
			fallthrough
		default:
			b = append(b, c)
		}
	}
	return string(b), "", nil
}

// unescaped is the byte that a backslash and c tell; true: they tell one.
func unescaped(c byte) (byte, bool) {
	switch c {
	case 'n':
		c = '\n'
		fallthrough
	case '\\', '"':
		return c, true
	}
	return 0, false
}
