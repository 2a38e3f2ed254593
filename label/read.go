package label

import (
	"strings"

	"odometer/api"
)

// Parse is a series' metric's name, and its labels, by rising names.
func Parse(name string) (string, []api.Label, api.Errno) {
	metric, l, err := read(name)
	return metric, l, errno(err)
}

// May: is it a series' name?
func May(name string) bool {
	_, _, err := read(name)
	return errno(err) == api.OK
}

// read is a series' metric's name, and its labels.
func read(name string) (string, []api.Label, error) {
	metric, rest, braced := strings.Cut(name, "{")
	var l []api.Label
	if braced {
		var err error
		l, err = readLabels(rest)
		if err != nil {
			return "", nil, &fault{"a series' labels", err}
		}
	}
	if err := check(metric, l); err != nil { // names that do not rise, too: a series has one name
		return "", nil, &fault{"a series' name", err}
	}
	return strings.Clone(metric), l, nil
}

// readLabels are the labels of which s is all that stands behind the '{'.
func readLabels(s string) ([]api.Label, error) {
	var l []api.Label
	for len(l) < api.MaxLabels {
		x, rest, err := readLabel(s)
		if err != nil {
			return nil, &fault{"a label", err}
		}
		l = append(l, x)
		if rest == "}" {
			return l, nil
		}
		if !strings.HasPrefix(rest, ",") {
			return nil, &fault{"neither a comma nor the end behind a label", api.ErrLabel}
		}
		s = rest[1:]
	}
	return nil, &fault{"too many labels", api.ErrLabel}
}

// readLabel is the label that stands ahead in s, whatever its name is, and what is left behind it.
func readLabel(s string) (api.Label, string, error) {
	name, behind, ok := strings.Cut(s, "=\"")
	if !ok {
		return api.Label{}, "", &fault{"a name without a value", api.ErrLabel}
	}
	value, rest, err := readValue(behind)
	if err != nil {
		return api.Label{}, "", &fault{"a value", err}
	}
	if rest == "" {
		return api.Label{}, "", &fault{"a value without an end", api.ErrLabel}
	}
	return api.Label{Name: strings.Clone(name), Value: value}, rest[1:], nil
}
