package label_test

import (
	"fmt"
	"regexp"
	"slices"
	"strings"
	"testing"

	"odometer/api"
	"odometer/label"
)

const labelText = `([a-zA-Z_][a-zA-Z0-9_]*)="((?:[^"\\\n]|\\[\\"n])*)"`

var (
	oneLabel  = regexp.MustCompile(labelText)
	nameText  = regexp.MustCompile(`^([a-zA-Z_:][a-zA-Z0-9_:]*)(?:\{(` + labelText + `(?:,` + labelText + `)*)\})?$`)
	valueText = regexp.MustCompile(`^(?:[^"\\\n]|\\[\\"n])*$`)
	wordText  = regexp.MustCompile(`^[a-zA-Z_][a-zA-Z0-9_]*$`)
	unescape  = strings.NewReplacer(`\\`, `\`, `\"`, `"`, `\n`, "\n")
	escape    = strings.NewReplacer(`\`, `\\`, `"`, `\"`, "\n", `\n`)
)

// reckon is what Parse has to answer, by the chapter's words.
func reckon(name string) (string, []api.Label, api.Errno) {
	parts := nameText.FindStringSubmatch(name)
	if parts == nil || len(parts[1]) > 200 {
		return "", nil, api.ErrLabel
	}
	var l []api.Label
	for _, x := range oneLabel.FindAllStringSubmatch(parts[2], -1) {
		l = append(l, api.Label{Name: x[1], Value: unescape.Replace(x[2])})
	}
	for i, x := range l {
		if i > 15 || len(x.Name) > 200 || len(x.Value) > 1024 || i > 0 && l[i-1].Name >= x.Name {
			return "", nil, api.ErrLabel
		}
	}
	return parts[1], l, api.OK
}

// checkParse holds Parse, May and, of what is a name, Name against the chapter's words.
func checkParse(t *testing.T, name string) {
	t.Helper()
	want, labels, wrong := reckon(name)
	metric, l, e := label.Parse(name)
	if metric != want || !slices.Equal(l, labels) || e != wrong {
		t.Errorf("Parse(%.200q) = %q, %.200q, %v, want %q, %.200q, %v", name, metric, l, e, want, labels, wrong)
	}
	if is := label.May(name); is != (wrong == api.OK) {
		t.Errorf("May(%.200q) = %v", name, is)
	}
	if e == api.OK {
		if again, e := label.Name(metric, l...); again != name || e != api.OK {
			t.Errorf("%.200q is named %.200q, %v", name, again, e)
		}
	}
}

// texts are all texts of so many of the letters at most.
func texts(letters string, most int) []string {
	all := []string{""}
	for from := 0; most > 0; most-- {
		to := len(all)
		for _, s := range all[from:to] {
			for i := range len(letters) {
				all = append(all, s+letters[i:i+1])
			}
		}
		from = to
	}
	return all
}

// sequence gives numbers below others, the same in each run.
func sequence() func(below int) int {
	state := uint64(1)
	return func(below int) int {
		state = state*6364136223846793005 + 1442695040888963407
		return int(state >> 33 % uint64(below))
	}
}

// labels are so many of them, by rising names.
func labels(many int) []api.Label {
	var l []api.Label
	for i := range many {
		l = append(l, api.Label{Name: fmt.Sprintf("l%03d", i), Value: fmt.Sprint(i)})
	}
	return l
}

// orders calls do with l in each of its orders.
func orders(l []api.Label, do func([]api.Label)) {
	var place func(at int)
	place = func(at int) {
		if at == len(l) {
			do(slices.Clone(l))
			return
		}
		for i := at; i < len(l); i++ {
			l[at], l[i] = l[i], l[at]
			place(at + 1)
			l[at], l[i] = l[i], l[at]
		}
	}
	place(0)
}
