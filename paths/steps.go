package paths

import (
	"cmp"
	"strings"

	"inarch/api"
)

// wrong is a step that may not be.
func wrong(s api.Step) bool {
	switch s.Kind {
	case api.StKey:
		return s != api.Step{Kind: s.Kind, Text: s.Text}
	case api.StAt:
		return s.At < 0 || s != api.Step{Kind: s.Kind, At: s.At}
	case api.StID:
		return s.At != 0
	}
	return true
}

// shared tells how many steps at two paths' beginnings are the same.
func shared(a, b []api.Step) int {
	n := 0
	for n < len(a) && n < len(b) && a[n] == b[n] {
		n++
	}
	return n
}

// order of steps.
func order(a, b api.Step) int {
	return cmp.Or(
		cmp.Compare(a.Kind, b.Kind),
		strings.Compare(a.Text, b.Text),
		cmp.Compare(a.At, b.At),
		strings.Compare(a.ID, b.ID),
	)
}
