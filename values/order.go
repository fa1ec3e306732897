package values

import (
	"cmp"
	"slices"
	"strings"

	"inarch/api"
)

// order of two values that may be.
func order(a, b api.Value) int {
	if c := cmp.Or(cmp.Compare(a.Kind, b.Kind), strings.Compare(a.Text, b.Text)); c != 0 {
		return c
	}
	if a.Kind == api.VkMap {
		return slices.CompareFunc(entries(a), entries(b), entry.order)
	}
	return slices.CompareFunc(a.List, b.List, order)
}
