package paths

import (
	"slices"

	"inarch/api"
	"inarch/values"
)

// place in a value's List of what a step leads to, of both that may be; -1, if there is nothing. (What is no map has no keys.)
func place(v api.Value, s api.Step) int {
	switch {
	case s.Kind == api.StKey:
		return slices.Index(v.Keys, s.Text)
	case s.Kind == api.StAt && v.Kind == api.VkList && s.At < len(v.List):
		return s.At
	case s.Kind == api.StID && v.Kind == api.VkList:
		return slices.IndexFunc(v.List, func(e api.Value) bool { return named(e, s) })
	}
	return -1
}

// named: is an element the one that a step of StID means?
func named(e api.Value, s api.Step) bool {
	at := slices.Index(e.Keys, s.Text)
	return at >= 0 && values.Text(e.List[at]) == s.ID
}
