// Package copies makes copies that share no memory with what they are of, and have no room behind. It is no layer: those lean on it that answer parts of what they are given.
package copies

import (
	"strings"

	"inarch/api"
)

// Each part, made into another one, in a list of its own; where there is no list, there is none.
func Each[P, T any](parts []P, of func(p P) T) []T {
	if parts == nil {
		return nil
	}
	l := make([]T, 0, len(parts))
	for _, p := range parts {
		l = append(l, of(p))
	}
	return l
}

// Value of a document. One whose lists hold themselves has no end: ask first if it may be.
func Value(v api.Value) api.Value {
	v.Text = strings.Clone(v.Text)
	v.List = Each(v.List, Value)
	v.Keys = Each(v.Keys, strings.Clone)
	return v
}

// Step of a path.
func Step(s api.Step) api.Step {
	s.Text = strings.Clone(s.Text)
	s.ID = strings.Clone(s.ID)
	return s
}
