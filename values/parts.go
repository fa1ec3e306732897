package values

import (
	"slices"
	"strings"

	"inarch/api"
)

// over parts, one behind the other: what is asked of each is added to what those ahead of it came to.
func over[P, T any](parts []P, sum T, add func(sum T, p P) T) T {
	for _, p := range parts {
		sum = add(sum, p)
	}
	return sum
}

func size(v api.Value) int {
	return over(v.List, 1, func(n int, p api.Value) int {
		return n + size(p)
	})
}

func deep(v api.Value) int {
	if !parted(v.Kind) {
		return 0
	}
	return 1 + over(v.List, 0, func(n int, p api.Value) int {
		return max(n, deep(p))
	})
}

// parted are the kinds that may have others within.
func parted(k api.Kind) bool { return k == api.VkList || k == api.VkMap }

// entry of a map.
type entry struct {
	key   string
	value api.Value
}

func (e entry) byKey(o entry) int { return strings.Compare(e.key, o.key) }

// order of entries: by key, then by value.
func (e entry) order(o entry) int {
	if c := e.byKey(o); c != 0 {
		return c
	}
	return order(e.value, o.value)
}

// entries of a map that may be, in the order of their keys.
func entries(v api.Value) []entry {
	l := make([]entry, 0, len(v.Keys))
	for i, key := range v.Keys {
		l = append(l, entry{key, v.List[i]})
	}
	slices.SortFunc(l, entry.byKey)
	return l
}
