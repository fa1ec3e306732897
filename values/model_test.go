package values_test

import (
	"cmp"
	"maps"
	"slices"
	"strconv"
	"strings"

	"inarch/api"
)

// The chapter's words, case by case, beside the package's own way.

// mayBe tells if a value may be, but for how deep it is.
func mayBe(v api.Value) bool {
	for _, sub := range v.List {
		if !mayBe(sub) {
			return false
		}
	}
	keys := map[string]int{}
	for _, key := range v.Keys {
		keys[key]++
	}
	alone := len(v.List) == 0 && len(v.Keys) == 0
	switch v.Kind {
	case api.VkNull:
		return alone && v.Text == ""
	case api.VkBool:
		return alone && slices.Contains([]string{"true", "false"}, v.Text)
	case api.VkStr:
		return alone
	case api.VkNum, api.VkInt, api.VkFloat, api.VkDate:
		return alone && len(v.Text) > 0
	case api.VkList:
		return v.Text == "" && len(v.Keys) == 0
	case api.VkMap:
		return v.Text == "" && len(v.Keys) == len(v.List) && len(keys) == len(v.Keys)
	}
	return false
}

// byKey is what a map's keys have.
func byKey(v api.Value) map[string]api.Value {
	m := map[string]api.Value{}
	for i, key := range v.Keys {
		m[key] = v.List[i]
	}
	return m
}

// areSame tells of two values that may be, without asking for an order.
func areSame(a, b api.Value) bool {
	if a.Kind != b.Kind || a.Text != b.Text || len(a.List) != len(b.List) {
		return false
	}
	if a.Kind == api.VkMap {
		of, other := byKey(a), byKey(b)
		for key, v := range of {
			if w, ok := other[key]; !ok || !areSame(v, w) {
				return false
			}
		}
		return true
	}
	for i := range a.List {
		if !areSame(a.List[i], b.List[i]) {
			return false
		}
	}
	return true
}

// ahead tells which of two values that may be stands ahead.
func ahead(a, b api.Value) int {
	switch {
	case a.Kind != b.Kind:
		return cmp.Compare(a.Kind, b.Kind)
	case a.Text != b.Text:
		return cmp.Compare(a.Text, b.Text)
	case a.Kind == api.VkMap:
		return entriesAhead(a, b)
	}
	for i := 0; i < len(a.List) && i < len(b.List); i++ {
		if !areSame(a.List[i], b.List[i]) {
			return ahead(a.List[i], b.List[i])
		}
	}
	return cmp.Compare(len(a.List), len(b.List))
}

func entriesAhead(a, b api.Value) int {
	of, other := byKey(a), byKey(b)
	keys, others := slices.Sorted(maps.Keys(of)), slices.Sorted(maps.Keys(other))
	for i := 0; i < len(keys) && i < len(others); i++ {
		key, o := keys[i], others[i]
		if key != o {
			return cmp.Compare(key, o)
		}
		if !areSame(of[key], other[key]) {
			return ahead(of[key], other[key])
		}
	}
	return cmp.Compare(len(keys), len(others))
}

func sizeOf(v api.Value) int {
	n := 1
	for _, sub := range v.List {
		n += sizeOf(sub)
	}
	return n
}

func deepOf(v api.Value) int {
	if v.Kind < api.VkList {
		return 0
	}
	most := 0
	for _, sub := range v.List {
		most = max(most, deepOf(sub))
	}
	return most + 1
}

// textOf a value that may be.
func textOf(v api.Value) string {
	var parts []string
	switch v.Kind {
	case api.VkNull:
		return "null"
	case api.VkStr:
		return quoted(v.Text)
	case api.VkList:
		for _, sub := range v.List {
			parts = append(parts, textOf(sub))
		}
		return "[" + strings.Join(parts, ",") + "]"
	case api.VkMap:
		m := byKey(v)
		for _, key := range slices.Sorted(maps.Keys(m)) {
			parts = append(parts, quoted(key)+":"+textOf(m[key]))
		}
		return "{" + strings.Join(parts, ",") + "}"
	}
	return v.Text
}

// quoted is the string of a text, by chapter 3.
func quoted(text string) string {
	short := map[byte]string{8: `\b`, 9: `\t`, 10: `\n`, 12: `\f`, 13: `\r`, '"': `\"`, '\\': `\\`}
	s := `"`
	for i := range len(text) {
		c := text[i]
		if escape, ok := short[c]; ok {
			s += escape
		} else if c < 32 {
			s += `\u00` + strconv.Itoa(int(c)/16) + strconv.FormatInt(int64(c)%16, 16)
		} else {
			s += text[i : i+1]
		}
	}
	return s + `"`
}
