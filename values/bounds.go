package values

import (
	"slices"

	"inarch/api"
)

// may a value be that is so deep at most? What holds itself is deeper; so the first part that may not be ends it.
func may(v api.Value, most int) bool {
	if !parted(v.Kind) {
		return len(v.List) == 0 && len(v.Keys) == 0 && mayText(v)
	}
	if most == 0 || v.Text != "" || !mayKeys(v) {
		return false
	}
	return over(v.List, true, func(ok bool, p api.Value) bool {
		return ok && may(p, most-1)
	})
}

// mayText: may what is no list, and no map, have its text?
func mayText(v api.Value) bool {
	switch v.Kind {
	case api.VkNull:
		return v.Text == ""
	case api.VkBool:
		return v.Text == "true" || v.Text == "false"
	case api.VkNum, api.VkInt, api.VkFloat, api.VkDate:
		return v.Text != ""
	}
	return v.Kind == api.VkStr
}

// mayKeys: may a list, or a map, have its keys?
func mayKeys(v api.Value) bool {
	if v.Kind == api.VkList {
		return len(v.Keys) == 0
	}
	if len(v.Keys) != len(v.List) {
		return false
	}
	sorted := slices.Sorted(slices.Values(v.Keys))
	return len(slices.Compact(sorted)) == len(v.Keys)
}
