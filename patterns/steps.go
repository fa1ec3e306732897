package patterns

import "inarch/api"

// step of a pattern.
type step struct {
	text  string
	many  bool                  // it takes any steps, or none; else just one
	takes func(s api.Step) bool // of just one: may it be this?
}

func theKey(key string) step {
	takes := func(s api.Step) bool { return s.Kind == api.StKey && s.Text == key }
	return step{text: "/" + Spell(key), takes: takes}
}

func anyKey() step {
	return step{text: "/*", takes: func(s api.Step) bool { return s.Kind == api.StKey }}
}

func anySteps() step {
	return step{text: "/**", many: true}
}

func anyElement() step {
	takes := func(s api.Step) bool { return s.Kind == api.StAt || s.Kind == api.StID }
	return step{text: "[*]", takes: takes}
}

func anyID(field string) step {
	takes := func(s api.Step) bool { return s.Kind == api.StID && s.Text == field }
	return step{text: "[" + Spell(field) + "=*]", takes: takes}
}

func theID(field, id string) step {
	ofField := anyID(field).takes
	takes := func(s api.Step) bool { return ofField(s) && s.ID == id }
	return step{text: "[" + Spell(field) + "=" + Spell(id) + "]", takes: takes}
}

// takeAll: can the path's steps be parted so that these take them all?
func takeAll(steps []step, path []api.Step) bool {
	// What stands behind the last step met that takes many, and what is left to that of the path. The ones met earlier stay with as few as they can: whatever could be left to it if they took more is within this too.
	var behind []step
	var left []api.Step
	for len(steps) > 0 || len(path) > 0 {
		switch {
		case len(steps) > 0 && steps[0].many:
			steps = steps[1:]
			behind, left = steps, path
		case len(steps) > 0 && len(path) > 0 && steps[0].takes(path[0]):
			steps, path = steps[1:], path[1:]
		case len(left) > 0:
			left = left[1:]
			steps, path = behind, left
		default:
			return false
		}
	}
	return true
}
