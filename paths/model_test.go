package paths_test

import (
	"fmt"
	"regexp"
	"slices"
	"strconv"
	"strings"

	"inarch/api"
)

// The chapter's words, case by case, beside the package's own way.

// mayBeStep tells if a step may be.
func mayBeStep(s api.Step) bool {
	if s.Kind != api.StKey && s.Kind != api.StAt && s.Kind != api.StID {
		return false
	}
	if s.Kind == api.StAt && (s.At < 0 || s.Text != "") || s.Kind != api.StAt && s.At != 0 {
		return false
	}
	return s.Kind == api.StID || s.ID == ""
}

// mayBe tells if a path may be.
func mayBe(p []api.Step) bool {
	for _, s := range p {
		if !mayBeStep(s) {
			return false
		}
	}
	return len(p) <= 512
}

var ofMarks = regexp.MustCompile(`[\x00-\x1f\x7f%/\[\]=]`)

func spelt(s string) string {
	return ofMarks.ReplaceAllStringFunc(s, func(c string) string { return fmt.Sprintf("%%%02x", c[0]) })
}

// written is a path's text, of one that may be.
func written(p []api.Step) string {
	if len(p) == 0 {
		return "."
	}
	s := ""
	for _, one := range p {
		switch one.Kind {
		case api.StKey:
			s += "/" + spelt(one.Text)
		case api.StAt:
			s += fmt.Sprintf("[%d]", one.At)
		case api.StID:
			s += "[" + spelt(one.Text) + "=" + spelt(one.ID) + "]"
		}
	}
	return s
}

const ofWord = `((?:[^\x00-\x1f\x7f%/\[\]=]|%0[0-9a-f]|%1[0-9a-f]|%7f|%25|%2f|%5b|%5d|%3d)*)`

var ofStep = regexp.MustCompile(`^(?:/` + ofWord + `|\[(0|[1-9][0-9]*)\]|\[` + ofWord + `=` + ofWord + `\])`)

var ofByte = regexp.MustCompile(`%..`)

func unspelt(word string) string {
	return ofByte.ReplaceAllStringFunc(word, func(c string) string {
		n, _ := strconv.ParseUint(c[1:], 16, 8)
		return string([]byte{byte(n)})
	})
}

// read a path's text, by a grammar of steps.
func read(s string) ([]api.Step, bool) {
	if s == "." {
		return nil, true
	}
	var p []api.Step
	for s != "" {
		m := ofStep.FindStringSubmatch(s)
		switch {
		case m == nil:
			return nil, false
		case m[0][0] == '/':
			p = append(p, api.Step{Text: unspelt(m[1])})
		case m[2] != "":
			n, err := strconv.ParseInt(m[2], 10, 64)
			if err != nil {
				return nil, false
			}
			p = append(p, api.Step{Kind: api.StAt, At: int(n)})
		default:
			p = append(p, api.Step{Kind: api.StID, Text: unspelt(m[3]), ID: unspelt(m[4])})
		}
		s = s[len(m[0]):]
	}
	return p, len(p) > 0 && len(p) <= 512
}

// ahead tells which of two paths stands ahead.
func ahead(a, b []api.Step) int {
	for i := 0; i < len(a) && i < len(b); i++ {
		x, y := a[i], b[i]
		switch {
		case x.Kind < y.Kind:
			return -1
		case x.Kind > y.Kind:
			return 1
		case x.Text < y.Text:
			return -1
		case x.Text > y.Text:
			return 1
		case x.At < y.At:
			return -1
		case x.At > y.At:
			return 1
		case x.ID < y.ID:
			return -1
		case x.ID > y.ID:
			return 1
		}
	}
	switch {
	case len(a) < len(b):
		return -1
	case len(a) > len(b):
		return 1
	}
	return 0
}

// leads to a part, of a value that may be.
type leads struct {
	path []api.Step
	to   api.Value
}

// all that paths lead to, from a value that may be on; said is what the text of a part is.
func all(v api.Value, said func(v api.Value) string) []leads {
	l := []leads{{nil, v}}
	named := map[api.Step]bool{}
	for i, part := range v.List {
		steps := []api.Step{{Kind: api.StAt, At: i}}
		if v.Kind == api.VkMap {
			steps = []api.Step{{Text: v.Keys[i]}}
		} else if part.Kind == api.VkMap {
			for k, key := range part.Keys {
				step := api.Step{Kind: api.StID, Text: key, ID: said(part.List[k])}
				if !named[step] {
					steps = append(steps, step)
				}
				named[step] = true
			}
		}
		for _, further := range all(part, said) {
			for _, step := range steps {
				l = append(l, leads{slices.Insert(slices.Clone(further.path), 0, step), further.to})
			}
		}
	}
	return l
}

// said is a value, its keys as they stand.
func said(v api.Value) string {
	var parts []string
	for i, sub := range v.List {
		part := said(sub)
		if v.Kind == api.VkMap {
			part = strconv.Quote(v.Keys[i]) + "=" + part
		}
		parts = append(parts, part)
	}
	switch v.Kind {
	case api.VkList:
		return "[" + strings.Join(parts, " ") + "]"
	case api.VkMap:
		return "{" + strings.Join(parts, " ") + "}"
	}
	return strconv.Itoa(int(v.Kind)) + ":" + v.Text
}
