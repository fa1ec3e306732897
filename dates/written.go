package dates

import (
	"strings"

	"inarch/api"
)

// written is a date-time's text in parts, as they stand there; nothing: that part doesn't.
type written struct {
	date     string
	time     string // without a part of a second
	fraction string // of a second, with its point
	zone     string
}

// read a date-time's text.
func read(s string) (written, api.Code) {
	w, rest := split(s)
	if rest != "" || w.kind() == DtNone {
		return written{}, api.CoSyntax
	}
	if !w.may() {
		return written{}, api.CoDate
	}
	return w, api.CoOK
}

// split off the longest beginning that is of the form of a date-time, whatever its numbers.
func split(s string) (w written, rest string) {
	w.date, rest = cut(s, dateForm)
	if w.date == "" {
		w.time, w.fraction, rest = cutTime(s)
		return w, rest
	}
	// What may stand ahead of a time is left where it is if no time is behind it.
	if rest == "" || strings.IndexByte("Tt ", rest[0]) < 0 {
		return w, rest
	}
	time, fraction, behind := cutTime(rest[1:])
	if time == "" {
		return w, rest
	}
	w.time, w.fraction = time, fraction
	w.zone, rest = cutZone(behind)
	return w, rest
}

// cutTime cuts a time off, and the part of a second behind it.
func cutTime(s string) (time, fraction, rest string) {
	time, rest = cut(s, timeForm)
	if time == "" || rest == "" || rest[0] != '.' {
		return time, "", rest
	}
	end := 1
	for end < len(rest) && isDigit(rest[end]) {
		end++
	}
	if end == 1 {
		return time, "", rest
	}
	return time, rest[:end], rest[end:]
}

// cutZone cuts a zone off.
func cutZone(s string) (zone, rest string) {
	if s != "" && (s[0] == 'Z' || s[0] == 'z') {
		return s[:1], s[1:]
	}
	return cut(s, eastForm, westForm)
}

// kind of the parts that are there.
func (w written) kind() Kind {
	switch {
	case w.zone != "":
		return DtZone
	case w.date != "" && w.time != "":
		return DtBoth
	case w.time != "":
		return DtTime
	case w.date != "":
		return DtDate
	}
	return DtNone
}

// normal form of all.
func (w written) normal() string {
	var b []byte
	b = append(b, w.date...)
	if w.date != "" && w.time != "" {
		b = append(b, 'T')
	}
	b = append(b, w.time...)
	b = append(b, strings.TrimSuffix(strings.TrimRight(w.fraction, "0"), ".")...)
	b = append(b, strings.ToUpper(w.zone)...)
	return string(b)
}
