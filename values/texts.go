package values

import (
	"strconv"

	"inarch/api"
	"inarch/quotes"
)

// writer of texts of values that may be; it tells what is no list, and no map.
type writer func(v api.Value) string

// plain is how a text tells it.
func plain(v api.Value) string {
	switch v.Kind {
	case api.VkNull:
		return "null"
	case api.VkStr:
		return quotes.Write(v.Text)
	}
	return v.Text
}

// named is how a key tells it: by its kind too, and so that no text, of whatever bytes, seems to end sooner.
func named(v api.Value) string { return strconv.Itoa(int(v.Kind)) + quotes.Write(v.Text) }

func (w writer) text(v api.Value) string { return string(w.put(nil, v)) }

// put a value's text behind others.
func (w writer) put(b []byte, v api.Value) []byte {
	switch v.Kind {
	case api.VkList:
		b = over(v.List, append(b, '['), w.putElement)
		return end(b, len(v.List), ']')
	case api.VkMap:
		b = over(entries(v), append(b, '{'), w.putEntry)
		return end(b, len(v.List), '}')
	}
	return append(b, w(v)...)
}

func (w writer) putElement(b []byte, v api.Value) []byte { return append(w.put(b, v), ',') }

func (w writer) putEntry(b []byte, e entry) []byte {
	b = append(append(b, quotes.Write(e.key)...), ':')
	return w.putElement(b, e.value)
}

// end a list, or a map, with a mark, in the place of the comma behind its last part.
func end(b []byte, parts int, mark byte) []byte {
	if parts > 0 {
		b = b[:len(b)-1]
	}
	return append(b, mark)
}
