package copies_test

import (
	"reflect"
	"strings"
	"testing"
	"unsafe"

	"inarch/api"
	"inarch/copies"
)

func sample() api.Value {
	room := make([]api.Value, 2, 9)
	room[0], room[1] = api.Value{Kind: api.VkStr, Text: "x"}, api.Value{Kind: api.VkList}
	return api.Value{Kind: api.VkMap, Keys: append(make([]string, 0, 9), "a", "b"), List: room}
}

// shares tells if a text stands within another one's memory.
func shares(a, b string) bool {
	at, from := uintptr(unsafe.Pointer(unsafe.StringData(a))), uintptr(unsafe.Pointer(unsafe.StringData(b)))
	return from <= at && at < from+uintptr(len(b))
}

func TestEach(t *testing.T) {
	l := append(make([]string, 0, 9), "a", "bc")
	if lens := copies.Each(l, func(s string) int { return len(s) }); !reflect.DeepEqual(lens, []int{1, 2}) || cap(lens) != 2 {
		t.Error(lens, cap(lens))
	}
	if l := copies.Each([]string{}, strings.Clone); l == nil || len(l) != 0 {
		t.Error("where the list is empty")
	}
	if copies.Each(nil, strings.Clone) != nil {
		t.Error("where there is no list")
	}
}

func TestValue(t *testing.T) {
	v := sample()
	w := copies.Value(v)
	if !reflect.DeepEqual(w, v) || cap(w.List) != 2 || cap(w.Keys) != 2 {
		t.Error(w)
	}
	if shares(w.Keys[0], v.Keys[0]) || shares(w.List[0].Text, v.List[0].Text) {
		t.Error("its texts are the value's")
	}
	clear(w.List)
	clear(w.Keys)
	if !reflect.DeepEqual(v, sample()) {
		t.Error(v)
	}
}

func TestStep(t *testing.T) {
	s := api.Step{Kind: api.StID, Text: "field", ID: "name", At: 7}
	if c := copies.Step(s); c != s || shares(c.Text, s.Text) || shares(c.ID, s.ID) {
		t.Error(c)
	}
}
