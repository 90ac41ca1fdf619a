package tests

import (
	"cmp"
	"fmt"
	"reflect"
	"slices"
	"strings"
	"testing"
)

// What the conventions ask of every call: nothing is written into an argument
// or into the room behind its lists, an answer is new memory, no two lists of
// it share any, and the same arguments give the same answers.

func keeps(t *testing.T, call any, args ...any) {
	t.Helper()
	if fault := faultOf(call, args); fault != "" {
		t.Fatal(fault)
	}
}

// faultOf calls a function twice and overwrites the first answer in between.
func faultOf(call any, args []any) string {
	var given []reflect.Value
	for _, arg := range args {
		given = append(given, withRoom(reflect.ValueOf(arg)))
	}
	before := pictureOf(given, true)
	first := reflect.ValueOf(call).Call(given)
	told := pictureOf(first, false)
	all := spansOf(slices.Concat(given, first))
	slices.SortFunc(all, func(a, b span) int { return cmp.Compare(a.from, b.from) })
	for i := 1; i < len(all); i++ {
		if all[i].from < all[i-1].end {
			return "an answer shares memory: " + short(told) + " of " + short(before)
		}
	}
	for _, answer := range first {
		overwrite(answer)
	}
	if after := pictureOf(given, true); after != before {
		return before + " became " + after
	}
	if again := pictureOf(reflect.ValueOf(call).Call(given), false); again != told {
		return short(told) + ", then " + short(again)
	}
	return ""
}

// withRoom is a copy with room behind each list, full of what no call may touch.
func withRoom(v reflect.Value) reflect.Value {
	out := reflect.New(v.Type()).Elem()
	switch v.Kind() {
	case reflect.Struct:
		for i := range v.NumField() {
			out.Field(i).Set(withRoom(v.Field(i)))
		}
	case reflect.Slice:
		out.Set(reflect.MakeSlice(v.Type(), v.Len()+2, v.Len()+2))
		for i := range v.Len() {
			out.Index(i).Set(withRoom(v.Index(i)))
		}
		overwrite(out.Slice(v.Len(), v.Len()+2))
		out.Set(out.Slice(0, v.Len()))
	default:
		out.Set(v)
	}
	return out
}

// overwrite writes over all that is in a value, and into the room behind its lists.
func overwrite(v reflect.Value) {
	switch v.Kind() {
	case reflect.Struct:
		for i := range v.NumField() {
			if v.Field(i).CanSet() || v.Field(i).Kind() == reflect.Slice || v.Field(i).Kind() == reflect.Struct {
				overwrite(v.Field(i))
			}
		}
	case reflect.Slice:
		v = v.Slice(0, v.Cap())
		for i := range v.Len() {
			overwrite(v.Index(i))
		}
	case reflect.Int64:
		if v.CanSet() {
			v.SetInt(-77)
		}
	case reflect.Uint64:
		if v.CanSet() {
			v.SetUint(spareWord)
		}
	case reflect.Uint8:
		if v.CanSet() {
			v.SetUint(0xee)
		}
	case reflect.String:
		if v.CanSet() {
			v.SetString("spare")
		}
	case reflect.Bool:
		if v.CanSet() {
			v.SetBool(!v.Bool())
		}
	}
}

func pictureOf(list []reflect.Value, room bool) string {
	var out strings.Builder
	for _, v := range list {
		picture(&out, v, room)
	}
	return out.String()
}

func picture(out *strings.Builder, v reflect.Value, room bool) {
	switch v.Kind() {
	case reflect.Struct:
		out.WriteByte('{')
		for i := range v.NumField() {
			picture(out, v.Field(i), room)
		}
		out.WriteByte('}')
	case reflect.Slice:
		if room {
			v = v.Slice(0, v.Cap())
		}
		out.WriteByte('[')
		for i := range v.Len() {
			picture(out, v.Index(i), room)
		}
		out.WriteByte(']')
	default:
		fmt.Fprint(out, v, " ")
	}
}

// span is the memory of a list, with the room behind it.
type span struct{ from, end uintptr }

func spansOf(list []reflect.Value) []span {
	var spans []span
	for _, v := range list {
		switch v.Kind() {
		case reflect.Struct:
			for i := range v.NumField() {
				spans = append(spans, spansOf([]reflect.Value{v.Field(i)})...)
			}
		case reflect.Slice:
			if v.Cap() > 0 {
				spans = append(spans, span{v.Pointer(), v.Pointer() + uintptr(v.Cap())*v.Type().Elem().Size()})
			}
			for i := range v.Len() {
				spans = append(spans, spansOf([]reflect.Value{v.Index(i)})...)
			}
		}
	}
	return spans
}

// The check itself is checked: each fault that it is there for is made once.
func TestKeepsSeesFaults(t *testing.T) {
	kept := []int64{1, 2}
	for what, call := range map[string]any{
		"writes":            func(a []int64) []int64 { a[0] = 5; return nil },
		"writes behind":     func(a []int64) []int64 { _ = append(a, 5); return nil },
		"hands back":        func(a []int64) []int64 { return a },
		"hands back a part": func(a []int64) []int64 { return a[1:] },
		"shares":            func(a []int64) ([]int64, []int64) { b := make([]int64, 2); return b[:1], b[1:] },
		"hands out its own": func(a []int64) []int64 { return kept },
	} {
		if faultOf(call, []any{[]int64{3, 4, 5}}) == "" {
			t.Errorf("%s: not seen", what)
		}
	}
	keeps(t, func(a []int64) []int64 { return slices.Clone(a) }, []int64{3, 4, 5})
}
