package tests

import (
	"fmt"
	"reflect"
	"slices"
	"testing"
)

// handed is a value as a function is handed it: a copy, with room behind each slice, in which stands what nobody may touch.
func handed[T any](v T) T {
	return handedValue(reflect.ValueOf(v)).Interface().(T)
}

func handedValue(v reflect.Value) reflect.Value {
	list := reflect.New(v.Type()).Elem()
	switch v.Kind() {
	case reflect.Slice:
		for i := 0; i < v.Len(); i++ {
			list = reflect.Append(list, handedValue(v.Index(i)))
		}
		for i := 0; i < 3; i++ {
			list = reflect.Append(list, junk(v.Type().Elem()))
		}
		return list.Slice(0, v.Len())
	case reflect.Struct:
		for i := 0; i < v.NumField(); i++ {
			list.Field(i).Set(handedValue(v.Field(i)))
		}
		return list
	}
	return v
}

// junk is a value of which no part is 0 or empty, as far as that can be without slices.
func junk(kind reflect.Type) reflect.Value {
	v := reflect.New(kind).Elem()
	switch v.Kind() {
	case reflect.Int:
		v.SetInt(-77)
	case reflect.Bool:
		v.SetBool(true)
	case reflect.String:
		v.SetString("junk")
	case reflect.Struct:
		for i := 0; i < v.NumField(); i++ {
			v.Field(i).Set(junk(v.Field(i).Type()))
		}
	}
	return v
}

// wholeText tells all that values have, down to the room behind each slice.
func wholeText(list ...any) string {
	text := ""
	for _, v := range list {
		text += fmt.Sprintf("%+v\n", whole(reflect.ValueOf(v)))
	}
	return text
}

// whole is a copy in which each slice is as long as its memory.
func whole(v reflect.Value) reflect.Value {
	all := reflect.New(v.Type()).Elem()
	switch v.Kind() {
	case reflect.Slice:
		for i := 0; i < v.Cap(); i++ {
			all = reflect.Append(all, whole(v.Slice(0, v.Cap()).Index(i)))
		}
		return all
	case reflect.Struct:
		for i := 0; i < v.NumField(); i++ {
			all.Field(i).Set(whole(v.Field(i)))
		}
		return all
	}
	return v
}

// piece is where in memory a slice is, with the room behind it.
type piece struct {
	low, end uintptr
}

// piecesOf are the pieces of all slices that a value has.
func piecesOf(v reflect.Value) []piece {
	var list []piece
	switch v.Kind() {
	case reflect.Slice:
		if long := uintptr(v.Cap()) * v.Type().Elem().Size(); long > 0 {
			list = append(list, piece{v.Pointer(), v.Pointer() + long})
		}
		for i := 0; i < v.Cap(); i++ {
			list = append(list, piecesOf(v.Slice(0, v.Cap()).Index(i))...)
		}
	case reflect.Struct:
		for i := 0; i < v.NumField(); i++ {
			list = append(list, piecesOf(v.Field(i))...)
		}
	}
	return list
}

func overlaps(a piece, list []piece) bool {
	return slices.ContainsFunc(list, func(b piece) bool { return a.low < b.end && b.low < a.end })
}

// shared reports whether answers have memory of each other, of their own parts, or of others.
func shared(answers []any, others []any) bool {
	var told, had []piece
	for _, v := range answers {
		told = append(told, piecesOf(reflect.ValueOf(v))...)
	}
	for _, v := range others {
		had = append(had, piecesOf(reflect.ValueOf(v))...)
	}
	for i, a := range told {
		if overlaps(a, told[:i]) || overlaps(a, had) {
			return true
		}
	}
	return false
}

// checkMemory holds against the general rules what a function was handed, as it was before, and what it answered.
func checkMemory(t *testing.T, what string, was string, args []any, answers []any) {
	t.Helper()
	if wholeText(args...) != was {
		t.Fatalf("%s wrote into its arguments: %s became %s", what, was, wholeText(args...))
	}
	if shared(answers, args) {
		t.Fatalf("%s shares memory: %v of %v", what, answers, args)
	}
}

// The checks of memory see what they are for.
func TestMemoryIsSeen(t *testing.T) {
	type row struct {
		Numbers []int
		Text    string
	}
	list := handed([]row{{Numbers: []int{1, 2}, Text: "a"}, {}})
	was := wholeText(list)
	if shared([]any{list}, []any{handed(list)}) || wholeText(handed(list)) != was || len(list) != 2 || cap(list[0].Numbers) < 5 {
		t.Error("a copy is none")
	}
	behind := append(list[1].Numbers, 5)
	if wholeText(list) == was || !shared([]any{behind}, []any{list}) {
		t.Error("what was written behind a slice is not seen")
	}
	if !shared([]any{list[0].Numbers}, []any{list}) || !shared([]any{list[:1], list[1:]}, nil) {
		t.Error("what is shared is not seen")
	}
	if !shared([]any{[]row{list[0], list[0]}}, nil) || !shared([]any{list[:0]}, []any{list[1:]}) {
		t.Error("what is shared within an answer is not seen")
	}
}
