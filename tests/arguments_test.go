package tests

import (
	"cmp"
	"fmt"
	"math"
	"reflect"
	"runtime"
	"slices"
	"testing"
)

// numberPool has numbers of any size and sign, and those at both sides of each limit.
func numberPool() []int {
	return []int{
		math.MinInt, math.MinInt + 1, math.MinInt32, -13, -2, -1, 0, 1, 2, 3, 4, 5, 6, 7, 8, 9,
		10, 11, 12, 13, 14, 1000, math.MaxInt32, math.MaxInt - 1, math.MaxInt,
	}
}

// checkCall calls a function with arguments whose slices have spare capacity, writes over its results and calls it again, and
// once more without spare capacity. It tells a panic, a changed argument, memory that a result shares with an argument or
// with another result, results of a failed call that are not zero, and calls that differ.
func checkCall(t *testing.T, name string, function any, arguments ...any) {
	t.Helper()
	defer func() {
		if r := recover(); r != nil {
			t.Errorf("%s of %s: panic: %v", name, shortly(arguments), r)
		}
	}()
	call := reflect.ValueOf(function).Call
	var given, before, tight []reflect.Value
	for _, argument := range arguments {
		v := withSpare(reflect.ValueOf(argument))
		given = append(given, v)
		before = append(before, copied(v, true))
		tight = append(tight, copied(v, false))
	}
	results := call(given)
	first := copiedAll(results, false)
	if last := len(first) - 1; !first[last].Bool() && !allZero(first[:last]) {
		t.Errorf("%s of %s fails with a result", name, shortly(arguments))
	}
	scribbleAll(results)
	if !sameAll(copiedAll(given, true), before) {
		t.Errorf("%s of %s changes an argument", name, shortly(arguments))
	}
	again := call(given)
	if !sameAll(copiedAll(again, false), first) {
		t.Errorf("%s of %s has another result when it is called again", name, shortly(arguments))
	}
	if !sameAll(copiedAll(call(tight), false), first) {
		t.Errorf("%s of %s has another result without spare capacity", name, shortly(arguments))
	}
	if overlap(spansOfAll(slices.Concat(given, results, again))) {
		t.Errorf("%s of %s shares memory", name, shortly(arguments))
	}
	// Memory that is given back could be used by a later call.
	runtime.KeepAlive(given)
	runtime.KeepAlive(results)
}

func shortly(arguments []any) string {
	text := fmt.Sprintf("%v", arguments)
	return text[:min(len(text), 200)]
}

// withSpare copies a value; behind the length of each of its slices there is room that is filled.
func withSpare(v reflect.Value) reflect.Value {
	switch v.Kind() {
	case reflect.Slice:
		if v.IsNil() {
			return v
		}
		out := reflect.MakeSlice(v.Type(), v.Len()+3, v.Len()+3)
		for i := range v.Len() {
			out.Index(i).Set(withSpare(v.Index(i)))
		}
		for i := v.Len(); i < out.Len(); i++ {
			fill(out.Index(i))
		}
		return out.Slice(0, v.Len())
	case reflect.Struct:
		out := reflect.New(v.Type()).Elem()
		for i := range v.NumField() {
			out.Field(i).Set(withSpare(v.Field(i)))
		}
		return out
	}
	return v
}

// fill sets a value that no program is likely to write there.
func fill(v reflect.Value) {
	switch v.Kind() {
	case reflect.Int:
		v.SetInt(-987654321)
	case reflect.String:
		v.SetString("filled")
	case reflect.Slice:
		v.Set(reflect.MakeSlice(v.Type(), 1, 1))
		fill(v.Index(0))
	case reflect.Struct:
		for i := range v.NumField() {
			fill(v.Field(i))
		}
	}
}

// copied takes the same value for a nil slice and an empty one; all of a slice is what is behind its length, too.
func copied(v reflect.Value, all bool) reflect.Value {
	out := reflect.New(v.Type()).Elem()
	switch v.Kind() {
	case reflect.Slice:
		if all {
			v = v.Slice(0, v.Cap())
		}
		if v.Len() == 0 {
			return out
		}
		out.Set(reflect.MakeSlice(v.Type(), v.Len(), v.Len()))
		for i := range v.Len() {
			out.Index(i).Set(copied(v.Index(i), all))
		}
	case reflect.Struct:
		for i := range v.NumField() {
			out.Field(i).Set(copied(v.Field(i), all))
		}
	default:
		out.Set(v)
	}
	return out
}

func copiedAll(values []reflect.Value, all bool) []reflect.Value {
	var out []reflect.Value
	for _, v := range values {
		out = append(out, copied(v, all))
	}
	return out
}

func sameAll(values []reflect.Value, others []reflect.Value) bool {
	return slices.EqualFunc(values, others, func(v reflect.Value, w reflect.Value) bool {
		return reflect.DeepEqual(v.Interface(), w.Interface())
	})
}

func allZero(values []reflect.Value) bool {
	for _, v := range values {
		if !v.IsZero() {
			return false
		}
	}
	return true
}

func scribbleAll(values []reflect.Value) {
	for _, v := range values {
		scribble(v)
	}
}

// scribble writes over all memory that a result gives out.
func scribble(v reflect.Value) {
	switch v.Kind() {
	case reflect.Slice:
		v = v.Slice(0, v.Cap())
		for i := range v.Len() {
			if v.Index(i).Kind() == reflect.Slice {
				scribble(v.Index(i))
			} else {
				fill(v.Index(i))
			}
		}
	case reflect.Struct:
		for i := range v.NumField() {
			scribble(v.Field(i))
		}
	}
}

// A span is the memory of a slice, up to its capacity.
type span struct {
	from, to uintptr
}

func spansOf(v reflect.Value) []span {
	var out []span
	switch v.Kind() {
	case reflect.Slice:
		if v.Cap() > 0 {
			from := v.Pointer()
			out = append(out, span{from, from + uintptr(v.Cap())*v.Type().Elem().Size()})
		}
		for i := range v.Len() {
			out = append(out, spansOf(v.Index(i))...)
		}
	case reflect.Struct:
		for i := range v.NumField() {
			out = append(out, spansOf(v.Field(i))...)
		}
	}
	return out
}

func spansOfAll(values []reflect.Value) []span {
	var out []span
	for _, v := range values {
		out = append(out, spansOf(v)...)
	}
	return out
}

func overlap(spans []span) bool {
	slices.SortFunc(spans, func(a span, b span) int { return cmp.Compare(a.from, b.from) })
	for i := 1; i < len(spans); i++ {
		if spans[i].from < spans[i-1].to {
			return true
		}
	}
	return false
}
