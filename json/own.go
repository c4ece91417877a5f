package json

import (
	"iter"
	"strings"

	"lantern/api"
)

// object is what a value of that kind is within.
type object struct {
	names []string
	list  []api.Value
}

// own is a value as one of Go's own types: nil, a bool, an int64, a string, a list of values,
// or an object. It throws, if there is no such kind.
func own(v api.Value) any {
	switch v.Kind {
	case api.ValueNull:
		return nil
	case api.ValueBool:
		return v.Num == 1
	case api.ValueNumber:
		return v.Num
	case api.ValueText:
		return v.Text
	case api.ValueList:
		return v.List
	case api.ValueObject:
		return object{v.Names, v.List}
	}
	panic(api.ErrArg)
}

// told is the value that is so within.
func told(x any) api.Value {
	switch x := x.(type) {
	case bool:
		if x {
			return api.Value{Kind: api.ValueBool, Num: 1}
		}
		return api.Value{Kind: api.ValueBool}
	case int64:
		return api.Value{Kind: api.ValueNumber, Num: x}
	case string:
		return api.Value{Kind: api.ValueText, Text: x}
	case []api.Value:
		return api.Value{Kind: api.ValueList, List: x}
	case object:
		return api.Value{Kind: api.ValueObject, List: x.list, Names: x.names}
	}
	return api.Value{Kind: api.ValueNull}
}

// isNest tells whether a value is a list or an object.
func isNest(v api.Value) bool {
	return v.Kind == api.ValueList || v.Kind == api.ValueObject
}

// within goes through a value and all that are in it, in order, each with how deep it is.
// It calls itself nowhere: what is handed in may be nested deeper than calls may be.
func within(v api.Value) iter.Seq2[int, api.Value] {
	return func(yield func(int, api.Value) bool) {
		left := [][]api.Value{{v}}
		for len(left) > 0 {
			top := len(left) - 1
			if len(left[top]) == 0 {
				left = left[:top]
				continue
			}
			next := left[top][0]
			left[top] = left[top][1:]
			if !yield(len(left), next) {
				return
			}
			if isNest(next) {
				left = append(left, next.List)
			}
		}
	}
}

// renewed is a value that shares no memory with the one it was taken from.
func renewed(v api.Value) api.Value {
	top := []api.Value{v}
	left := [][]api.Value{top}
	for len(left) > 0 {
		last := len(left) - 1
		level := left[last]
		left = left[:last]
		for i := range level {
			level[i] = renewedAlone(level[i])
			if len(level[i].List) > 0 {
				left = append(left, level[i].List)
			}
		}
	}
	return top[0]
}

// renewedAlone is a value whose lists and texts are new ones; those of the values in it are not yet.
func renewedAlone(v api.Value) api.Value {
	var names []string
	for _, name := range v.Names {
		names = append(names, strings.Clone(name))
	}
	return api.Value{
		Kind:  v.Kind,
		Num:   v.Num,
		Text:  strings.Clone(v.Text),
		List:  append([]api.Value(nil), v.List...),
		Names: names,
	}
}
