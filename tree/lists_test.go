package tree_test

import (
	"reflect"
	"slices"
	"testing"
)

// These walk through values of any type, so that no field of package api is forgotten.

// leaf is a field, or an element, of a value that has lists: a number, a string, a bool or a list.
type leaf struct {
	path  string
	value reflect.Value
}

// leaves are all of them within the value that p points to.
func leaves(p any) []leaf {
	var list []leaf
	var walk func(path string, v reflect.Value)
	walk = func(path string, v reflect.Value) {
		switch v.Kind() {
		case reflect.Struct:
			for i := range v.NumField() {
				walk(path+"."+v.Type().Field(i).Name, v.Field(i))
			}
			return
		case reflect.Slice:
			for i := range v.Len() {
				walk(path+"[]", v.Index(i))
			}
		}
		list = append(list, leaf{path, v})
	}
	walk("", reflect.ValueOf(p).Elem())
	return list
}

// copyOf is a copy of a value, whose lists have room for more items behind them; the room is filled with the first items.
func copyOf[T any](value T, more int) T {
	return copyValue(reflect.ValueOf(&value).Elem(), more).Interface().(T)
}

func copyValue(v reflect.Value, more int) reflect.Value {
	c := reflect.New(v.Type()).Elem()
	switch v.Kind() {
	case reflect.Struct:
		for i := range v.NumField() {
			c.Field(i).Set(copyValue(v.Field(i), more))
		}
		return c
	case reflect.Slice:
		if v.IsNil() && more == 0 {
			return c
		}
		c.Set(reflect.MakeSlice(v.Type(), v.Len()+more, v.Len()+more))
		for i := range c.Len() {
			if i < v.Len() {
				c.Index(i).Set(copyValue(v.Index(i), more))
			} else if v.Len() > 0 {
				c.Index(i).Set(copyValue(v.Index(i%v.Len()), 0))
			}
		}
		return c.Slice(0, v.Len())
	}
	c.Set(v)
	return c
}

// whole is the value with all of its lists as long as their capacity.
func whole[T any](value T) T {
	c := copyOf(value, 0)
	var stretch func(to, from reflect.Value)
	stretch = func(to, from reflect.Value) {
		switch from.Kind() {
		case reflect.Struct:
			for i := range from.NumField() {
				stretch(to.Field(i), from.Field(i))
			}
		case reflect.Slice:
			from = from.Slice(0, from.Cap())
			to.Set(copyValue(from, 0))
			for i := range from.Len() {
				stretch(to.Index(i), from.Index(i))
			}
		}
	}
	stretch(reflect.ValueOf(&c).Elem(), reflect.ValueOf(&value).Elem())
	return c
}

// scribble changes each number, string and bool within the lists of a value, and what stands in the room behind the lists.
func scribble[T any](value T) {
	v := reflect.ValueOf(&value).Elem()
	var walk func(v reflect.Value)
	walk = func(v reflect.Value) {
		switch v.Kind() {
		case reflect.Struct:
			for i := range v.NumField() {
				walk(v.Field(i))
			}
		case reflect.Slice:
			for i := range v.Cap() {
				walk(v.Slice(0, v.Cap()).Index(i))
			}
			v.Set(reflect.Zero(v.Type())) // in the value only, or within a list that is told by now
		case reflect.String:
			v.SetString(v.String() + "!")
		case reflect.Bool:
			v.SetBool(!v.Bool())
		default:
			v.SetInt(v.Int() + 1000)
		}
	}
	walk(v)
}

// span is the memory of a list with its capacity.
type span struct{ from, to uintptr }

func spans(values ...any) []span {
	var list []span
	var walk func(v reflect.Value)
	walk = func(v reflect.Value) {
		switch v.Kind() {
		case reflect.Struct:
			for i := range v.NumField() {
				walk(v.Field(i))
			}
		case reflect.Slice:
			if v.Cap() > 0 {
				from := v.Pointer()
				list = append(list, span{from, from + uintptr(v.Cap())*v.Type().Elem().Size()})
			}
			for i := range v.Len() {
				walk(v.Index(i))
			}
		}
	}
	for _, value := range values {
		walk(reflect.ValueOf(value))
	}
	return list
}

// apart checks that no two lists of these values share memory.
func apart(t *testing.T, what string, values ...any) {
	t.Helper()
	list := spans(values...)
	slices.SortFunc(list, func(a, b span) int {
		if a.from < b.from {
			return -1
		}
		return 1
	})
	for i := 1; i < len(list); i++ {
		if list[i].from < list[i-1].to {
			t.Errorf("%s: two lists share memory", what)
			return
		}
	}
}

// plain is the value with nil in the place of each empty list.
func plain[T any](value T) T {
	c := copyOf(value, 0)
	for _, l := range leaves(&c) {
		if l.value.Kind() == reflect.Slice && l.value.Len() == 0 {
			l.value.SetZero()
		}
	}
	return c
}

func equal[T any](a, b T) bool {
	return reflect.DeepEqual(plain(a), plain(b))
}
