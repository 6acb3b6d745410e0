package keep_test

import "reflect"

// This file copies, compares and overwrites values of all types, with the slices in them.

// mark returns a value that no argument and no result contains.
func mark(of reflect.Type) reflect.Value {
	v := reflect.New(of).Elem()
	switch of.Kind() {
	case reflect.String:
		v.SetString("mark")
	case reflect.Int:
		v.SetInt(-77)
	case reflect.Struct:
		for i := range of.NumField() {
			v.Field(i).Set(mark(of.Field(i).Type))
		}
	}
	return v
}

// copied returns a copy of v. Its slices have room for one more item, which is a mark; those without items are nil or empty.
func copied[T any](v T, empty bool) T {
	c := reflect.New(reflect.TypeFor[T]()).Elem()
	copyTo(c, reflect.ValueOf(v), empty)
	return c.Interface().(T)
}

func copyTo(to, v reflect.Value, empty bool) {
	switch v.Kind() {
	case reflect.Slice:
		n := v.Len()
		if n == 0 && !empty {
			return
		}
		l := reflect.MakeSlice(v.Type(), n+1, n+1)
		for i := range n {
			copyTo(l.Index(i), v.Index(i), empty)
		}
		l.Index(n).Set(mark(v.Type().Elem()))
		to.Set(l.Slice(0, n))
	case reflect.Struct:
		for i := range v.NumField() {
			copyTo(to.Field(i), v.Field(i), empty)
		}
	default:
		to.Set(v)
	}
}

// lists calls see for each slice in v, those within others first.
func lists(v reflect.Value, see func(l reflect.Value)) {
	switch v.Kind() {
	case reflect.Slice:
		for i := range v.Len() {
			lists(v.Index(i), see)
		}
		see(v)
	case reflect.Struct:
		for i := range v.NumField() {
			lists(v.Field(i), see)
		}
	}
}

// marked reports whether the marks of a copy are still there.
func marked(v any) bool {
	is := true
	lists(reflect.ValueOf(v), func(l reflect.Value) {
		if n := l.Len(); l.Cap() > n {
			is = is && same(l.Slice(0, n+1).Index(n), mark(l.Type().Elem()))
		}
	})
	return is
}

// scribble overwrites the memory of all slices in v, up to their capacity.
func scribble(v any) {
	lists(reflect.ValueOf(v), overwrite)
}

func overwrite(l reflect.Value) {
	for i := range l.Cap() {
		l.Slice(0, l.Cap()).Index(i).Set(mark(l.Type().Elem()))
	}
}

// equal reports whether two values are the same; nil and empty slices are.
func equal(a, b any) bool {
	return same(reflect.ValueOf(a), reflect.ValueOf(b))
}

func same(a, b reflect.Value) bool {
	switch a.Kind() {
	case reflect.Slice:
		if a.Len() != b.Len() {
			return false
		}
		for i := range a.Len() {
			if !same(a.Index(i), b.Index(i)) {
				return false
			}
		}
		return true
	case reflect.Struct:
		for i := range a.NumField() {
			if !same(a.Field(i), b.Field(i)) {
				return false
			}
		}
		return true
	}
	return a.Interface() == b.Interface()
}

// apart reports whether no two slices in v share memory: the memory of each one in turn is overwritten, and a copy takes its place.
func apart[T any](v T) bool {
	want := copied(v, false)
	is := true
	lists(reflect.ValueOf(&v).Elem(), func(l reflect.Value) {
		kept := reflect.MakeSlice(l.Type(), l.Len(), l.Len())
		reflect.Copy(kept, l)
		overwrite(l)
		l.Set(kept)
		is = is && equal(v, want)
	})
	return is
}
