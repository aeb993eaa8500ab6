package tests

import (
	"reflect"
	"slices"
	"testing"
)

// watched is a list with filled room behind its end, so that a write into it or behind it is seen.
type watched[T any] struct {
	list, whole, before []T
}

func watch[T any](list []T, fill T) watched[T] {
	whole := slices.Concat(list, []T{fill, fill, fill, fill, fill})
	return watched[T]{whole[:len(list)], whole, slices.Clone(whole)}
}

// untouched asks whether the list is as it was, also when all of an answer is written over.
func untouched[T any](t *testing.T, what string, w watched[T]) {
	t.Helper()
	if !reflect.DeepEqual(w.whole, w.before) {
		t.Errorf("%s: an argument was written into, or shares memory with an answer", what)
	}
}

// scribble writes over all of an answer, spare room included.
func scribble[T any](list []T, fill T) {
	all := list[:cap(list)]
	for i := range all {
		all[i] = fill
	}
}

// span is where the elements of a list lie, those in its spare room included.
type span struct {
	from, to uintptr
}

// spansOf is where all lists of a value lie, also lists that are left in the spare room of others.
func spansOf(value any) []span {
	var spans []span
	walkLists(reflect.ValueOf(value), func(list reflect.Value) {
		from := list.Pointer()
		spans = append(spans, span{from, from + uintptr(list.Cap())*list.Type().Elem().Size()})
	})
	return spans
}

func walkLists(v reflect.Value, visit func(reflect.Value)) {
	switch v.Kind() {
	case reflect.Struct:
		for i := range v.NumField() {
			walkLists(v.Field(i), visit)
		}
	case reflect.Slice:
		if v.Cap() == 0 {
			return
		}
		visit(v)
		for i := range v.Cap() {
			walkLists(v.Slice(0, v.Cap()).Index(i), visit)
		}
	}
}

// apart asks whether no list of the answers lies where another one of them, or one of the arguments, lies.
func apart(t *testing.T, what string, answers []any, arguments ...any) {
	t.Helper()
	var own, others []span
	for _, a := range answers {
		own = append(own, spansOf(a)...)
	}
	for _, a := range arguments {
		others = append(others, spansOf(a)...)
	}
	for i, a := range own {
		for _, b := range slices.Concat(own[:i], others) {
			if a.from < b.to && b.from < a.to {
				t.Fatalf("%s: a list of the answer shares memory with another one, or with an argument", what)
			}
		}
	}
}

// roomy is a value with each of its lists laid anew, and the fill behind its end, as far as its type fits.
func roomy[T any](value T, fills ...any) T {
	v := reflect.New(reflect.TypeOf(value)).Elem()
	v.Set(reflect.ValueOf(value))
	makeRoom(v, fills)
	return v.Interface().(T)
}

func makeRoom(v reflect.Value, fills []any) {
	switch v.Kind() {
	case reflect.Struct:
		for i := range v.NumField() {
			makeRoom(v.Field(i), fills)
		}
	case reflect.Slice:
		const room = 3
		list := reflect.MakeSlice(v.Type(), v.Len()+room, v.Len()+room)
		reflect.Copy(list, v)
		for i := range v.Len() {
			makeRoom(list.Index(i), fills)
		}
		for _, fill := range fills {
			if reflect.TypeOf(fill) == v.Type().Elem() {
				for i := range room {
					list.Index(v.Len() + i).Set(reflect.ValueOf(fill))
				}
			}
		}
		v.Set(list.Slice(0, v.Len()))
	}
}

// wholeOf is a value laid anew with all its lists as long as their room, so that it can be held against itself later.
func wholeOf[T any](value T) T {
	v := reflect.New(reflect.TypeOf(value)).Elem()
	v.Set(reflect.ValueOf(value))
	takeWhole(v)
	return v.Interface().(T)
}

func takeWhole(v reflect.Value) {
	switch v.Kind() {
	case reflect.Struct:
		for i := range v.NumField() {
			takeWhole(v.Field(i))
		}
	case reflect.Slice:
		list := reflect.MakeSlice(v.Type(), v.Cap(), v.Cap())
		reflect.Copy(list, v.Slice(0, v.Cap()))
		for i := range list.Len() {
			takeWhole(list.Index(i))
		}
		v.Set(list)
	}
}
