package tests

import (
	"reflect"
	"slices"
	"testing"
)

// watched is a list with filled room behind its end, so that a write into it or behind it is seen.
type watched[T any] struct {
	list, whole, before []T
}

func watch[T any](list []T, fill T) watched[T] {
	whole := slices.Concat(list, []T{fill, fill, fill, fill, fill})
	return watched[T]{whole[:len(list)], whole, slices.Clone(whole)}
}

// untouched asks whether the list is as it was, also when all of an answer is written over.
func untouched[T any](t *testing.T, what string, w watched[T]) {
	t.Helper()
	if !reflect.DeepEqual(w.whole, w.before) {
		t.Errorf("%s: an argument was written into, or shares memory with an answer", what)
	}
}

// scribble writes over all of an answer, spare room included.
func scribble[T any](list []T, fill T) {
	all := list[:cap(list)]
	for i := range all {
		all[i] = fill
	}
}
