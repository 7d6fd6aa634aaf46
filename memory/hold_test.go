// Package memory_test holds what DOC.md's P2 asks of calls against them by reflection, the same way for every layer:
// what is handed in stays as it was, and an answer shares no memory with it, with another answer or within itself.
package memory_test

import (
	"bytes"
	"cmp"
	"reflect"
	"slices"
	"testing"

	"transept/api"
)

// room is how many elements more than it tells a list has that is handed in: who writes behind its end is seen there.
const room = 80

// teller is as much of a test as hold needs, so that hold can be tried on calls that keep nothing.
type teller interface {
	Helper()
	Errorf(format string, args ...any)
}

// hold calls f twice with copies of args, and tells what of P2, P3 and P4 the answers do not keep.
func hold(t teller, what string, f any, args ...any) {
	t.Helper()
	var seen []reflect.Value
	var told [2][]reflect.Value
	for i := range told {
		given := roomy(args)
		before := whole(given)
		told[i] = reflect.ValueOf(f).Call(given)
		if !reflect.DeepEqual(whole(given), before) {
			t.Errorf("%s: what was handed in has changed", what)
		}
		seen = append(append(seen, given...), told[i]...)
	}
	if !reflect.DeepEqual(plain(told[0]), plain(told[1])) {
		t.Errorf("%s: the same arguments, another answer", what)
	}
	if shared(seen) {
		t.Errorf("%s: an answer shares memory with what was handed in, with another answer, or within itself", what)
	}
	last := told[0][len(told[0])-1]
	if err, ok := last.Interface().(api.Errno); ok && err != api.OK {
		for _, v := range told[0][:len(told[0])-1] {
			if !empty(v) {
				t.Errorf("%s: beside error %d something else is told", what, err)
			}
		}
	}
}

// roomy answers the arguments in memory of their own, each list with room behind it.
func roomy(args []any) []reflect.Value {
	var l []reflect.Value
	for _, a := range args {
		l = append(l, copied(reflect.ValueOf(a), room, false))
	}
	return l
}

// whole answers all that lists hold, the room behind them too.
func whole(l []reflect.Value) []any {
	var all []any
	for _, v := range l {
		all = append(all, copied(v, 0, true).Interface())
	}
	return all
}

// plain answers the values with no list of nil: nil and empty lists are one.
func plain(l []reflect.Value) []any {
	var all []any
	for _, v := range l {
		all = append(all, copied(v, 0, false).Interface())
	}
	return all
}

// copied answers v in memory of its own, each list with so many elements of room, and with its own room if deep.
func copied(v reflect.Value, room int, deep bool) reflect.Value {
	c := reflect.New(v.Type()).Elem()
	c.Set(v)
	switch v.Kind() {
	case reflect.Slice:
		if deep {
			v = v.Slice(0, v.Cap())
		}
		c.Set(reflect.MakeSlice(v.Type(), v.Len()+room, v.Len()+room))
		reflect.Copy(c, v)
		for i := 0; i < v.Len() && !scalar(v.Type().Elem()); i++ {
			c.Index(i).Set(copied(v.Index(i), room, deep))
		}
		for i := v.Len(); i < c.Len(); i++ {
			mark(c.Index(i))
		}
		c.SetLen(v.Len())
	case reflect.Array:
		for i := range v.Len() {
			c.Index(i).Set(copied(v.Index(i), room, deep))
		}
	case reflect.Struct:
		for i := range v.NumField() {
			c.Field(i).Set(copied(v.Field(i), room, deep))
		}
	}
	return c
}

// mark lays something into v that no call would leave there by chance.
func mark(v reflect.Value) {
	switch {
	case v.CanInt():
		v.SetInt(0x5a)
	case v.CanUint():
		v.SetUint(0xa5)
	case v.Kind() == reflect.String:
		v.SetString("behind")
	case v.Kind() == reflect.Bool:
		v.SetBool(true)
	case v.Kind() == reflect.Slice:
		v.Set(reflect.MakeSlice(v.Type(), 1, 1))
		mark(v.Index(0))
	case v.Kind() == reflect.Array:
		for i := range v.Len() {
			mark(v.Index(i))
		}
	case v.Kind() == reflect.Struct:
		for i := range v.NumField() {
			mark(v.Field(i))
		}
	}
}

// span is where a list's memory begins and ends.
type span struct{ from, to uintptr }

// spans answers the memory of all lists in v, each up to its capacity.
func spans(v reflect.Value) []span {
	var l []span
	switch v.Kind() {
	case reflect.Slice:
		v = v.Slice(0, v.Cap())
		if size := uintptr(v.Cap()) * v.Type().Elem().Size(); size > 0 {
			l = append(l, span{v.Pointer(), v.Pointer() + size})
		}
		if scalar(v.Type().Elem()) {
			return l
		}
		for i := range v.Len() {
			l = append(l, spans(v.Index(i))...)
		}
	case reflect.Array:
		for i := range v.Len() {
			l = append(l, spans(v.Index(i))...)
		}
	case reflect.Struct:
		for i := range v.NumField() {
			l = append(l, spans(v.Field(i))...)
		}
	}
	return l
}

// scalar tells whether a value of that type has no list in it.
func scalar(t reflect.Type) bool {
	switch t.Kind() {
	case reflect.Slice, reflect.Array, reflect.Struct:
		return false
	}
	return true
}

// shared tells whether two lists of all these values share memory.
func shared(l []reflect.Value) bool {
	var all []span
	for _, v := range l {
		all = append(all, spans(v)...)
	}
	slices.SortFunc(all, func(a, b span) int { return cmp.Compare(a.from, b.from) })
	for i := 1; i < len(all); i++ {
		if all[i].from < all[i-1].to {
			return true
		}
	}
	return false
}

// empty tells whether v is zero, nil and empty lists being one.
func empty(v reflect.Value) bool {
	switch v.Kind() {
	case reflect.Slice:
		return v.Len() == 0
	case reflect.Struct:
		for i := range v.NumField() {
			if !empty(v.Field(i)) {
				return false
			}
		}
		return true
	}
	return v.IsZero()
}

// counter counts what it is told.
type counter struct{ told int }

func (c *counter) Helper()               {}
func (c *counter) Errorf(string, ...any) { c.told++ }

// TestHold: a call that keeps P2 passes, and each way to break it is told.
func TestHold(t *testing.T) {
	type pair struct{ A, B []byte }
	calls := 0
	for _, c := range []struct {
		what string
		f    any
		bad  bool
	}{
		{"a copy", func(b []byte) []byte { return bytes.Clone(b) }, false},
		{"nothing", func(b []byte) []byte { return nil }, false},
		{"two copies", func(b []byte) pair { return pair{bytes.Clone(b), bytes.Clone(b)} }, false},
		{"an error alone", func(b []byte) ([]byte, api.Errno) { return []byte{}, api.ErrArg }, false},
		{"the argument", func(b []byte) []byte { return b }, true},
		{"its beginning", func(b []byte) []byte { return b[:1] }, true},
		{"what is behind it", func(b []byte) []byte { return b[len(b) : len(b)+1] }, true},
		{"changed", func(b []byte) []byte { b[0]++; return nil }, true},
		{"written behind", func(b []byte) int { return len(append(b, 1)) }, true},
		{"one list twice", func(b []byte) pair { b = bytes.Clone(b); return pair{b, b} }, true},
		{"pieces of one list", func(b []byte) pair { b = bytes.Clone(b); return pair{b[:1], b[1:]} }, true},
		{"another answer", func(b []byte) int { calls++; return calls }, true},
		{"beside an error", func(b []byte) ([]byte, api.Errno) { return []byte{1}, api.ErrArg }, true},
	} {
		var n counter
		hold(&n, c.what, c.f, []byte("argument"))
		if (n.told > 0) != c.bad {
			t.Errorf("hold tells %d of: %s", n.told, c.what)
		}
	}
}
