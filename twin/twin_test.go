package twin

import (
	"reflect"
	"testing"

	"pleach/api"
)

// fill gives all lists in v two things each, and all numbers and texts a value of their own.
func fill(v reflect.Value, next *int64) {
	*next++
	switch v.Kind() {
	case reflect.Struct:
		for i := range v.NumField() {
			fill(v.Field(i), next)
		}
	case reflect.Slice:
		v.Set(reflect.MakeSlice(v.Type(), 2, 4))
		for i := range 4 {
			fill(v.Slice(0, 4).Index(i), next)
		}
	case reflect.Int:
		v.SetInt(*next)
	case reflect.String:
		v.SetString(string(rune(*next)))
	case reflect.Bool:
		v.SetBool(true)
	}
}

// wipe makes all that v has nought, over its lists' spare room too.
func wipe(v reflect.Value) {
	switch v.Kind() {
	case reflect.Struct:
		for i := range v.NumField() {
			wipe(v.Field(i))
		}
	case reflect.Slice:
		for i := range v.Cap() {
			wipe(v.Slice(0, v.Cap()).Index(i))
		}
	default:
		v.SetZero()
	}
}

// check fills a T, and looks whether its twin is alike, and stays so when the other one is wiped.
func check[T any](t *testing.T, twin func(T) T) {
	t.Helper()
	make1 := func() T {
		var x T
		var n int64
		fill(reflect.ValueOf(&x).Elem(), &n)
		return x
	}
	x := make1()
	got := twin(x)
	if !reflect.DeepEqual(got, make1()) {
		t.Errorf("%T: it is another one", x)
	}
	wipe(reflect.ValueOf(&got).Elem())
	if !reflect.DeepEqual(x, make1()) {
		t.Errorf("%T: its twin shares its memory", x)
	}
	x = make1()
	got = twin(x)
	wipe(reflect.ValueOf(&x).Elem())
	if !reflect.DeepEqual(got, make1()) {
		t.Errorf("%T: it shares its twin's memory", x)
	}
	var none T
	if !reflect.DeepEqual(twin(none), none) {
		t.Errorf("%T: nought", x)
	}
}

func TestTwins(t *testing.T) {
	check(t, Clusters)
	check(t, Hier)
	check(t, Feed)
	check(t, Tie)
	check(t, Node)
	check(t, World)
	if len(World(api.World{Nodes: []api.Node{}}).Nodes) != 0 {
		t.Error("an empty list")
	}
}
