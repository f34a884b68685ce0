package win

import (
	"slices"
	"testing"

	"pleach/api"
)

// of tells items of these numbers, each with a text of its own.
func of(seqs ...int) []api.Item {
	var l []api.Item
	for _, n := range seqs {
		l = append(l, api.Item{Seq: n, Text: "t" + string(rune('a'+n%26))})
	}
	return l
}

func TestPut(t *testing.T) {
	for _, x := range []struct {
		l         []api.Item
		next, seq int
		want      []api.Item
		ok        bool
	}{
		{nil, 2, 3, of(3), true},
		{nil, 2, 2, of(2), true},
		{nil, 2, 9, of(9), true},
		{nil, 2, 10, nil, false},
		{nil, 2, 1, nil, false},
		{of(4, 6), 3, 3, of(3, 4, 6), true},
		{of(4, 6), 3, 5, of(4, 5, 6), true},
		{of(4, 6), 3, 7, of(4, 6, 7), true},
		{of(4, 6), 3, 10, of(4, 6, 10), true},
		{of(4, 6), 3, 11, of(4, 6), false},
		{of(4, 6), 3, 4, of(4, 6), false},
		{of(4, 6), 3, 6, of(4, 6), false},
		{of(4, 6), 4, 3, of(4, 6), false},
		{of(4, 6), 3, -1, of(4, 6), false},
		{of(4, 6), 3, 1<<63 - 1, of(4, 6), false},
	} {
		got, ok := Put(x.l, x.next, of(x.seq)[0])
		if !slices.Equal(got, x.want) || ok != x.ok {
			t.Errorf("Put of %d to %v, next %d: %v, %v", x.seq, x.l, x.next, got, ok)
		}
	}
	if got, ok := Put(of(4), 3, api.Item{Seq: 4, Text: "other"}); ok || !slices.Equal(got, of(4)) {
		t.Error(got, ok)
	}
}

func TestTakeAndFirst(t *testing.T) {
	for _, x := range []struct {
		l    []api.Item
		next int
		rest []api.Item
		ok   bool
	}{
		{nil, 0, nil, false}, {nil, 1, nil, false}, {of(3), 2, of(3), false}, {of(3), 3, nil, true}, {of(3, 4, 9), 3, of(4, 9), true}, {of(3, 4), 4, of(3, 4), false},
	} {
		rest, i, ok := Take(x.l, x.next)
		var want api.Item
		if x.ok {
			want = x.l[0]
		}
		if !slices.Equal(rest, x.rest) || i != want || ok != x.ok {
			t.Errorf("Take of %v, next %d: %v, %v, %v", x.l, x.next, rest, i, ok)
		}
	}
	for _, l := range [][]api.Item{nil, {}, of(5), of(2, 3), of(7, 8, 9)} {
		want := 0
		if len(l) > 0 {
			want = l[0].Seq
		}
		if First(l) != want {
			t.Errorf("First of %v: %d", l, First(l))
		}
	}
}

// TestEachOnceInOrder puts 1 to 8 in all orders of a few, twice each, and takes what it can.
func TestEachOnceInOrder(t *testing.T) {
	for step := range 5040 {
		var l []api.Item
		next := 1
		order := of(1, 2, 3, 4, 5, 6, 7, 8)
		for n, s := len(order), step; n > 1; n-- {
			order[n-1], order[s%n] = order[s%n], order[n-1]
			s /= n
		}
		for _, i := range append(order, order...) {
			l, _ = Put(l, next, i)
			for {
				rest, got, ok := Take(l, next)
				if !ok {
					break
				}
				if got != of(next)[0] {
					t.Fatalf("%v in the place of %d", got, next)
				}
				l = rest
				next++
			}
		}
		if next != 9 || len(l) != 0 {
			t.Fatalf("order %v: next is %d, %v left", order, next, l)
		}
	}
}

func TestNothingIsTouched(t *testing.T) {
	l := of(4, 6, 8, 77, 78)
	a, _ := Put(l[:3], 3, of(5)[0])
	b, _ := Put(l[:3], 3, of(9)[0])
	c, _ := Put(l[:3], 3, of(6)[0])
	d, _, _ := Take(l[:3], 4)
	e, _, _ := Take(l[:3], 3)
	for _, got := range [][]api.Item{a, b, c, d, e} {
		got = append(got, api.Item{})
		for i := range got {
			got[i] = api.Item{Seq: 99}
		}
	}
	if !slices.Equal(l, of(4, 6, 8, 77, 78)) {
		t.Error(l)
	}
}
