package path

import (
	"slices"
	"testing"

	"pleach/api"
)

func TestMay(t *testing.T) {
	for _, p := range [][]int{{1}, {1, 2}, {1, 8}, {1, 2, 3, 4, 5, 6, 7, 8}, {1, 8, 3}} {
		if !May(p) {
			t.Errorf("%v is one", p)
		}
	}
	for _, p := range [][]int{nil, {}, {0}, {2}, {2, 1}, {1, 1}, {1, 2, 2}, {1, 2, 1}, {1, 3, 2, 3}, {1, 0}, {1, 9}, {1, -1}, {1, 2, 9}, {-1 << 63}, {1, 2, 3, 4, 5, 6, 7, 8, 9}, {1, 2, 3, 4, 5, 6, 7, 8, 2}, make([]int, 1000)} {
		if May(p) {
			t.Errorf("%v is none", p)
		}
	}
}

func TestHas(t *testing.T) {
	p := []int{1, 4, 2}
	for id := -1; id < 10; id++ {
		if Has(p, id) != (id == 1 || id == 4 || id == 2) {
			t.Errorf("%d", id)
		}
	}
	if Has(nil, 0) || !Has([]int{9}, 9) {
		t.Error("of no way")
	}
}

func TestAdd(t *testing.T) {
	for _, x := range []struct {
		p    []int
		id   int
		want []int
	}{
		{[]int{1, 2}, 3, []int{1, 2, 3}},
		{nil, 1, []int{1}},
		{[]int{1, 2, 3, 4, 5, 6, 7}, 8, []int{1, 2, 3, 4, 5, 6, 7, 8}},
		{nil, 2, nil},
		{[]int{1, 2}, 2, nil},
		{[]int{1, 2}, 1, nil},
		{[]int{1, 2}, 0, nil},
		{[]int{1, 2}, 9, nil},
		{[]int{2}, 3, nil},
		{[]int{1, 2, 3, 4, 5, 6, 7, 8}, 9, nil},
	} {
		got, ok := Add(x.p, x.id)
		if !slices.Equal(got, x.want) || ok != (x.want != nil) {
			t.Errorf("Add of %d to %v: %v, %v", x.id, x.p, got, ok)
		}
	}
}

// TestNoWayTwice adds all to all: a way is never longer than there are numbers, and has none twice.
func TestNoWayTwice(t *testing.T) {
	longest := 0
	var walk func(p []int)
	walk = func(p []int) {
		longest = max(longest, len(p))
		for id := range api.MaxNode + 2 {
			q, ok := Add(p, id)
			if ok != (id >= 1 && id <= api.MaxNode && !slices.Contains(p, id) && (len(p) > 0 || id == 1)) {
				t.Fatalf("Add of %d to %v: %v", id, p, ok)
			}
			if ok && len(p) < 4 {
				walk(q)
			}
		}
	}
	walk(nil)
	if longest != 4 {
		t.Error(longest)
	}
}

func TestAddTouchesNothing(t *testing.T) {
	room := []int{1, 2, 77, 78}
	got, _ := Add(room[:2], 3)
	got[0] = 99
	if !slices.Equal(room, []int{1, 2, 77, 78}) {
		t.Error(room)
	}
}

func TestGrand(t *testing.T) {
	for _, x := range []struct {
		p    []int
		want int
	}{{nil, 0}, {[]int{1}, 0}, {[]int{1, 2}, 1}, {[]int{1, 2, 3}, 2}, {[]int{1, 5, 3, 4}, 3}} {
		if got := Grand(x.p); got != x.want {
			t.Errorf("%v: %d", x.p, got)
		}
	}
}
