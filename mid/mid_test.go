package mid

import (
	"slices"
	"testing"

	"pleach/api"
)

// line tells how far it is when number n stands at place at[n-1] of a line.
func line(at ...int) [][]int {
	d := make([][]int, api.MaxNode)
	for a := range d {
		d[a] = make([]int, api.MaxNode)
		for b := range d[a] {
			if a < len(at) && b < len(at) {
				d[a][b] = max(at[a]-at[b], at[b]-at[a])
			}
		}
	}
	return d
}

func TestFar(t *testing.T) {
	d := line(0, 10, 25, 31, 7, 100, 3, 60)
	for _, x := range []struct {
		m    int
		l    []int
		want int
	}{
		{1, nil, 0}, {1, []int{1}, 0}, {1, []int{2}, 10}, {1, []int{2, 3, 4}, 31}, {1, []int{4, 3, 2}, 31}, {3, []int{1, 2, 4}, 25}, {6, []int{8, 7, 2}, 97}, {3, []int{3}, 0}, {8, []int{6}, 40}, {6, []int{8}, 40}, {1, []int{8}, 60}, {8, []int{1}, 60},
	} {
		if got := Far(d, x.m, x.l); got != x.want {
			t.Errorf("Far of %d and %v: %d", x.m, x.l, got)
		}
	}
}

func TestMid(t *testing.T) {
	d := line(0, 10, 25, 31, 7, 100, 3, 60)
	for _, x := range []struct {
		l    []int
		want int
	}{
		{nil, 0}, {[]int{5}, 5}, {[]int{1, 2, 3}, 2}, {[]int{3, 2, 1}, 2}, {[]int{1, 2}, 1}, {[]int{2, 1}, 1}, {[]int{6, 3}, 3}, {[]int{1, 6, 8}, 8}, {[]int{1, 2, 8}, 2}, {[]int{1, 3, 8}, 3}, {[]int{2, 8}, 2}, {[]int{1, 2, 3, 4, 5, 6, 7, 8}, 8},
	} {
		if got := Mid(d, x.l); got != x.want {
			t.Errorf("Mid of %v: %d", x.l, got)
		}
	}
	if got := Mid(line(), []int{7, 3, 5}); got != 3 {
		t.Error("all alike:", got)
	}
}

func TestNear(t *testing.T) {
	d := line(0, 10, 20, 30, 10, 100, 0, 60)
	for _, x := range []struct {
		m    int
		l    []int
		want int
	}{
		{1, nil, 0}, {1, []int{1}, 0}, {1, []int{1, 2}, 2}, {3, []int{1, 2, 4, 5}, 2}, {3, []int{5, 4, 2}, 2}, {3, []int{4, 5}, 4}, {1, []int{2, 7}, 7}, {6, []int{1, 2, 3, 6, 8}, 8}, {2, []int{1, 5}, 5}, {3, []int{2, 8}, 2}, {8, []int{1, 6}, 6}, {8, []int{4, 6}, 4},
	} {
		if got := Near(d, x.m, x.l); got != x.want {
			t.Errorf("Near of %d and %v: %d", x.m, x.l, got)
		}
	}
}

// TestNobodyIsFartherFromTheMiddle tries all sets of the eight numbers.
func TestNobodyIsFartherFromTheMiddle(t *testing.T) {
	d := line(4, 90, 33, 12, 57, 4, 71, 33)
	for set := 1; set < 256; set++ {
		var l []int
		for n := 1; n <= 8; n++ {
			if set>>(n-1)&1 == 1 {
				l = append(l, n)
			}
		}
		m := Mid(d, l)
		for _, id := range l {
			if f := Far(d, id, l); f < Far(d, m, l) || f == Far(d, m, l) && id < m {
				t.Errorf("Mid of %v: %d, but %d", l, m, id)
			}
		}
		near := Near(d, 3, l)
		if !slices.Contains(l, near) && (near != 0 || len(l) > 1 || l[0] != 3) {
			t.Errorf("Near of %v: %d", l, near)
		}
	}
}

func TestBeyondTheLimits(t *testing.T) {
	for _, d := range [][][]int{nil, {nil}, {{1}, {2, 3}}} {
		for _, n := range []int{-1 << 63, -1, 0, 1, 2, 9, 1<<63 - 1} {
			l := []int{n, 1, 2, -5, n}
			Far(d, n, l)
			Mid(d, l)
			Near(d, n, l)
		}
	}
}
