package rtt

import (
	"slices"
	"testing"

	"pleach/api"
)

// table tells a table that may be, no two distances alike.
func table() [][]int {
	d := make([][]int, api.MaxNode)
	for a := range d {
		d[a] = make([]int, api.MaxNode)
		for b := range d[a] {
			if a != b {
				d[a][b] = 10*min(a, b) + max(a, b) + 100
			}
		}
	}
	return d
}

func same(a, b [][]int) bool {
	return slices.EqualFunc(a, b, func(x, y []int) bool { return slices.Equal(x, y) })
}

func TestMay(t *testing.T) {
	edge := table()
	edge[2][5], edge[5][2], edge[0][1], edge[1][0] = api.MaxDist, api.MaxDist, 0, 0
	if !May(table()) || !May(edge) {
		t.Error("it may be")
	}
	for i, spoil := range []func(d [][]int) [][]int{
		func(d [][]int) [][]int { return nil },
		func(d [][]int) [][]int { return d[:7] },
		func(d [][]int) [][]int { return append(d, make([]int, api.MaxNode)) },
		func(d [][]int) [][]int { d[3] = d[3][:7]; return d },
		func(d [][]int) [][]int { d[7] = nil; return d },
		func(d [][]int) [][]int { d[3] = append(d[3], 0); return d },
		func(d [][]int) [][]int { d[3][4]++; return d },
		func(d [][]int) [][]int { d[4][3]++; return d },
		func(d [][]int) [][]int { d[7][7] = 1; return d },
		func(d [][]int) [][]int { d[0][0] = 1; return d },
		func(d [][]int) [][]int { d[3][4], d[4][3] = -1, -1; return d },
		func(d [][]int) [][]int { d[3][4], d[4][3] = api.MaxDist+1, api.MaxDist+1; return d },
	} {
		if May(spoil(table())) {
			t.Errorf("%d may be", i)
		}
	}
}

func TestSmooth(t *testing.T) {
	for _, x := range []struct{ old, sample, want int }{
		{80, 0, 70}, {0, 55, 55}, {-3, 55, 55}, {0, -1, 0}, {0, 2000, 1000}, {-9, 1001, 1000},
		{1, 0, 0}, {1, 7, 1}, {1, 9, 2}, {8, 7, 7}, {3, 3, 3}, {7, 15, 8}, {1000, 1000, 1000},
		{2000, 1000, 1000}, {2000, 0, 875}, {80, -100, 70}, {80, 5000, 195}, {9, 10, 9},
		{1<<63 - 1, 1<<63 - 1, 1000}, {-1 << 63, -1 << 63, 0},
	} {
		if got := Smooth(x.old, x.sample); got != x.want {
			t.Errorf("Smooth of %d and %d: %d", x.old, x.sample, got)
		}
	}
	for old := 1; old <= api.MaxDist; old += 7 {
		for sample := 0; sample <= api.MaxDist; sample += 13 {
			if got := Smooth(old, sample); got < min(old, sample) || got > max(old, sample) || got != (7*old+sample)/8 {
				t.Fatalf("Smooth of %d and %d: %d", old, sample, got)
			}
		}
	}
}

func TestLearn(t *testing.T) {
	for a := -1; a < api.MaxNode+3; a++ {
		for b := -1; b < api.MaxNode+3; b++ {
			d, want := table(), table()
			if a != b && a >= 1 && b >= 1 && a <= api.MaxNode && b <= api.MaxNode {
				v := (7*d[a-1][b-1] + 1000) / 8
				want[a-1][b-1], want[b-1][a-1] = v, v
			}
			got := Learn(d, a, b, 1000)
			if !same(got, want) {
				t.Errorf("Learn of %d, %d: %v", a, b, got)
			}
			if !same(d, table()) {
				t.Fatal("it changed what it was handed")
			}
			for _, row := range got {
				row[0]--
			}
			if !same(d, table()) {
				t.Fatal("it told what it was handed")
			}
		}
	}
	if got := Learn(nil, 1, 2, 3); len(got) != 0 {
		t.Error(got)
	}
	if got := Learn([][]int{{1}, nil}, 1, 2, 3); !same(got, [][]int{{1}, nil}) {
		t.Error(got)
	}
}
