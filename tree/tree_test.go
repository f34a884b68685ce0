package tree

import (
	"slices"
	"testing"
)

func TestLoop(t *testing.T) {
	for _, x := range []struct {
		up   []int
		from int
		want []int
	}{
		{[]int{0, 3, 2}, 2, []int{2, 3}},
		{[]int{0, 3, 2}, 3, []int{3, 2}},
		{[]int{0, 3, 2}, 1, nil},
		{[]int{0, 3, 2, 3}, 4, []int{3, 2}},
		{[]int{0, 1, 2, 3}, 4, nil},
		{[]int{1}, 1, []int{1}},
		{[]int{0, 2}, 2, []int{2}},
		{[]int{2, 3, 1, 5, 1}, 4, []int{1, 2, 3}},
		{[]int{0, 9}, 2, nil},
		{[]int{0, -1}, 2, nil},
		{[]int{0, 1}, 0, nil},
		{[]int{0, 1}, 3, nil},
		{[]int{0, 1}, -7, nil},
		{nil, 1, nil},
		{[]int{2, 3, 4, 5, 6, 7, 8, 1}, 5, []int{5, 6, 7, 8, 1, 2, 3, 4}},
	} {
		was := slices.Clone(x.up)
		got := Loop(x.up, x.from)
		if !slices.Equal(got, x.want) || !slices.Equal(x.up, was) {
			t.Errorf("Loop of %v from %d: %v", x.up, x.from, got)
		}
	}
}

func all(n int) []bool {
	return slices.Repeat([]bool{true}, n)
}

func TestRooted(t *testing.T) {
	for _, x := range []struct {
		up   []int
		off  []int // which are not on
		want bool
	}{
		{[]int{0}, nil, true},
		{[]int{0, 1, 1, 2}, nil, true},
		{[]int{0, 3, 4, 1}, nil, true},
		{[]int{0, 0, 1}, nil, false},
		{[]int{0, 0, 1}, []int{2}, true},
		{[]int{0, 3, 2}, nil, false},
		{[]int{0, 3, 2}, []int{2, 3}, true},
		{[]int{0, 3, 2}, []int{3}, false},
		{[]int{0, 1, 2}, []int{2}, false}, // over one that is not on
		{[]int{0, 1, 2}, []int{1}, false},
		{[]int{2, 0}, nil, false},
		{[]int{2, 1}, nil, false},
		{[]int{1}, nil, false},
		{[]int{0, 2}, nil, false},
		{[]int{0, 1, 9}, nil, false},
		{[]int{0, 1, -1}, nil, false},
		{[]int{0, 1, 2, 6, 4, 5}, nil, false},
		{[]int{0, 1, 2, 3, 7, 5, 6}, []int{5, 6, 7}, true},
		{nil, nil, false},
	} {
		on := all(len(x.up))
		for _, id := range x.off {
			on[id-1] = false
		}
		if Rooted(x.up, on) != x.want {
			t.Errorf("Rooted of %v without %v: %v", x.up, x.off, !x.want)
		}
	}
	if Rooted([]int{0, 1}, all(1)) || Rooted([]int{0}, all(2)) || Rooted([]int{0, 1}, nil) {
		t.Error("not as many")
	}
}

func TestDeep(t *testing.T) {
	for _, x := range []struct {
		up   []int
		id   int
		want int
	}{
		{[]int{0}, 1, 0}, {[]int{0, 1}, 2, 1}, {[]int{0, 3, 4, 1}, 2, 3}, {[]int{0, 3, 4, 1}, 3, 2}, {[]int{0, 3, 4, 1}, 4, 1}, {[]int{5, 3, 4, 1}, 1, 0},
		{[]int{0, 3, 2}, 2, -1}, {[]int{0, 2}, 2, -1}, {[]int{0, 0}, 2, -1}, {[]int{0, 7}, 2, -1}, {[]int{0, -3}, 2, -1}, {[]int{0, 1}, 0, -1}, {[]int{0, 1}, 3, -1}, {[]int{0, 1}, -1, -1}, {nil, 1, -1}, {nil, 0, -1},
		{[]int{0, 1, 2, 3, 4, 5, 6, 7}, 8, 7},
	} {
		if got := Deep(x.up, x.id); got != x.want {
			t.Errorf("Deep of %v, %d: %d", x.up, x.id, got)
		}
	}
}

// TestAllOfFour goes over all that four can hang on: who is rooted is in no loop, and comes to 1.
func TestAllOfFour(t *testing.T) {
	for n := range 5 * 5 * 5 * 5 {
		up := []int{n % 5, n / 5 % 5, n / 25 % 5, n / 125}
		rooted := up[0] == 0
		for id := 1; id <= 4; id++ {
			steps, at := 0, id
			for steps < 9 && at > 1 {
				at = up[at-1]
				steps++
			}
			want := steps
			if at != 1 {
				want = -1
				rooted = false
			}
			if got := Deep(up, id); got != want {
				t.Fatalf("Deep of %v, %d: %d", up, id, got)
			}
			at = id
			for range 9 {
				if at > 0 {
					at = up[at-1]
				}
			}
			loop := Loop(up, id)
			if (at == 0) != (len(loop) == 0) {
				t.Fatalf("Loop of %v, %d: %v", up, id, loop)
			}
			for i, x := range loop {
				if up[x-1] != loop[(i+1)%len(loop)] {
					t.Fatalf("Loop of %v, %d: %v", up, id, loop)
				}
			}
		}
		if Rooted(up, all(4)) != rooted {
			t.Fatalf("Rooted of %v: %v", up, !rooted)
		}
	}
}

// TestALongWay: a hundred thousand, one over the other, are looked at within a moment.
func TestALongWay(t *testing.T) {
	up := make([]int, 100000)
	for i := range up {
		up[i] = i
	}
	if !Rooted(up, all(len(up))) || Deep(up, len(up)) != len(up)-1 || Loop(up, len(up)) != nil {
		t.Error("it is a way")
	}
	up[0] = len(up)
	if Rooted(up, all(len(up))) || len(Loop(up, 7)) != len(up) || Loop(up, 7)[0] != 7 {
		t.Error("it is a loop")
	}
}
