package clus

import (
	"math/rand"
	"reflect"
	"slices"
	"testing"

	"pleach/api"
	"pleach/mid"
)

// line tells how far it is when number n stands at place at[n-1] of a line.
func line(at ...int) [][]int {
	d := make([][]int, api.MaxNode)
	for a := range d {
		d[a] = make([]int, api.MaxNode)
		for b := range d[a] {
			if a < len(at) && b < len(at) {
				d[a][b] = max(at[a]-at[b], at[b]-at[a])
			}
		}
	}
	return d
}

// anyhow tells distances that may be, up to top.
func anyhow(r *rand.Rand, top int) [][]int {
	d := line()
	for a := range d {
		for b := range a {
			d[a][b] = r.Intn(top + 1)
			d[b][a] = d[a][b]
		}
	}
	return d
}

// numbers tells the numbers whose bits stand in set.
func numbers(set int) []int {
	var l []int
	for n := 1; n <= api.MaxNode; n++ {
		if set>>(n-1)&1 == 1 {
			l = append(l, n)
		}
	}
	return l
}

// members tells who is in which of cs.
func members(cs []api.Cluster) [][]int {
	var out [][]int
	for _, c := range cs {
		out = append(out, c.Members)
	}
	return out
}

func of(d [][]int, ls ...[]int) []api.Cluster {
	var cs []api.Cluster
	for _, l := range ls {
		cs = append(cs, api.Cluster{Members: slices.Clone(l), Leader: mid.Mid(d, l)})
	}
	return cs
}

func TestOf(t *testing.T) {
	d := line(0, 10, 25, 31, 7, 100, 3, 60)
	if got := Of(d, []int{1, 2, 3}); !reflect.DeepEqual(got, api.Cluster{Members: []int{1, 2, 3}, Leader: 2}) {
		t.Error(got)
	}
	if got := Of(d, nil); len(got.Members) != 0 || got.Leader != 0 {
		t.Error(got)
	}
	l := []int{1, 2, 3, 77}
	Of(d, l[:3]).Members[0] = 99
	if !slices.Equal(l, []int{1, 2, 3, 77}) {
		t.Error(l)
	}
}

func TestSplitByHand(t *testing.T) {
	d := line(0, 1, 2, 50, 98, 99, 100, 49)
	for _, x := range []struct {
		l    []int
		k    int
		a, b []int
	}{
		{nil, 1, nil, nil},
		{[]int{4}, 2, []int{4}, nil},
		{[]int{1, 7}, 1, []int{1}, []int{7}},
		{[]int{1, 2, 3, 5, 6, 7}, 2, []int{1, 2, 3}, []int{5, 6, 7}},
		{[]int{1, 2, 4, 7}, 1, []int{1, 2, 4}, []int{7}}, // as near to both: to the lesser
		{[]int{1, 2, 4, 7}, 2, []int{1, 2}, []int{4, 7}}, // 7 has less than 2: 4 goes over
		{[]int{1, 4, 5, 6, 7}, 2, []int{1, 4}, []int{5, 6, 7}},
		{[]int{1, 2, 3, 4, 8, 7}[:4], 3, []int{1, 2, 3}, []int{4}}, // of just 3 none goes over
		{[]int{1, 5, 6, 7}, 2, []int{1, 5}, []int{6, 7}},
		{[]int{1, 2, 3, 7}, 2, []int{1, 2}, []int{3, 7}},
		{[]int{1, 2, 3, 4, 8}, 2, []int{1, 2, 3}, []int{4, 8}},
	} {
		a, b := Split(d, x.l, x.k)
		if !slices.Equal(a, x.a) || !slices.Equal(b, x.b) {
			t.Errorf("Split of %v, %d: %v, %v", x.l, x.k, a, b)
		}
	}
	flat := line()
	if a, b := Split(flat, []int{2, 4, 6}, 1); !slices.Equal(a, []int{2, 6}) || !slices.Equal(b, []int{4}) {
		t.Error("all alike: the first pair are the ends, the rest is with the lesser:", a, b)
	}
	if a, b := Split(flat, []int{2, 4, 6, 7, 8}, 2); !slices.Equal(a, []int{2, 7, 8}) || !slices.Equal(b, []int{4, 6}) {
		t.Error("all alike: the least goes over:", a, b)
	}
	if a, b := Split(line(0, 5, 0, 5), []int{1, 2, 3, 4}, 1); !slices.Equal(a, []int{1, 3}) || !slices.Equal(b, []int{2, 4}) {
		t.Error(a, b)
	}
}

// modelSplit does what the chapter says, by sorting all pairs.
func modelSplit(d [][]int, l []int, k int) (a, b []int) {
	if len(l) < 2 {
		return l, nil
	}
	var pairs [][3]int
	for _, x := range l {
		for _, y := range l {
			if x < y {
				pairs = append(pairs, [3]int{-d[x-1][y-1], x, y})
			}
		}
	}
	slices.SortFunc(pairs, func(p, q [3]int) int { return slices.Compare(p[:], q[:]) })
	x, y := pairs[0][1], pairs[0][2]
	side := map[int]int{}
	for _, id := range l {
		if id == y || id != x && d[id-1][y-1] < d[id-1][x-1] {
			side[id] = 1
		}
	}
	ends := []int{x, y}
	for {
		var parts [2][]int
		for _, id := range l {
			parts[side[id]] = append(parts[side[id]], id)
		}
		few := -1
		for s := range 2 {
			if len(parts[s]) < k && len(parts[1-s]) > k {
				few = s
			}
		}
		if few < 0 {
			return parts[0], parts[1]
		}
		var c [][2]int
		for _, id := range parts[1-few] {
			if id != ends[1-few] {
				c = append(c, [2]int{d[id-1][ends[few]-1], id})
			}
		}
		slices.SortFunc(c, func(p, q [2]int) int { return slices.Compare(p[:], q[:]) })
		side[c[0][1]] = few
	}
}

func modelGroup(d [][]int, l []int, k int) [][]int {
	if len(l) == 0 {
		return nil
	}
	out := [][]int{l}
	for {
		i := slices.IndexFunc(out, func(c []int) bool { return len(c) > 3*k-1 })
		if i < 0 {
			return out
		}
		a, b := modelSplit(d, out[i], k)
		out = slices.Replace(out, i, i+1, a, b)
	}
}

func TestSplitAndGroupOfAll(t *testing.T) {
	r := rand.New(rand.NewSource(1))
	for _, top := range []int{0, 1, 3, 1000, 1000} {
		d := anyhow(r, top)
		for set := range 256 {
			for k := 1; k <= 3; k++ {
				l := numbers(set)
				a, b := Split(d, l, k)
				if x, y := modelSplit(d, l, k); !slices.Equal(a, x) || !slices.Equal(b, y) {
					t.Fatalf("Split of %v, %d: %v, %v, not %v, %v", l, k, a, b, x, y)
				}
				cs := Group(d, l, k)
				if want := modelGroup(d, l, k); !reflect.DeepEqual(cs, of(d, want...)) {
					t.Fatalf("Group of %v, %d: %v, not %v", l, k, cs, want)
				}
				for _, c := range cs {
					if n := len(c.Members); n > 3*k-1 || n < k && len(cs) > 1 {
						t.Fatalf("Group of %v, %d: %v", l, k, cs)
					}
				}
			}
		}
	}
}

func TestJoinByHand(t *testing.T) {
	d := line(0, 1, 2, 50, 98, 99, 100, 49)
	two := of(d, []int{5, 7}, []int{1, 3})
	for _, x := range []struct {
		cs        []api.Cluster
		at, id, k int
		want      [][]int
	}{
		{nil, 7, 4, 2, [][]int{{4}}},
		{nil, -1, 4, 2, [][]int{{4}}},
		{two, 1, 2, 2, [][]int{{5, 7}, {1, 2, 3}}},
		{two, 0, 6, 2, [][]int{{5, 6, 7}, {1, 3}}},
		{two, 0, 6, 1, [][]int{{5, 6}, {7}, {1, 3}}}, // 6 is as near to 5 as to 7
		{two, 0, 1, 2, [][]int{{5, 7}, {1, 3}}},
		{two, 0, 5, 2, [][]int{{5, 7}, {1, 3}}},
		{two, 2, 2, 2, [][]int{{5, 7}, {1, 3}}},
		{two, -1, 2, 2, [][]int{{5, 7}, {1, 3}}},
		{two, 1, 2, 1, [][]int{{5, 7}, {1, 2}, {3}}},
	} {
		if got := Join(d, x.cs, x.at, x.id, x.k); !reflect.DeepEqual(got, of(d, x.want...)) {
			t.Errorf("Join of %d at %d: %v", x.id, x.at, got)
		}
	}
}

func TestLeaveByHand(t *testing.T) {
	d := line(0, 1, 2, 50, 98, 99, 100, 49)
	three := of(d, []int{5, 6}, []int{1, 2, 3}, []int{4, 8})
	for _, x := range []struct {
		cs    []api.Cluster
		id, k int
		want  [][]int
	}{
		{nil, 1, 2, nil},
		{three, 7, 2, [][]int{{5, 6}, {1, 2, 3}, {4, 8}}},
		{three, 2, 2, [][]int{{5, 6}, {1, 3}, {4, 8}}},
		{three, 5, 2, [][]int{{4, 6, 8}, {1, 2, 3}}}, // at its own place
		{three, 4, 2, [][]int{{5, 6}, {1, 2, 3, 8}}}, // the other one ahead of it
		{of(d, []int{5, 6, 7}, []int{1, 2}), 2, 2, [][]int{{1, 5, 6, 7}}},
		{of(d, []int{1, 2}, []int{3, 4, 5, 6, 8}), 2, 2, [][]int{{1, 3, 8}, {4, 5, 6}}}, // split again
		{of(d, []int{1, 2}), 2, 2, [][]int{{1}}},
		{of(d, []int{1}), 1, 2, nil},
		{of(d, []int{4}, []int{1, 2}), 4, 1, [][]int{{1, 2}}},
		{of(d, []int{1, 2}, []int{4}), 4, 1, [][]int{{1, 2}}},
	} {
		got := Leave(d, x.cs, x.id, x.k)
		if len(got)+len(x.want) > 0 && !reflect.DeepEqual(got, of(d, x.want...)) {
			t.Errorf("Leave of %d from %v: %v", x.id, x.cs, got)
		}
	}
}

// TestNearestLeader: of two that are as near the one whose leader has the least number.
func TestNearestLeader(t *testing.T) {
	d := line(10, 10, 50, 50, 30, 30, 0, 0)
	cs := of(d, []int{3, 4}, []int{5, 6}, []int{1, 2})
	if got := members(Leave(d, cs, 6, 2)); !reflect.DeepEqual(got, [][]int{{3, 4}, {1, 2, 5}}) {
		t.Error(got)
	}
}

// TestJoinAndLeaveAnyhow: behind whatever, all are in one cluster each, of k to 3 k - 1, but one alone.
func TestJoinAndLeaveAnyhow(t *testing.T) {
	r := rand.New(rand.NewSource(2))
	for range 300 {
		k, d := 1+r.Intn(3), anyhow(r, r.Intn(40))
		var cs []api.Cluster
		in := 0
		for range 40 {
			id := 1 + r.Intn(api.MaxNode)
			was := of(d, members(cs)...)
			if r.Intn(2) == 0 {
				at := r.Intn(len(was) + 1)
				cs = Join(d, was, at, id, k)
				if len(was) == 0 || at < len(was) {
					in |= 1 << (id - 1)
				}
			} else {
				cs = Leave(d, was, id, k)
				in &^= 1 << (id - 1)
			}
			var all []int
			for _, c := range cs {
				if n := len(c.Members); n == 0 || n > 3*k-1 || n < k && len(cs) > 1 || !slices.IsSorted(c.Members) || c.Leader != mid.Mid(d, c.Members) {
					t.Fatalf("k %d: %v", k, cs)
				}
				all = append(all, c.Members...)
			}
			slices.Sort(all)
			if !slices.Equal(all, numbers(in)) {
				t.Fatalf("%v are in %v", numbers(in), cs)
			}
		}
	}
}

func TestNothingIsTouched(t *testing.T) {
	d := line(0, 1, 2, 50, 98, 99, 100, 49)
	make1 := func() []api.Cluster {
		return append(of(d, []int{5, 6}, []int{1, 2, 3, 77}), api.Cluster{Leader: 99})
	}
	cs := make1()
	cs[1].Members = cs[1].Members[:3]
	for _, got := range [][]api.Cluster{Join(d, cs[:2], 1, 4, 2), Join(d, cs[:2], 1, 1, 2), Join(d, cs[:2], 0, 8, 1), Leave(d, cs[:2], 1, 2), Leave(d, cs[:2], 5, 2), Leave(d, cs[:2], 8, 2)} {
		for i := range got {
			for j := range got[i].Members {
				got[i].Members[j] = 88
			}
			got[i].Leader = 88
		}
	}
	cs[1].Members = cs[1].Members[:4]
	want := make1()
	if !reflect.DeepEqual(members(cs), members(want)) || cs[0].Leader != want[0].Leader || cs[2].Leader != 99 {
		t.Error(cs)
	}
	l := []int{1, 2, 5, 77}
	for _, c := range Group(d, l[:3], 1) {
		c.Members[0] = 88
	}
	a, b := Split(d, l[:3], 1)
	a[0], b[0] = 88, 88
	a, _ = Split(d, l[:1], 1)
	a[0] = 88
	if !slices.Equal(l, []int{1, 2, 5, 77}) {
		t.Error(l)
	}
}

func TestBeyondTheLimits(t *testing.T) {
	for _, d := range [][][]int{nil, {{5, 6}, {7}}, line(1, 2, 3, 4)} {
		for _, l := range [][]int{{3, 3, 3, 3}, {-1, 0, 99}, {8, 7, 6, 5, 4}, {1, 2, 3, 4, 5, 6, 7, 8}} {
			for _, k := range []int{-1 << 63, -1, 0, 1, 5, 1 << 62} {
				Split(d, l, k)
				cs := Group(d, l, k)
				cs = append(cs, api.Cluster{}, Of(d, l))
				Leave(d, Join(d, cs, 0, 4, k), 3, k)
				Leave(d, cs, 99, k)
			}
		}
	}
}
