package hier

import (
	"math/rand"
	"reflect"
	"slices"
	"testing"

	"pleach/api"
	"pleach/clus"
	"pleach/mid"
)

// line tells how far it is when number n stands at place at[n-1] of a line.
func line(at ...int) [][]int {
	d := make([][]int, api.MaxNode)
	for a := range d {
		d[a] = make([]int, api.MaxNode)
		for b := range d[a] {
			if a < len(at) && b < len(at) {
				d[a][b] = max(at[a]-at[b], at[b]-at[a])
			}
		}
	}
	return d
}

func anyhow(r *rand.Rand, top int) [][]int {
	d := line()
	for a := range d {
		for b := range a {
			d[a][b] = r.Intn(top + 1)
			d[b][a] = d[a][b]
		}
	}
	return d
}

// of tells a hierarchy with these clusters below.
func of(d [][]int, k int, ground ...[]int) api.Hier {
	h := api.Hier{K: k, Dist: d}
	var cs []api.Cluster
	for _, l := range ground {
		cs = append(cs, api.Cluster{Members: slices.Clone(l), Leader: mid.Mid(d, l)})
	}
	for len(cs) > 0 {
		h.Levels = append(h.Levels, cs)
		if len(cs) == 1 {
			break
		}
		var l []int
		for _, c := range cs {
			l = append(l, c.Leader)
		}
		slices.Sort(l)
		cs = clus.Group(d, l, k)
	}
	return h
}

// lowest tells who is in which of the lowest clusters of h.
func lowest(h api.Hier) [][]int {
	var out [][]int
	if len(h.Levels) > 0 {
		for _, c := range h.Levels[0] {
			out = append(out, c.Members)
		}
	}
	return out
}

var place = []int{0, 10, 20, 300, 310, 320, 900, 910}

func TestNew(t *testing.T) {
	d := line(place...)
	for k := 1; k <= 3; k++ {
		h, ok := New(d, k)
		if !ok || h.K != k || len(h.Levels) != 0 || !reflect.DeepEqual(h.Dist, d) || !May(h) {
			t.Error(h, ok)
		}
		h.Dist[0][1] = 5
		if d[0][1] != 10 {
			t.Fatal("it kept what it was handed")
		}
	}
	bad := line(place...)
	bad[1][2]++
	for _, x := range []struct {
		d [][]int
		k int
	}{{d, 0}, {d, 4}, {d, -1}, {nil, 2}, {d[:7], 2}, {bad, 2}} {
		if h, ok := New(x.d, x.k); ok || !reflect.DeepEqual(h, api.Hier{}) {
			t.Errorf("New of k %d: %v, %v", x.k, h, ok)
		}
	}
}

func TestMay(t *testing.T) {
	d := line(place...)
	fresh := func() api.Hier { return of(line(place...), 2, []int{1, 2, 3}, []int{4, 5, 6}, []int{7, 8}) }
	for _, h := range []api.Hier{
		fresh(), of(d, 2), of(d, 2, []int{5}), of(d, 2, []int{1, 2, 3, 7, 8}), of(d, 1, []int{1}, []int{2, 3}),
		of(d, 1, []int{8}, []int{2}, []int{3}, []int{1}, []int{4}, []int{5}, []int{7}, []int{6}), of(d, 3, []int{1, 2, 8}, []int{3, 5, 6}),
	} {
		if !May(h) {
			t.Errorf("%v may be", h.Levels)
		}
	}
	for i, spoil := range []func(h *api.Hier){
		func(h *api.Hier) { h.K = 0 },
		func(h *api.Hier) { h.K = 3 },
		func(h *api.Hier) { h.Dist = nil },
		func(h *api.Hier) { h.Dist[0][1]++ },
		func(h *api.Hier) { h.Levels = h.Levels[:1] },
		func(h *api.Hier) { h.Levels[0] = h.Levels[0][1:] },
		func(h *api.Hier) { h.Levels = append(h.Levels, h.Levels[1]) },
		func(h *api.Hier) { h.Levels[0][0].Leader = 1 },
		func(h *api.Hier) { h.Levels[1][0].Leader++ },
		func(h *api.Hier) { h.Levels[1][0].Members[0] = 1 },
		func(h *api.Hier) { h.Levels[0][0].Members = []int{3, 2, 1} },
		func(h *api.Hier) { h.Levels[0][2].Members = []int{7, 7} },
		func(h *api.Hier) { h.Levels = [][]api.Cluster{{}} },
		func(h *api.Hier) { h.Levels = [][]api.Cluster{{{Members: []int{1, 2, 3}, Leader: 1}}} },
		func(h *api.Hier) { h.Levels = [][]api.Cluster{{{Members: []int{3, 2}, Leader: 2}}} },
	} {
		h := fresh()
		if spoil(&h); May(h) {
			t.Errorf("%d may not be: %v", i, h)
		}
	}
	for _, h := range []api.Hier{
		of(d, 2, []int{1, 2, 3}, []int{3, 4}), of(d, 2, []int{1}, []int{3, 4}), of(d, 2, []int{1, 2, 3, 4, 5, 6}), of(d, 1, []int{1, 2, 3}),
		of(d, 2, []int{1, 2}, nil), of(d, 2, nil), of(d, 2, []int{8, 9}), of(d, 2, []int{0, 1}), of(d, 3, []int{1, 2}, []int{3, 4, 5}),
	} {
		if May(h) {
			t.Errorf("%v may not be", h.Levels)
		}
	}
}

func TestJoinByHand(t *testing.T) {
	d := line(place...)
	h := of(d, 2, []int{4, 6}, []int{1, 2}, []int{7, 8})
	for _, x := range []struct {
		h    api.Hier
		id   int
		want [][]int
	}{
		{of(d, 2), 5, [][]int{{5}}},
		{of(d, 2, []int{5}), 1, [][]int{{1, 5}}},
		{h, 3, [][]int{{4, 6}, {1, 2, 3}, {7, 8}}},
		{h, 5, [][]int{{4, 5, 6}, {1, 2}, {7, 8}}},
		{h, 1, [][]int{{4, 6}, {1, 2}, {7, 8}}},
		{h, 0, [][]int{{4, 6}, {1, 2}, {7, 8}}},
		{h, 9, [][]int{{4, 6}, {1, 2}, {7, 8}}},
		{of(d, 2, []int{1, 2, 3, 4, 5}), 7, [][]int{{1, 2, 3, 4}, {5, 7}}},
	} {
		if got := Join(x.h, x.id); !reflect.DeepEqual(got, of(d, x.h.K, x.want...)) {
			t.Errorf("Join of %d: %v", x.id, got.Levels)
		}
	}
}

// TestJoinGoesDown: of three levels, 1 and 4 above, 1 and 3, 4 and 6 between; 3 is nearest to 8, but of 1 and 4 it is 4.
func TestJoinGoesDown(t *testing.T) {
	d := line(0, 100, 190, 300, 400, 500, 600, 195)
	h := of(d, 1, []int{1, 2}, []int{3}, []int{4, 5}, []int{6, 7})
	if len(h.Levels) != 3 {
		t.Fatal(h.Levels)
	}
	if got := Join(h, 8); !reflect.DeepEqual(got, of(d, 1, []int{1, 2}, []int{3}, []int{4, 5}, []int{8}, []int{6, 7})) {
		t.Error(got.Levels)
	}
}

func TestLeave(t *testing.T) {
	d := line(place...)
	h := of(d, 2, []int{4, 5, 6}, []int{1, 2}, []int{7, 8})
	for id, want := range map[int][][]int{
		4: {{5, 6}, {1, 2}, {7, 8}},
		1: {{2, 4, 5, 6}, {7, 8}},
		8: {{1, 2}, {4, 5, 6, 7}},
		3: {{4, 5, 6}, {1, 2}, {7, 8}},
		0: {{4, 5, 6}, {1, 2}, {7, 8}},
	} {
		got := lowest(Leave(h, id))
		if !reflect.DeepEqual(got, want) || !May(Leave(h, id)) {
			t.Errorf("Leave of %d: %v", id, got)
		}
	}
	if got := Leave(of(d, 2, []int{3}), 3); len(got.Levels) != 0 || !May(got) {
		t.Error(got)
	}
	if got := Leave(of(d, 2), 3); len(got.Levels) != 0 || !May(got) {
		t.Error(got)
	}
}

func TestAsk(t *testing.T) {
	d := line(place...)
	h := of(d, 2, []int{1, 2, 3}, []int{4, 5, 6}, []int{7, 8})
	for id, want := range map[int]int{1: 2, 3: 2, 4: 5, 6: 5, 8: 7, 7: 5, 2: 5, 5: 0, 0: 0, 9: 0, -1: 0} {
		if got := Ask(h, id); got != want {
			t.Errorf("Ask of %d: %d", id, got)
		}
	}
	if Ask(of(d, 2, []int{1}), 1) != 0 || Ask(of(d, 2), 1) != 0 || Ask(of(d, 2, []int{1, 2}), 2) != 1 {
		t.Error("one, none, two")
	}
}

// TestAnyhow: whoever joins and leaves, it is a hierarchy, of those who did.
func TestAnyhow(t *testing.T) {
	r := rand.New(rand.NewSource(3))
	for range 200 {
		k, d := 1+r.Intn(3), anyhow(r, r.Intn(1001))
		h, _ := New(d, k)
		in := map[int]bool{}
		for range 60 {
			id := 1 + r.Intn(api.MaxNode)
			if r.Intn(5) < 3 {
				h = Join(h, id)
				in[id] = true
			} else {
				h = Leave(h, id)
				delete(in, id)
			}
			if !May(h) || !reflect.DeepEqual(h.Dist, d) || h.K != k {
				t.Fatal(h)
			}
			n := 0
			for _, l := range lowest(h) {
				for _, id := range l {
					n++
					if !in[id] {
						t.Fatalf("%d is in %v", id, h.Levels)
					}
				}
			}
			if n != len(in) {
				t.Fatalf("%d are in %v", n, h.Levels)
			}
			noOne := 0
			for id := range in {
				a := Ask(h, id)
				if a == 0 {
					noOne++
				}
				if a == id || a != 0 && !in[a] {
					t.Fatalf("%d asks %d", id, a)
				}
			}
			if len(in) > 0 && noOne != 1 {
				t.Fatalf("%d ask nobody", noOne)
			}
		}
	}
}

func TestNothingIsTouched(t *testing.T) {
	make1 := func() api.Hier { return of(line(place...), 2, []int{1, 2}, []int{4, 5, 6}) }
	h := make1()
	for _, got := range []api.Hier{Join(h, 3), Join(h, 1), Join(h, 7), Leave(h, 4), Leave(h, 1), Leave(h, 8)} {
		for i := range got.Dist {
			got.Dist[i][0] = 77
		}
		for _, l := range got.Levels {
			for i := range l {
				l[i].Leader = 77
				for j := range l[i].Members {
					l[i].Members[j] = 77
				}
			}
		}
	}
	if !reflect.DeepEqual(h, make1()) {
		t.Error(h)
	}
}

func TestBeyondTheLimits(t *testing.T) {
	d := line(place...)
	for _, h := range []api.Hier{
		{}, {K: 2, Levels: [][]api.Cluster{{{Members: []int{1, 1}, Leader: 1}}, nil}}, {K: 0, Dist: d, Levels: [][]api.Cluster{nil, {{}}}},
		{K: 2, Dist: d, Levels: [][]api.Cluster{{}, {}, {}}}, {K: 1 << 62, Dist: [][]int{{1}}, Levels: [][]api.Cluster{{{Members: []int{-1, 99}}}}},
	} {
		for _, id := range []int{-1 << 63, 0, 1, 8, 99} {
			if got := Join(h, id); !May(h) && !reflect.DeepEqual(got, h) {
				t.Error(got)
			}
			Leave(h, id)
			Ask(h, id)
		}
	}
}
