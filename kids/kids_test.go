package kids

import (
	"slices"
	"testing"

	"pleach/api"
)

// three tells kids 2, 4 and 7, with room behind them.
func three() []api.Kid {
	return []api.Kid{{ID: 2, Inc: 3, Heard: 10}, {ID: 4, Inc: 1, Heard: 11}, {ID: 7, Inc: 5, Heard: 12}, {ID: 77}, {ID: 78}}[:3]
}

// ks tells kids of their numbers, times and when they were heard.
func ks(n ...int) []api.Kid {
	var l []api.Kid
	for i := 0; i+2 < len(n); i += 3 {
		l = append(l, api.Kid{ID: n[i], Inc: n[i+1], Heard: n[i+2]})
	}
	return l
}

func TestMay(t *testing.T) {
	for _, l := range [][]api.Kid{nil, {}, three(), ks(1, 1, 0), ks(8, api.MaxNum, api.MaxNum), ks(1, 1, 1, 2, 1, 0, 3, 1, 0)} {
		if !May(l) {
			t.Errorf("%v may be", l)
		}
	}
	for _, l := range [][]api.Kid{
		ks(0, 1, 1), ks(-1, 1, 1), ks(9, 1, 1), ks(1, 0, 1), ks(1, -1, 1), ks(1, api.MaxNum+1, 1), ks(1, 1, -1), ks(1, 1, api.MaxNum+1),
		ks(2, 1, 1, 2, 1, 1), ks(3, 1, 1, 2, 1, 1), ks(1, 1, 1, 2, 1, 1, 2, 2, 1), ks(1, 1, 1, 9, 1, 1),
	} {
		if May(l) {
			t.Errorf("%v may not be", l)
		}
	}
}

func TestFindAndOld(t *testing.T) {
	l := three()
	for id := -1; id < 10; id++ {
		i := slices.IndexFunc(l, func(k api.Kid) bool { return k.ID == id })
		var want api.Kid
		if i >= 0 {
			want = l[i]
		}
		if got, ok := Find(l, id); got != want || ok != (i >= 0) {
			t.Errorf("Find of %d: %v, %v", id, got, ok)
		}
		for inc := range 7 {
			if Old(l, id, inc) != (i >= 0 && want.Inc > inc) {
				t.Errorf("Old of %d, %d", id, inc)
			}
		}
	}
}

func TestHear(t *testing.T) {
	for _, x := range []struct {
		k    api.Kid
		at   int // where it stands then
		more int
		ok   bool
	}{
		{api.Kid{ID: 1, Inc: 1, Heard: 9}, 0, 1, true},
		{api.Kid{ID: 3, Inc: 1, Heard: 9}, 1, 1, true},
		{api.Kid{ID: 8, Inc: 1, Heard: 9}, 3, 1, true},
		{api.Kid{ID: 2, Inc: 3, Heard: 9}, 0, 0, true},
		{api.Kid{ID: 4, Inc: 2, Heard: 9}, 1, 0, true},
		{api.Kid{ID: 7, Inc: 6, Heard: 99}, 2, 0, true},
		{api.Kid{ID: 2, Inc: 2, Heard: 99}, 0, 0, false},
		{api.Kid{ID: 7, Inc: 4, Heard: 99}, 0, 0, false},
	} {
		l := three()
		got, ok := Hear(l, x.k)
		if ok != x.ok || len(got) != 3+x.more || !May(got) {
			t.Errorf("Hear of %v: %v, %v", x.k, got, ok)
			continue
		}
		if !ok && !slices.Equal(got, l) || ok && got[x.at] != x.k {
			t.Errorf("Hear of %v: %v", x.k, got)
		}
		if ok && !slices.Equal(Drop(got, x.k.ID), Drop(l, x.k.ID)) {
			t.Errorf("Hear of %v: others are others: %v", x.k, got)
		}
	}
	if got, ok := Hear(nil, api.Kid{ID: 5, Inc: 1}); !ok || !slices.Equal(got, []api.Kid{{ID: 5, Inc: 1}}) {
		t.Error(got, ok)
	}
}

func TestDrop(t *testing.T) {
	for id, want := range map[int][]int{2: {4, 7}, 4: {2, 7}, 7: {2, 4}, 1: {2, 4, 7}, 0: {2, 4, 7}, 9: {2, 4, 7}} {
		var ids []int
		for _, k := range Drop(three(), id) {
			ids = append(ids, k.ID)
			if f, _ := Find(three(), k.ID); f != k {
				t.Errorf("Drop of %d changed %v", id, k)
			}
		}
		if !slices.Equal(ids, want) {
			t.Errorf("Drop of %d: %v", id, ids)
		}
	}
	if len(Drop(nil, 1)) != 0 {
		t.Error("of none")
	}
}

func TestPrune(t *testing.T) {
	for now, want := range map[int]int{0: 3, 10: 3, 30: 3, 31: 2, 32: 1, 33: 0, 1000: 0} {
		got := Prune(three(), now)
		if len(got) != want || !slices.Equal(got, three()[3-want:]) {
			t.Errorf("at %d: %v", now, got)
		}
	}
	mixed := []api.Kid{{ID: 1, Inc: 1, Heard: 50}, {ID: 2, Inc: 1, Heard: 5}, {ID: 3, Inc: 1, Heard: 30}}
	if got := Prune(mixed, 50); !slices.Equal(got, []api.Kid{mixed[0], mixed[2]}) {
		t.Error(got)
	}
}

func TestNothingIsTouched(t *testing.T) {
	l := three()
	a, _ := Hear(l, api.Kid{ID: 3, Inc: 1})
	b, _ := Hear(l, api.Kid{ID: 2, Inc: 1})
	c, _ := Hear(l, api.Kid{ID: 9, Inc: 1})
	for _, got := range [][]api.Kid{a, b, c, Drop(l, 2), Drop(l, 1), Prune(l, 31), Prune(l, 0)} {
		for i := range got {
			got[i] = api.Kid{ID: 99}
		}
	}
	if !slices.Equal(l[:5], three()[:5]) {
		t.Error(l[:5])
	}
}
