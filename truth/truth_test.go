package truth

import (
	"math/rand"
	"slices"
	"testing"

	"pleach/api"
	"pleach/twin"
	"pleach/world"
)

func fresh(t *testing.T, r *rand.Rand) api.World {
	t.Helper()
	d := make([][]int, api.MaxNode)
	for a := range d {
		d[a] = make([]int, api.MaxNode)
		for b := range a {
			d[a][b] = r.Intn(100)
			d[b][a] = d[a][b]
		}
	}
	w, ok := world.New(d, 1+r.Intn(3))
	if !ok {
		t.Fatal("no world")
	}
	return w
}

// t1 and g1 tell one event.
func t1(n int, text string) api.Event {
	return api.Event{Kind: api.Told, Lo: n, Hi: n, Text: text}
}

func g1(lo, hi int) api.Event {
	return api.Event{Kind: api.Gap, Lo: lo, Hi: hi, Why: api.Noted}
}

// heard tells a world in which a to f was said; number 3 has heard some of it, from 2 on, number 4 nothing yet.
func heard(t *testing.T) api.World {
	w := fresh(t, rand.New(rand.NewSource(17)))
	for _, c := range "abcdef" {
		w, _ = world.Do(w, api.Step{Kind: api.StepPublish, Text: string(c)})
	}
	for id := 3; id <= 5; id++ {
		w, _ = world.Do(w, api.Step{Kind: api.StepJoin, R: id, Text: "x"})
	}
	w.Nodes[2].F = api.Feed{Next: 6, Log: []api.Event{t1(2, "b"), g1(3, 3), g1(4, 4), t1(5, "e")}}
	w.Nodes[3].F = api.Feed{Next: 7}
	return w
}

func TestLogs(t *testing.T) {
	if !Logs(fresh(t, rand.New(rand.NewSource(1)))) || !Logs(heard(t)) || !Logs(api.World{}) {
		t.Error("they are")
	}
	for i, change := range []func(w *api.World){
		func(w *api.World) { w.Nodes[2].F.Next = 7; w.Nodes[2].F.Log = append(w.Nodes[2].F.Log, t1(6, "?")) },
		func(w *api.World) { w.Nodes[3].F.Next = 1 },
		func(w *api.World) { w.Nodes[7].F = api.Feed{Next: 99} }, // it is not on
		func(w *api.World) { w.Nodes[4].F = api.Feed{Log: []api.Event{t1(9, "")}} },
		func(w *api.World) { w.Nodes[2].F.Log[0].Text = "?" },
	} {
		w := heard(t)
		if change(&w); !Logs(w) {
			t.Errorf("%d: they are", i)
		}
	}
	for i, change := range []func(w *api.World){
		func(w *api.World) { w.Nodes[2].F.Next = 5 },
		func(w *api.World) { w.Nodes[2].F.Next = 7 },
		func(w *api.World) { w.Nodes[2].F.Log[0].Lo = 1 },
		func(w *api.World) { w.Nodes[2].F.Log = slices.Delete(w.Nodes[2].F.Log, 1, 2) },
		func(w *api.World) { w.Nodes[2].F.Log[1].Why = 0 },
		func(w *api.World) { w.Nodes[2].F.Log[0] = t1(0, "") },
		func(w *api.World) { w.Nodes[2].F.Log = append(w.Nodes[2].F.Log, g1(6, 7)); w.Nodes[2].F.Next = 8 },
		func(w *api.World) { w.Nodes[3].F.Next = 8 },
		func(w *api.World) { w.Nodes[3].F.Next = -1 },
		func(w *api.World) { w.Said = w.Said[:4] },
		func(w *api.World) { w.Nodes[0].F.Log[5].Kind = 0 },
	} {
		w := heard(t)
		if change(&w); Logs(w) {
			t.Errorf("%d: they are not", i)
		}
	}
}

func TestSaid(t *testing.T) {
	if !Said(fresh(t, rand.New(rand.NewSource(1)))) || !Said(heard(t)) || !Said(api.World{}) {
		t.Error("it was")
	}
	for i, change := range []func(w *api.World){
		func(w *api.World) { w.Nodes[2].F.Log[0].Text = "B" },
		func(w *api.World) { w.Nodes[2].F.Log[3].Text = "" },
		func(w *api.World) { w.Nodes[2].F.Log[0].Lo = 3 },
		func(w *api.World) { w.Nodes[2].F.Log[0] = t1(0, "") },
		func(w *api.World) { w.Nodes[2].F.Log[0] = t1(-1<<63, "") },
		func(w *api.World) { w.Nodes[2].F.Log[0] = t1(7, "") },
		func(w *api.World) { w.Said[1] = "b " },
		func(w *api.World) { w.Said = w.Said[:5] },
	} {
		w := heard(t)
		if change(&w); Said(w) {
			t.Errorf("%d: it was not", i)
		}
	}
	w := heard(t)
	w.Nodes[2].F.Log[1].Text, w.Nodes[2].F.Log[2] = "c", g1(99, 99)
	if !Said(w) {
		t.Error("a gap says nothing")
	}
}

func TestLacks(t *testing.T) {
	w := heard(t)
	w.Nodes[0].F.Log, w.Nodes[7].F.Log = []api.Event{g1(1, 2)}, []api.Event{t1(1, "a"), g1(2, 5)}
	wants := map[int][]api.Span{1: {{Lo: 1, Hi: 2}}, 3: {{Lo: 3, Hi: 4}}, 8: {{Lo: 2, Hi: 5}}}
	for id := -1; id < 11; id++ {
		want := wants[id]
		if got := Lacks(w, id); !slices.Equal(got, want) {
			t.Errorf("Lacks of %d: %v", id, got)
		}
	}
}

func TestLoops(t *testing.T) {
	w := heard(t)
	if got := Loops(w); len(got) != 0 {
		t.Error(got)
	}
	for i, parent := range []int{0, 5, 4, 5, 6, 4, 8, 7} { // 2 comes to 5, 6, 4; 7 and 8 hang on one another
		w.Nodes[i] = api.Node{On: true, T: api.Tie{Parent: parent}}
	}
	if got := Loops(w); !slices.Equal(got, []int{5, 6, 4}) {
		t.Error(got)
	}
	w.Nodes[4].On = false
	if got := Loops(w); !slices.Equal(got, []int{7, 8}) {
		t.Error(got)
	}
	w.Nodes[7].T.Parent = 8
	if got := Loops(w); !slices.Equal(got, []int{8}) {
		t.Error(got)
	}
	w.Nodes[0].T.Parent = 1
	if got := Loops(w); !slices.Equal(got, []int{1}) {
		t.Error(got)
	}
	w.Nodes[0].T.Parent = 0
	w.Nodes[7].On = false
	if got := Loops(w); len(got) != 0 {
		t.Error(got)
	}
}

// TestW1W2: whatever goes wrong, each log is one, and all that was told was said.
func TestW1W2(t *testing.T) {
	r := rand.New(rand.NewSource(18))
	told, gaps, bad := 0, 0, 0
	for range 60 {
		w := fresh(t, r)
		for range 400 {
			s := api.Step{R: 1 + r.Intn(api.MaxNode), Text: string(rune('a' + r.Intn(26))), I: r.Intn(len(w.Fly) + 1), To: r.Intn(9999)}
			switch x := r.Intn(100); {
			case x < 9:
				s.Kind = 1 + max(0, r.Intn(9)-6)
			case x < 18:
				s.Kind = api.StepPublish
			case x < 50:
				s.Kind = api.StepTick
			case x < 90:
				s.Kind = api.StepComes
			default:
				s.Kind = api.StepLost + r.Intn(3)
			}
			was := twin.World(w)
			w, _ = world.Do(w, s)
			if !Logs(w) || !Said(w) {
				t.Fatalf("%+v of\n%+v comes to\n%+v", s, was, w)
			}
			if l := Loops(w); len(l) == 1 {
				t.Fatalf("%v hangs on itself", l)
			}
		}
		for id, n := range w.Nodes {
			told += len(n.F.Log)
			gaps += len(Lacks(w, id+1))
			bad += n.Bad
		}
	}
	if told < 1000 || gaps < 10 || bad < 10 {
		t.Error("too little goes wrong:", told, gaps, bad)
	}
}

func TestNothingIsTouched(t *testing.T) {
	w := heard(t)
	was := twin.World(w)
	Logs(w)
	Said(w)
	Lacks(w, 3)[0].Lo = 99
	w.Nodes[1].T.Parent = 0
	Loops(w)
	if !world.Same(w, was) {
		t.Error(w)
	}
}

func TestBeyondTheLimits(t *testing.T) {
	for _, w := range []api.World{
		{}, {Nodes: []api.Node{{On: true, T: api.Tie{Parent: 7}, F: api.Feed{Next: 1<<63 - 1, Log: []api.Event{{Kind: 9, Lo: -1}, {Kind: 2, Hi: 1<<63 - 1}, {Kind: 2, Lo: -1 << 63}}}}}},
	} {
		Logs(w)
		Said(w)
		Lacks(w, 1)
		Loops(w)
	}
}
