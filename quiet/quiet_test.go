package quiet

import (
	"math/rand"
	"slices"
	"testing"

	"pleach/api"
	"pleach/tree"
	"pleach/twin"
	"pleach/world"
)

// anyhow tells distances that may be, up to top.
func anyhow(r *rand.Rand, top int) [][]int {
	d := make([][]int, api.MaxNode)
	for a := range d {
		d[a] = make([]int, api.MaxNode)
		for b := range a {
			d[a][b] = r.Intn(top + 1)
			d[b][a] = d[a][b]
		}
	}
	return d
}

func fresh(t *testing.T, r *rand.Rand) api.World {
	t.Helper()
	w, ok := world.New(anyhow(r, 100), 1+r.Intn(3))
	if !ok {
		t.Fatal("no world")
	}
	return w
}

// grown tells a world of number 1 to most, behind so many Rounds.
func grown(t *testing.T, r *rand.Rand, most, rounds int) api.World {
	t.Helper()
	w := fresh(t, r)
	for id := 2; id <= most; id++ {
		w, _ = world.Do(w, api.Step{Kind: api.StepJoin, R: id, Text: "n"})
	}
	for range rounds {
		w = Round(w)
	}
	return w
}

// modelRound does what the chapter says, step by step.
func modelRound(t *testing.T, w api.World) api.World {
	t.Helper()
	must := func(s api.Step) {
		var err api.Errno
		if w, err = world.Do(w, s); err != api.OK {
			t.Fatalf("%+v: %d", s, err)
		}
	}
	for r := 1; r <= api.MaxNode; r++ {
		if w.Nodes[r-1].On {
			must(api.Step{Kind: api.StepTick, R: r})
		}
	}
	for len(w.Fly) > 0 {
		must(api.Step{Kind: api.StepComes, I: 0})
	}
	return w
}

// stir tells w behind n steps of all kinds.
func stir(r *rand.Rand, w api.World, n int) api.World {
	for range n {
		s := api.Step{R: 1 + r.Intn(api.MaxNode), Text: "n", I: r.Intn(len(w.Fly) + 1), To: r.Intn(9999)}
		switch x := r.Intn(100); {
		case x < 12:
			s.Kind = 1 + r.Intn(3)
		case x < 18:
			s.Kind = api.StepPublish
		case x < 55:
			s.Kind = api.StepTick
		case x < 92:
			s.Kind = api.StepComes
		default:
			s.Kind = api.StepLost + r.Intn(3)
		}
		w, _ = world.Do(w, s)
	}
	return w
}

func TestRound(t *testing.T) {
	r := rand.New(rand.NewSource(11))
	for range 20 {
		w := stir(r, fresh(t, r), r.Intn(200))
		for range 10 {
			was := twin.World(w)
			got := Round(w)
			if !world.Same(got, modelRound(t, w)) || len(got.Fly) != 0 {
				t.Fatalf("Round of\n%+v:\n%+v", w, got)
			}
			got.Nodes[0].T.Path[0] = 99
			if !world.Same(w, was) {
				t.Fatal("it changed, or kept, what it was handed")
			}
			w = Round(w)
		}
	}
}

// TestMost: of more than can be on their way 2000 come.
func TestMost(t *testing.T) {
	w := fresh(t, rand.New(rand.NewSource(10)))
	w.Fly = slices.Repeat([]api.Gram{{To: 1, B: "x"}}, 2003)
	if w = Round(w); len(w.Fly) != 3 || w.Nodes[0].Bad != 2000 {
		t.Error(len(w.Fly), w.Nodes[0].Bad)
	}
}

func TestTree(t *testing.T) {
	w := grown(t, rand.New(rand.NewSource(12)), 5, 10)
	if !Tree(w) {
		t.Error("it is one")
	}
	for i, spoil := range []func(w *api.World){
		func(w *api.World) { w.Nodes[2].T.Parent = 0 },
		func(w *api.World) { w.Nodes[2].T.Parent = 3 },
		func(w *api.World) { w.Nodes[2].T.Parent = 8 },
		func(w *api.World) { w.Nodes[2].T.Parent, w.Nodes[3].T.Parent = 4, 3 },
		func(w *api.World) { w.Nodes[0].On = false },
		func(w *api.World) { w.Nodes[0].T.Parent = 2 },
		func(w *api.World) { w.Nodes = nil },
	} {
		x := twin.World(w)
		if spoil(&x); Tree(x) || Still(x) {
			t.Errorf("%d is none", i)
		}
	}
}

func TestStill(t *testing.T) {
	r := rand.New(rand.NewSource(13))
	if !Still(fresh(t, r)) {
		t.Error("a new one is")
	}
	if Still(grown(t, r, 3, 0)) {
		t.Error("those that hang on none are not")
	}
	w := grown(t, r, 6, 20)
	if !Still(w) {
		t.Fatalf("%+v", w)
	}
	id := slices.IndexFunc(w.Nodes, func(n api.Node) bool { return n.T.ID > 1 && len(n.T.Kids) > 0 }) + 1
	if id == 0 {
		id = 2
	}
	p := w.Nodes[id-1].T.Parent
	at := slices.IndexFunc(w.Nodes[p-1].T.Kids, func(k api.Kid) bool { return k.ID == id })
	for i, spoil := range []func(w *api.World){
		func(w *api.World) { w.Nodes[p-1].T.Kids[at].Inc++ },
		func(w *api.World) { w.Nodes[id-1].Inc++ },
		func(w *api.World) { w.Nodes[p-1].T.Kids = slices.Delete(w.Nodes[p-1].T.Kids, at, at+1) },
		func(w *api.World) { w.Nodes[id-1].T.Path = append(w.Nodes[id-1].T.Path, 7) },
		func(w *api.World) { w.Nodes[id-1].T.Path[0] = 7 },
		func(w *api.World) { w.Nodes[id-1].T.Path = nil },
		func(w *api.World) { w.Nodes[p-1].T.Path = append(w.Nodes[p-1].T.Path, 7) },
		func(w *api.World) { w.Nodes[id-1].T.Born = w.Nodes[id-1].T.Now - api.Expire - 1 },
		func(w *api.World) { w.Nodes[id-1].T.Kids = append(w.Nodes[id-1].T.Kids, api.Kid{ID: p, Inc: 1}) },
		func(w *api.World) { w.Nodes[id-1].T.Kids = append(w.Nodes[id-1].T.Kids, api.Kid{ID: 8, Inc: 1}) },
		func(w *api.World) { w.Nodes[id-1].T.Kids = append(w.Nodes[id-1].T.Kids, api.Kid{ID: 99, Inc: 1}) },
		func(w *api.World) { w.Nodes[0].T.Kids = append(w.Nodes[0].T.Kids, api.Kid{ID: 1, Inc: 1}) },
		func(w *api.World) { w.Nodes[7] = api.Node{On: true, Inc: 1, T: api.Tie{ID: 8, Inc: 1}} },
	} {
		x := twin.World(w)
		if spoil(&x); Still(x) {
			t.Errorf("%d is not", i)
		}
	}
	old := twin.World(w)
	old.Nodes[id-1].T.Born = old.Nodes[id-1].T.Now - api.Expire
	old.Nodes[0].T.Born -= 1000
	if !Still(old) {
		t.Error("just fresh is fresh")
	}
	room := twin.World(w)
	for i := range room.Nodes {
		s := &room.Nodes[i].T
		s.Path = append(s.Path, 77)[:len(s.Path)]
	}
	if Still(room); room.Nodes[p-1].T.Path[:len(room.Nodes[p-1].T.Path)+1][len(room.Nodes[p-1].T.Path)] != 77 {
		t.Error("it wrote into spare room")
	}
	gone, _ := world.Do(w, api.Step{Kind: api.StepCrash, R: leafOf(w)})
	if Still(gone) || !Tree(gone) {
		t.Error("a kid that has crashed hangs on nobody")
	}
}

// leafOf tells one on which none hangs.
func leafOf(w api.World) int {
	return slices.IndexFunc(w.Nodes, func(n api.Node) bool { return n.On && n.T.ID > 1 && len(n.T.Kids) == 0 }) + 1
}

func TestBound(t *testing.T) {
	if Bound() != 160 {
		t.Error(Bound())
	}
}

// TestW4W5: whatever went wrong, no loop stays, and behind Bound Rounds all hang on the root, and stay where they are.
func TestW4W5(t *testing.T) {
	r := rand.New(rand.NewSource(14))
	for range 25 {
		w := stir(r, fresh(t, r), r.Intn(500))
		for n := range Bound() {
			w = Round(w)
			up, _ := world.Up(w)
			for id := range up {
				if len(tree.Loop(up, id+1)) > 0 && n > api.Beat*api.MaxNode+4 {
					t.Fatalf("a loop stays: %v", up)
				}
			}
		}
		up, _ := world.Up(w)
		for range 60 {
			if !Still(w) {
				t.Fatalf("not still: %+v", w)
			}
			w = Round(w)
			if now, _ := world.Up(w); !slices.Equal(now, up) {
				t.Fatalf("%v, then %v", up, now)
			}
		}
	}
}

// TestW4: of a loop of any length, of which the ways tell nothing yet, somebody lets go within Beat times MaxNode, and four, Rounds.
func TestW4(t *testing.T) {
	for most := 3; most <= api.MaxNode; most++ {
		w := grown(t, rand.New(rand.NewSource(16)), most, 0)
		for id := 2; id <= most; id++ { // 3 hangs on 2, 4 on 3, and so on, 2 on the last one
			s, parent, kid := &w.Nodes[id-1].T, id-1, id+1
			if id == 2 {
				parent = most
			}
			if id == most {
				kid = 2
			}
			s.Parent, s.PInc, s.Kids = parent, 1, []api.Kid{{ID: kid, Inc: 1}}
			for n := range id {
				s.Path = append(s.Path, n+1)
			}
		}
		n := 0
		for up, _ := world.Up(w); len(tree.Loop(up, 2)) > 0; up, _ = world.Up(w) {
			w = Round(w)
			n++
		}
		if n < 1 || n > api.Beat*api.MaxNode+4 {
			t.Errorf("a loop of %d stays for %d Rounds", most-1, n)
		}
	}
}

// TestW6: then each hears all that is said, and no gap.
func TestW6(t *testing.T) {
	r := rand.New(rand.NewSource(15))
	for range 10 {
		w := stir(r, fresh(t, r), r.Intn(300))
		for range Bound() {
			w = Round(w)
		}
		from := len(w.Said)
		for range 40 {
			for range r.Intn(3) {
				w, _ = world.Do(w, api.Step{Kind: api.StepPublish, Text: string(rune('a' + r.Intn(26)))})
			}
			w = Round(w)
		}
		for range 30 {
			w = Round(w)
		}
		for _, n := range w.Nodes {
			if !n.On {
				continue
			}
			var heard []string
			for _, e := range n.F.Log {
				if e.Lo > from && e.Kind == api.Told {
					heard = append(heard, e.Text)
				}
			}
			if !slices.Equal(heard, w.Said[from:]) {
				t.Fatalf("%d of %d: %+v", len(heard), len(w.Said)-from, n)
			}
		}
	}
}

func TestBeyondTheLimits(t *testing.T) {
	for _, w := range []api.World{
		{}, {Nodes: []api.Node{{On: true, T: api.Tie{Parent: 7, Kids: []api.Kid{{ID: -4}}}}}}, {Nodes: make([]api.Node, 20), Fly: []api.Gram{{To: -1}, {To: 15}}},
	} {
		Round(w)
		Tree(w)
		Still(w)
	}
}
