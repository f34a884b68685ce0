package world

import (
	"reflect"
	"slices"
	"strings"
	"testing"

	"pleach/api"
	"pleach/hier"
	"pleach/msg"
	"pleach/net"
	"pleach/node"
	"pleach/twin"
)

// line tells how far it is when all stand in a line, the root in their middle.
func line() [][]int {
	place := []int{0, 10, -10, 20, -20, 30, -30, 40}
	d := make([][]int, api.MaxNode)
	for a := range d {
		d[a] = make([]int, api.MaxNode)
		for b := range d[a] {
			d[a][b] = max(place[a]-place[b], place[b]-place[a])
		}
	}
	return d
}

func fresh(t *testing.T) api.World {
	t.Helper()
	w, ok := New(line(), 2)
	if !ok {
		t.Fatal("no world")
	}
	return w
}

// do tells w behind all of steps, each of which must be done.
func do(t *testing.T, w api.World, steps ...api.Step) api.World {
	t.Helper()
	for _, s := range steps {
		var err api.Errno
		if w, err = Do(w, s); err != api.OK {
			t.Fatalf("%+v: %d", s, err)
		}
	}
	return w
}

// hung tells a world in which 2 and 3 hang on the root, with nothing on its way.
func hung(t *testing.T) api.World {
	t.Helper()
	w := fresh(t)
	for id := 2; id <= 3; id++ {
		w = do(t, w, api.Step{Kind: api.StepJoin, R: id, Text: "né"}, api.Step{Kind: api.StepTick, R: id}, api.Step{Kind: api.StepComes}, api.Step{Kind: api.StepComes})
	}
	if len(w.Fly) != 0 || w.Nodes[1].T.Parent != 1 || w.Nodes[2].T.Parent != 1 {
		t.Fatalf("%+v", w)
	}
	return w
}

// alike tells whether a and b are, by the library, empty lists as none.
func alike(a, b api.World) bool {
	return reflect.DeepEqual(norm(a), norm(b))
}

func norm(w api.World) api.World {
	w = twin.World(w)
	empty(reflect.ValueOf(&w).Elem())
	return w
}

// empty makes all empty lists in v nil.
func empty(v reflect.Value) {
	switch v.Kind() {
	case reflect.Struct:
		for i := range v.NumField() {
			empty(v.Field(i))
		}
	case reflect.Slice:
		if v.Len() == 0 {
			v.SetZero()
		}
		for i := range v.Len() {
			empty(v.Index(i))
		}
	}
}

func refuses(t *testing.T, w api.World, s api.Step, want api.Errno) {
	t.Helper()
	if got, err := Do(w, s); err != want || !alike(got, w) {
		t.Errorf("%+v: %d, and it is %+v", s, err, got)
	}
}

// sent tells fly with ms behind it.
func sent(fly []api.Gram, ms ...api.Msg) []api.Gram {
	for _, m := range ms {
		fly = net.Send(fly, api.Gram{To: m.To, B: string(msg.Put(m))})
	}
	return fly
}

func TestNew(t *testing.T) {
	w := fresh(t)
	root, _ := node.Join(api.Node{}, 1, "root", 0)
	h, _ := hier.New(line(), 2)
	want := api.World{Nodes: append([]api.Node{root}, make([]api.Node, 7)...), H: hier.Join(h, 1)}
	if !alike(w, want) || !w.Nodes[0].On || w.Nodes[0].Name != "root" || len(w.H.Levels) != 1 {
		t.Errorf("%+v", w)
	}
	for _, x := range []struct {
		d [][]int
		k int
	}{{line(), 0}, {line(), 4}, {nil, 2}, {line()[:7], 2}} {
		if w, ok := New(x.d, x.k); ok || !reflect.DeepEqual(w, api.World{}) {
			t.Errorf("New of k %d: %+v, %v", x.k, w, ok)
		}
	}
	d := line()
	w, _ = New(d, 2)
	if d[0][1] = 99; w.H.Dist[0][1] != 10 {
		t.Error("it kept what it was handed")
	}
}

func TestUp(t *testing.T) {
	w := do(t, hung(t), api.Step{Kind: api.StepJoin, R: 5, Text: "x"})
	w.Nodes[6].T.Parent = 3 // it is not on
	up, on := Up(w)
	if !slices.Equal(up, []int{0, 1, 1, 0, 0, 0, 0, 0}) || !slices.Equal(on, []bool{true, true, true, false, true, false, false, false}) {
		t.Error(up, on)
	}
	if up, on := Up(api.World{}); len(up)+len(on) != 0 {
		t.Error(up, on)
	}
}

func TestJoin(t *testing.T) {
	w := hung(t)
	h := hier.Join(w.H, 8)
	n, _ := node.Join(api.Node{}, 8, "\u00a0x", hier.Ask(h, 8))
	want := twin.World(w)
	want.H, want.Nodes[7] = h, n
	got := do(t, w, api.Step{Kind: api.StepJoin, R: 8, Text: "\u00a0x"})
	if !alike(got, want) || n.T.Grand != 2 || n.Inc != 1 {
		t.Errorf("%+v", got)
	}
	back := do(t, got, api.Step{Kind: api.StepCrash, R: 8}, api.Step{Kind: api.StepJoin, R: 8, Text: "y"})
	want.Nodes[7], _ = node.Join(api.Node{Inc: 1}, 8, "y", 2)
	if !alike(back, want) || back.Nodes[7].Inc != 2 {
		t.Errorf("%+v", back)
	}
	for _, s := range []api.Step{{R: 0, Text: "x"}, {R: 9, Text: "x"}, {R: -1, Text: "x"}, {R: 5}, {R: 5, Text: "a b"}, {R: 5, Text: "123456789"}, {R: 9}} {
		s.Kind = api.StepJoin
		refuses(t, w, s, api.EArg)
	}
	for _, s := range []api.Step{{R: 1, Text: "x"}, {R: 2, Text: "x"}, {R: 2}} {
		s.Kind = api.StepJoin
		refuses(t, w, s, api.EBusy)
	}
	w.Nodes[4].Inc = api.MaxNum
	refuses(t, w, api.Step{Kind: api.StepJoin, R: 5, Text: "x"}, api.EArg)
}

func TestLeaveAndCrash(t *testing.T) {
	w := hung(t)
	off, told := node.Off(w.Nodes[1])
	want := twin.World(w)
	want.Nodes[1], want.H, want.Fly = off, hier.Leave(w.H, 2), sent(nil, told...)
	if got := do(t, w, api.Step{Kind: api.StepLeave, R: 2}); !alike(got, want) || len(got.Fly) != 1 {
		t.Errorf("%+v", got)
	}
	want.H, want.Fly = w.H, nil
	if got := do(t, w, api.Step{Kind: api.StepCrash, R: 2}); !alike(got, want) {
		t.Errorf("%+v", got)
	}
	for _, kind := range []int{api.StepLeave, api.StepCrash} {
		refuses(t, w, api.Step{Kind: kind, R: 1}, api.EArg)
		refuses(t, w, api.Step{Kind: kind, R: 0}, api.EArg)
		refuses(t, w, api.Step{Kind: kind, R: 9}, api.EArg)
		refuses(t, w, api.Step{Kind: kind, R: 4}, api.ENone)
	}
	w.Nodes[0].On = false
	refuses(t, w, api.Step{Kind: api.StepLeave, R: 1}, api.ENone)
}

func TestPublish(t *testing.T) {
	w := hung(t)
	for i, text := range []string{"hello", "", strings.Repeat("x", 12)} {
		n, told, _ := node.Say(w.Nodes[0], text)
		want := twin.World(w)
		want.Nodes[0], want.Said, want.Fly = n, append(want.Said, text), sent(want.Fly, told...)
		if w = do(t, w, api.Step{Kind: api.StepPublish, Text: text}); !alike(w, want) || len(w.Fly) != 2*i+2 || w.Said[i] != text {
			t.Errorf("%q: %+v", text, w)
		}
	}
	refuses(t, w, api.Step{Kind: api.StepPublish, Text: strings.Repeat("x", 13)}, api.EArg)
	w.Nodes[0].F.Next = api.MaxSeq + 1
	refuses(t, w, api.Step{Kind: api.StepPublish, Text: "x"}, api.EArg)
}

func TestTick(t *testing.T) {
	w := do(t, hung(t), api.Step{Kind: api.StepTick, R: 1})
	for id := 1; id <= 3; id++ {
		n, told := node.Tick(w.Nodes[id-1])
		want := twin.World(w)
		want.Nodes[id-1], want.Fly = n, sent(nil, told...)
		if got := do(t, w, api.Step{Kind: api.StepTick, R: id}); !alike(got, want) || id == 1 && len(got.Fly) != 2 {
			t.Errorf("%d: %+v", id, got)
		}
	}
	refuses(t, w, api.Step{Kind: api.StepTick, R: 4}, api.ENone)
	refuses(t, w, api.Step{Kind: api.StepTick, R: 0}, api.EArg)
	refuses(t, w, api.Step{Kind: api.StepTick, R: 9}, api.EArg)
	asks := do(t, fresh(t), api.Step{Kind: api.StepJoin, R: 3, Text: "x"}, api.Step{Kind: api.StepTick, R: 3})
	if !slices.Equal(asks.Fly, sent(nil, api.Msg{Kind: api.Attach, From: 3, To: 1, Inc: 1})) {
		t.Error(asks.Fly)
	}
}

func TestComes(t *testing.T) {
	w := do(t, hung(t), api.Step{Kind: api.StepPublish, Text: "a"}, api.Step{Kind: api.StepPublish, Text: "b"})
	for i, g := range w.Fly {
		n, told := node.Comes(w.Nodes[g.To-1], []byte(g.B))
		want := twin.World(w)
		want.Nodes[g.To-1] = n
		want.Fly = sent(slices.Delete(want.Fly, i, i+1), told...)
		if got := do(t, w, api.Step{Kind: api.StepComes, I: i}); !alike(got, want) {
			t.Errorf("%d: %+v", i, got)
		}
	}
	if n := do(t, w, api.Step{Kind: api.StepComes}).Nodes[1]; n.F.Next != 2 || n.F.Log[0].Text != "a" {
		t.Errorf("%+v", n)
	}
	last := do(t, fresh(t), api.Step{Kind: api.StepJoin, R: 8, Text: "x"}, api.Step{Kind: api.StepTick, R: 8}, api.Step{Kind: api.StepComes}, api.Step{Kind: api.StepComes})
	if last.Nodes[7].T.Parent != 1 {
		t.Errorf("to the last one: %+v", last)
	}
	for _, i := range []int{-1, 4, 99} {
		refuses(t, w, api.Step{Kind: api.StepComes, I: i}, api.ENone)
	}
	gone := do(t, w, api.Step{Kind: api.StepCrash, R: w.Fly[0].To})
	want := twin.World(gone)
	want.Fly = want.Fly[1:]
	if got := do(t, gone, api.Step{Kind: api.StepComes}); !alike(got, want) {
		t.Errorf("to one that is gone: %+v", got)
	}
	w.Fly[0].To = 99
	want = twin.World(w)
	want.Fly = want.Fly[1:]
	if got := do(t, w, api.Step{Kind: api.StepComes}); !alike(got, want) {
		t.Errorf("to nobody: %+v", got)
	}
}

func TestLostTwiceTurned(t *testing.T) {
	w := do(t, hung(t), api.Step{Kind: api.StepPublish, Text: "a"}, api.Step{Kind: api.StepPublish, Text: "b"})
	w.Fly[2].Turned = true
	for i := -1; i < 6; i++ {
		for _, to := range []int{0, 5, -5, 770} {
			lost, ok1 := net.Lost(w.Fly, i)
			twice, ok2 := net.Twice(w.Fly, i)
			turned, ok3 := net.Turned(w.Fly, i, to)
			for _, x := range []struct {
				kind int
				fly  []api.Gram
				ok   bool
			}{{api.StepLost, lost, ok1}, {api.StepTwice, twice, ok2}, {api.StepTurned, turned, ok3}} {
				s := api.Step{Kind: x.kind, I: i, To: to}
				if !x.ok {
					refuses(t, w, s, api.ENone)
					continue
				}
				want := twin.World(w)
				want.Fly = x.fly
				if got := do(t, w, s); !alike(got, want) {
					t.Errorf("%+v: %+v", s, got.Fly)
				}
			}
		}
	}
	bad := do(t, w, api.Step{Kind: api.StepTurned, To: 1}, api.Step{Kind: api.StepComes})
	if n := bad.Nodes[w.Fly[0].To-1]; n.Bad != 1 || len(n.F.Log) != 0 {
		t.Errorf("%+v", n)
	}
}

func TestOtherKinds(t *testing.T) {
	for _, kind := range []int{0, -1, 10, 99, -1 << 63} {
		refuses(t, hung(t), api.Step{Kind: kind, R: 2, Text: "x"}, api.EArg)
	}
}

func TestWhatMayNotBeIsNotSent(t *testing.T) {
	w := fresh(t)
	w.Nodes[0].F.Next = api.MaxSeq + 1 // the root would tell 2 to begin behind the last number
	w = do(t, w, api.Step{Kind: api.StepJoin, R: 2, Text: "x"}, api.Step{Kind: api.StepTick, R: 2}, api.Step{Kind: api.StepComes})
	if len(w.Fly) != 0 || len(w.Nodes[0].T.Kids) != 1 {
		t.Errorf("%+v", w)
	}
}

func TestNoRoom(t *testing.T) {
	w := hung(t)
	for range 40 {
		w = do(t, w, api.Step{Kind: api.StepPublish, Text: "x"})
	}
	if len(w.Fly) != api.MaxFly || len(w.Said) != 40 {
		t.Error(len(w.Fly), len(w.Said))
	}
	refuses(t, w, api.Step{Kind: api.StepTwice}, api.ENone)
}

// full tells a world that has something of everything.
func full(t *testing.T) api.World {
	t.Helper()
	w := do(t, hung(t), api.Step{Kind: api.StepPublish, Text: "a"}, api.Step{Kind: api.StepPublish, Text: "b"}, api.Step{Kind: api.StepComes, I: 1}, api.Step{Kind: api.StepLost})
	w = do(t, w, api.Step{Kind: api.StepComes})
	w = do(t, w, api.Step{Kind: api.StepJoin, R: 6, Text: "x"}, api.Step{Kind: api.StepTick, R: 6}, api.Step{Kind: api.StepJoin, R: 8, Text: "y"}, api.Step{Kind: api.StepJoin, R: 7, Text: "z"})
	w = do(t, w, api.Step{Kind: api.StepCrash, R: 8})
	n := &w.Nodes[1]
	if len(n.F.Win) != 1 || len(w.Nodes[2].F.Log) != 1 || len(w.Fly) == 0 || len(w.H.Levels) < 2 {
		t.Fatalf("%+v", w)
	}
	return w
}

// leaves calls f for each number, text and truth in v, each behind a change of it.
func leaves(v reflect.Value, where string, f func(where string)) {
	switch v.Kind() {
	case reflect.Struct:
		for i := range v.NumField() {
			leaves(v.Field(i), where+"."+v.Type().Field(i).Name, f)
		}
	case reflect.Slice:
		was := reflect.ValueOf(v.Interface())
		v.Set(reflect.Append(v, reflect.Zero(v.Type().Elem())))
		f(where + " longer")
		v.Set(was)
		if v.Len() > 0 {
			v.Set(v.Slice(0, v.Len()-1))
			f(where + " shorter")
			v.Set(was)
		}
		for i := range v.Len() {
			leaves(v.Index(i), where+"[]", f)
		}
	case reflect.Int:
		v.SetInt(v.Int() + 1)
		f(where)
		v.SetInt(v.Int() - 1)
	case reflect.String:
		was := v.String()
		v.SetString(was + "?")
		f(where)
		v.SetString(was)
	case reflect.Bool:
		v.SetBool(!v.Bool())
		f(where)
		v.SetBool(!v.Bool())
	}
}

func TestSame(t *testing.T) {
	a, b := full(t), full(t)
	if !Same(a, b) || !Same(a, norm(a)) || !Same(api.World{}, api.World{}) || Same(a, api.World{}) {
		t.Fatal("Same")
	}
	n := 0
	leaves(reflect.ValueOf(&b).Elem(), "w", func(where string) {
		n++
		if Same(a, b) || Same(b, a) {
			t.Errorf("another %s: the same", where)
		}
	})
	if n < 300 || !Same(a, b) {
		t.Error(n)
	}
}

// every tells a step of each kind, done and refused.
func every() []api.Step {
	var l []api.Step
	for kind := -1; kind < 11; kind++ {
		for r := -1; r < 10; r++ {
			for _, to := range []int{0, 1, 1 << 40} {
				l = append(l, api.Step{Kind: kind, R: r, I: r, To: to, Text: "x"})
			}
		}
	}
	return l
}

func TestNothingIsTouched(t *testing.T) {
	w := full(t)
	for i := range w.Nodes { // room behind each list
		n := &w.Nodes[i]
		n.T.Path, n.T.Kids, n.F.Log = slices.Grow(n.T.Path, 4), slices.Grow(n.T.Kids, 4), slices.Grow(n.F.Log, 4)
	}
	w.Fly, w.Said = slices.Grow(w.Fly, 4), slices.Grow(w.Said, 4)
	was := twin.World(w)
	room := w.Said[:cap(w.Said)]
	for _, s := range every() {
		got, _ := Do(w, s)
		leaves(reflect.ValueOf(&got).Elem(), "", func(string) {
			if !Same(w, was) {
				t.Fatalf("%+v shares with what it was handed", s)
			}
		})
		if !Same(w, was) || room[len(w.Said)] != "" {
			t.Fatalf("%+v changed what it was handed", s)
		}
	}
	up, on := Up(w)
	up[1], on[1] = 99, false
	if !Same(w, was) {
		t.Error("Up shares with what it was handed")
	}
}

func TestBeyondTheLimits(t *testing.T) {
	for _, w := range []api.World{
		{}, {Nodes: make([]api.Node, 3)}, {Nodes: []api.Node{{On: true}}, Fly: []api.Gram{{To: -1}, {To: 2, B: "x"}}},
		{Nodes: make([]api.Node, 12), H: api.Hier{K: 9, Levels: [][]api.Cluster{{}}}},
	} {
		for _, s := range every() {
			if got, err := Do(w, s); err != api.OK && !alike(got, w) {
				t.Errorf("%+v: %+v", s, got)
			}
		}
		Up(w)
		Same(w, w)
	}
}
