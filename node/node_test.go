package node

import (
	"math/rand"
	"reflect"
	"slices"
	"strings"
	"testing"

	"pleach/api"
	"pleach/feed"
	"pleach/log"
	"pleach/msg"
	"pleach/ring"
	"pleach/tie"
)

// word is what number n is in these tests.
func word(n int) string {
	return "t" + string(rune('a'+n%26))
}

// fed tells a feed that began with from and told all to next-1.
func fed(from, next, top int, win ...int) api.Feed {
	f := api.Feed{Next: next, Top: top}
	for n := from; n < next; n++ {
		f.Log = log.Tell(f.Log, n, word(n))
		f.Ring = ring.Add(f.Ring, api.Item{Seq: n, Text: word(n)})
	}
	for _, n := range win {
		f.Win = append(f.Win, api.Item{Seq: n, Text: word(n)})
	}
	return f
}

// inner tells number 4 at tick 40, which hangs on 3, with kids 6 and 7, and has told 1 to 8.
func inner() api.Node {
	return api.Node{On: true, Inc: 6, Name: "né", Bad: 5, F: fed(1, 9, 8), T: api.Tie{ID: 4, Inc: 6, Now: 40, Parent: 3, PInc: 5, Grand: 2, Path: []int{1, 2, 3, 4}, Epoch: 9, Born: 33, Kids: []api.Kid{{ID: 6, Inc: 3, Heard: 38}, {ID: 7, Inc: 1, Heard: 39}}}}
}

// top tells the root at tick 30, with kids 2 and 5, having said 1 to 2.
func top() api.Node {
	return api.Node{On: true, Inc: 1, Name: "root", F: fed(1, 3, 2), T: api.Tie{ID: 1, Inc: 1, Now: 30, Path: []int{1}, Epoch: 15, Born: 30, Kids: []api.Kid{{ID: 2, Inc: 4, Heard: 25}, {ID: 5, Inc: 2, Heard: 29}}}}
}

// with tells n behind a change.
func with(n api.Node, change func(n *api.Node)) api.Node {
	change(&n)
	return n
}

func norm(n api.Node) api.Node {
	if len(n.T.Path) == 0 {
		n.T.Path = nil
	}
	if len(n.T.Kids) == 0 {
		n.T.Kids = nil
	}
	if len(n.F.Ring) == 0 {
		n.F.Ring = nil
	}
	if len(n.F.Win) == 0 {
		n.F.Win = nil
	}
	if len(n.F.Log) == 0 {
		n.F.Log = nil
	}
	return n
}

func check(t *testing.T, what string, got api.Node, told []api.Msg, want api.Node, tell ...api.Msg) {
	t.Helper()
	if !reflect.DeepEqual(norm(got), norm(want)) {
		t.Errorf("%s: it is\n%+v, not\n%+v", what, got, want)
	}
	if len(told)+len(tell) > 0 && !reflect.DeepEqual(told, tell) {
		t.Errorf("%s: it tells\n%+v, not\n%+v", what, told, tell)
	}
}

// data and note tell a message of n.
func data(n api.Node, to, seq int) api.Msg {
	return api.Msg{Kind: api.Data, From: n.T.ID, To: to, Inc: n.Inc, Lo: seq, Text: word(seq)}
}

func note(n api.Node, to, lo, hi int) api.Msg {
	return api.Msg{Kind: api.Note, From: n.T.ID, To: to, Inc: n.Inc, Lo: lo, Hi: hi}
}

// comes tells n behind m, and what it tells.
func comes(t *testing.T, n api.Node, m api.Msg) (api.Node, []api.Msg) {
	t.Helper()
	b := msg.Put(m)
	if b == nil {
		t.Fatalf("%+v may not be told", m)
	}
	return Comes(n, b)
}

func TestJoin(t *testing.T) {
	got, ok := Join(api.Node{}, 1, "root", 0)
	if check(t, "the root", got, nil, api.Node{On: true, Inc: 1, Name: "root", T: tie.New(1, 1, 0, 0)}); !ok {
		t.Error("no")
	}
	was := api.Node{Inc: 6, Bad: 9}
	got, ok = Join(was, 8, "néé", 3)
	if check(t, "again", got, nil, api.Node{On: true, Inc: 7, Name: "néé", T: tie.New(8, 7, 0, 3)}); !ok {
		t.Error("no")
	}
	got, ok = Join(api.Node{Inc: api.MaxNum - 1}, 8, "a", 3)
	if !ok || got.Inc != api.MaxNum || got.T.Inc != api.MaxNum {
		t.Error(got, ok)
	}
	for _, x := range []struct {
		n    api.Node
		id   int
		name string
	}{
		{inner(), 4, "a"}, {was, 0, "a"}, {was, 9, "a"}, {was, -1, "a"}, {was, 2, ""}, {was, 2, "a b"}, {was, 2, "123456789"}, {was, 2, "\xff"}, {api.Node{Inc: api.MaxNum}, 2, "a"}, {api.Node{Inc: 1<<63 - 1}, 2, "a"},
	} {
		got, ok := Join(x.n, x.id, x.name, 1)
		if check(t, "none", got, nil, x.n); ok {
			t.Errorf("Join of %d, %q: yes", x.id, x.name)
		}
	}
}

func TestOffAndCrash(t *testing.T) {
	gone := api.Node{Inc: 6, Bad: 5}
	got, told := Off(inner())
	check(t, "Off", got, told, gone, tie.Leave(inner().T)...)
	if len(told) != 3 {
		t.Error(told)
	}
	check(t, "Crash", Crash(inner()), nil, gone)
	off := with(inner(), func(n *api.Node) { n.On = false })
	got, told = Off(off)
	check(t, "Off of one that is off", got, told, off)
	check(t, "Crash of one that is off", Crash(off), nil, off)
	got, told = Tick(off)
	check(t, "Tick of one that is off", got, told, off)
	got, told = Comes(off, []byte("x"))
	check(t, "Comes of one that is off", got, told, off)
	got, told = comes(t, off, api.Msg{Kind: api.BeatUp, From: 6, To: 4, Inc: 3})
	check(t, "Comes of one that is off", got, told, off)
}

func TestSay(t *testing.T) {
	got, told, ok := Say(top(), word(3))
	check(t, "the root", got, told, with(top(), func(n *api.Node) { n.F = fed(1, 4, 3) }), data(top(), 2, 3), data(top(), 5, 3))
	if !ok {
		t.Error("no")
	}
	alone, _ := Join(api.Node{}, 1, "root", 0)
	got, told, ok = Say(alone, word(1))
	if check(t, "alone", got, told, with(alone, func(n *api.Node) { n.F = fed(1, 2, 1) })); !ok {
		t.Error("no")
	}
	for _, x := range []struct {
		n    api.Node
		text string
	}{{inner(), "a"}, {top(), strings.Repeat("x", 13)}, {with(top(), func(n *api.Node) { n.On = false }), "a"}, {with(top(), func(n *api.Node) { n.F.Next = api.MaxSeq + 1 }), "a"}} {
		got, told, ok = Say(x.n, x.text)
		if check(t, "none", got, told, x.n); ok {
			t.Errorf("Say of %q: yes", x.text)
		}
	}
}

func TestTick(t *testing.T) {
	got, told := Tick(inner())
	check(t, "no beat", got, told, with(inner(), func(n *api.Node) { n.T.Now = 41 }))
	beats := func(n api.Node, hi int) []api.Msg {
		_, want := tie.Tick(n.T)
		for i := range want {
			if want[i].Kind == api.BeatDn {
				want[i].Hi = hi
			}
		}
		return want
	}
	even := with(inner(), func(n *api.Node) { n.T.Now = 41 })
	got, told = Tick(even)
	check(t, "a beat", got, told, with(inner(), func(n *api.Node) { n.T.Now = 42 }), beats(even, 8)...)
	if len(told) != 3 || told[1].Hi != 8 || told[0].Hi != 0 {
		t.Error(told)
	}
	idle := with(even, func(n *api.Node) { n.F = api.Feed{} })
	got, told = Tick(idle)
	check(t, "not begun", got, told, with(idle, func(n *api.Node) { n.T.Now = 42 }), beats(idle, 0)...)

	lacks := with(even, func(n *api.Node) { n.F = fed(1, 9, 12, 11) })
	nak := api.Msg{Kind: api.Nak, From: 4, To: 3, Inc: 6, Lo: 9, Hi: 10}
	got, told = Tick(lacks)
	check(t, "it lacks some", got, told, with(lacks, func(n *api.Node) { n.T.Now, n.F.Ask = 42, api.Ask{Tries: 1, Due: 44} }), append(beats(lacks, 8), nak)...)
	tired := with(lacks, func(n *api.Node) { n.F.Ask = api.Ask{Tries: 3, Due: 42} })
	f, _, _ := feed.Tick(tired.F, 42)
	got, told = Tick(tired)
	check(t, "it is tired", got, told, with(tired, func(n *api.Node) { n.T.Now, n.F = 42, f }), append(beats(lacks, 8), note(even, 6, 9, 10), note(even, 7, 9, 10), data(even, 6, 11), data(even, 7, 11))...)
	soon := with(tired, func(n *api.Node) { n.F.Ask.Due = 43 })
	got, told = Tick(soon)
	check(t, "not yet", got, told, with(soon, func(n *api.Node) { n.T.Now = 42 }), beats(lacks, 8)...)

	loose := with(tired, func(n *api.Node) { n.T = api.Tie{ID: 4, Inc: 6, Now: 41, Asked: 3, Until: 90} })
	got, told = Tick(loose)
	check(t, "it hangs on none", got, told, with(loose, func(n *api.Node) { n.T.Now = 42 }))
	stale := with(lacks, func(n *api.Node) { n.T.Born = 20 })
	got, told = Tick(stale)
	check(t, "it has let go", got, told, with(stale, func(n *api.Node) { n.T, _ = tie.Tick(stale.T) }), beats(stale, 8)...)
	root := with(top(), func(n *api.Node) { n.T.Now, n.F.Top = 31, 9 })
	got, told = Tick(root)
	check(t, "the root", got, told, with(root, func(n *api.Node) { n.T, _ = tie.Tick(root.T) }), beats(root, 2)...)
}

func TestBad(t *testing.T) {
	good := msg.Put(api.Msg{Kind: api.BeatUp, From: 6, To: 4, Inc: 3})
	other := msg.Put(api.Msg{Kind: api.BeatUp, From: 6, To: 5, Inc: 3})
	turned := slices.Clone(good)
	turned[3] ^= 4
	for _, b := range [][]byte{nil, []byte("x"), other, turned, good[1:]} {
		got, told := Comes(inner(), b)
		check(t, "none", got, told, with(inner(), func(n *api.Node) { n.Bad = 6 }))
		for bad, want := range map[int]int{api.MaxNum - 1: api.MaxNum, api.MaxNum: api.MaxNum} {
			if got, _ := Comes(with(inner(), func(n *api.Node) { n.Bad = bad }), b); got.Bad != want {
				t.Errorf("%d: %d", bad, got.Bad)
			}
		}
	}
	got, told := Comes(inner(), good)
	check(t, "one", got, told, with(inner(), func(n *api.Node) { n.T.Kids[0].Heard = 40 }))
}

func TestAttachTellsNext(t *testing.T) {
	ask := api.Msg{Kind: api.Attach, From: 8, To: 4, Inc: 1}
	for _, x := range [][2]int{{0, 1}, {1, 1}, {9, 9}} {
		n := with(inner(), func(n *api.Node) { n.F = api.Feed{Next: x[0]} })
		got, told := comes(t, n, ask)
		want, tell := tie.Comes(n.T, ask, x[1])
		check(t, "a kid", got, told, with(n, func(n *api.Node) { n.T = want }), tell...)
		if told[0].Kind != api.Accept || told[0].Lo != x[1] {
			t.Error(told)
		}
	}
}

func TestAccept(t *testing.T) {
	yes := func(from, lo int) api.Msg {
		return api.Msg{Kind: api.Accept, From: from, To: 4, Inc: 5, Path: []int{1, from}, Lo: lo}
	}
	loose := with(inner(), func(n *api.Node) { n.F, n.T = api.Feed{}, api.Tie{ID: 4, Inc: 6, Now: 40, Asked: 3, Until: 42} })
	for _, x := range []struct {
		what string
		n    api.Node
		m    api.Msg
		f    api.Feed
	}{
		{"it begins", loose, yes(3, 9), api.Feed{Next: 9, Top: 8}},
		{"it begins at 1", loose, yes(3, 1), api.Feed{Next: 1}},
		{"it can't begin at 0", loose, yes(3, 0), api.Feed{}},
		{"it had begun", with(loose, func(n *api.Node) { n.F = fed(1, 5, 4) }), yes(3, 9), fed(1, 5, 8)},
		{"it had begun, and had more", with(loose, func(n *api.Node) { n.F = fed(1, 5, 4) }), yes(3, 2), fed(1, 5, 4)},
		{"of another one", with(loose, func(n *api.Node) { n.F = fed(1, 5, 4) }), yes(2, 9), fed(1, 5, 4)},
		{"over itself", with(loose, func(n *api.Node) { n.F = fed(1, 5, 4) }), api.Msg{Kind: api.Accept, From: 3, To: 4, Inc: 5, Path: []int{1, 4, 3}, Lo: 9}, fed(1, 5, 4)},
		{"of the parent, once more", inner(), yes(3, 30), inner().F},
		{"it hangs on another one", inner(), yes(2, 30), inner().F},
	} {
		got, told := comes(t, x.n, x.m)
		want, tell := tie.Comes(x.n.T, x.m, max(x.n.F.Next, 1))
		check(t, x.what, got, told, with(x.n, func(n *api.Node) { n.T, n.F = want, x.f }), tell...)
	}
}

func TestBeatDn(t *testing.T) {
	down := func(from, inc, hi int, p ...int) api.Msg {
		return api.Msg{Kind: api.BeatDn, From: from, To: 4, Inc: inc, Path: p, Hi: hi}
	}
	for _, x := range []struct {
		what string
		n    api.Node
		m    api.Msg
		top  int
	}{
		{"of the parent", inner(), down(3, 5, 12, 1, 3), 12},
		{"of the parent, less", inner(), down(3, 5, 2, 1, 3), 8},
		{"of the parent, as it lived before", inner(), down(3, 4, 12, 1, 3), 12}, // no PInc is asked for
		{"over itself", inner(), down(3, 5, 12, 1, 4, 3), 8},
		{"of the parent that lives anew", inner(), down(3, 6, 12, 1, 3), 8},
		{"of another one", inner(), down(2, 5, 12, 1, 2), 8},
		{"of a kid", inner(), down(6, 3, 12, 1, 6), 8},
	} {
		got, told := comes(t, x.n, x.m)
		want, tell := tie.Comes(x.n.T, x.m, 9)
		check(t, x.what, got, told, with(x.n, func(n *api.Node) { n.T, n.F.Top = want, x.top }), tell...)
	}
}

func TestDataAndNote(t *testing.T) {
	n := inner()
	from := func(kind, from, inc, lo, hi int) api.Msg {
		m := api.Msg{Kind: kind, From: from, To: 4, Inc: inc, Lo: lo, Hi: hi}
		if kind == api.Data {
			m.Text = word(lo)
		}
		return m
	}
	set := func(f api.Feed) api.Node { return with(inner(), func(n *api.Node) { n.F = f }) }
	got, told := comes(t, n, from(api.Data, 3, 5, 9, 0))
	check(t, "next", got, told, set(fed(1, 10, 9)), data(n, 6, 9), data(n, 7, 9))
	got, told = comes(t, n, from(api.Data, 3, 5, 11, 0))
	check(t, "ahead", got, told, set(fed(1, 9, 11, 11)))
	got, told = comes(t, set(fed(1, 9, 11, 10, 12)), from(api.Data, 3, 5, 9, 0))
	check(t, "with one that waits", got, told, set(fed(1, 11, 11, 12)), data(n, 6, 9), data(n, 7, 9), data(n, 6, 10), data(n, 7, 10))
	got, told = comes(t, set(fed(1, 9, 13, 11, 13)), from(api.Note, 3, 5, 8, 10))
	check(t, "a note", got, told, set(feed.Notes(fed(1, 9, 13, 11, 13), 8, 10)), note(n, 6, 9, 10), note(n, 7, 9, 10), data(n, 6, 11), data(n, 7, 11))
	got, told = comes(t, n, from(api.Note, 3, 5, 12, 13))
	check(t, "a note ahead", got, told, set(fed(1, 9, 13)))
	for _, kind := range []int{api.Data, api.Note} {
		hi := 0
		if kind == api.Note {
			hi = 9
		}
		for _, x := range [][2]int{{3, 4}, {2, 5}, {6, 3}, {8, 1}} {
			got, told = comes(t, n, from(kind, x[0], x[1], 9, hi))
			check(t, "not of the parent", got, told, n)
		}
		got, told = comes(t, n, from(kind, 3, 6, 9, hi))
		want, tell := tie.Comes(n.T, from(kind, 3, 6, 9, hi), 9)
		check(t, "of the parent that lives anew", got, told, with(n, func(n *api.Node) { n.T = want }), tell...)
		root := top()
		m := from(kind, 2, 4, 3, hi)
		m.To = 1
		got, told = comes(t, root, m)
		check(t, "to the root", got, told, root)
	}
}

func TestNak(t *testing.T) {
	n := with(inner(), func(n *api.Node) { n.F = fed(1, 12, 20) })
	nak := func(from, inc, lo, hi int) api.Msg {
		return api.Msg{Kind: api.Nak, From: from, To: 4, Inc: inc, Lo: lo, Hi: hi}
	}
	got, told := comes(t, n, nak(6, 3, 4, 8))
	check(t, "items, then pieces", got, told, n, data(n, 6, 6), data(n, 6, 7), data(n, 6, 8), note(n, 6, 4, 5))
	got, told = comes(t, n, nak(7, 1, 10, 15))
	check(t, "no more than it has", got, told, n, data(n, 7, 10), data(n, 7, 11))
	for _, m := range []api.Msg{nak(6, 2, 4, 8), nak(6, 4, 4, 8), nak(8, 1, 4, 8), nak(3, 5, 4, 8), nak(6, 3, 12, 15)} {
		got, told = comes(t, n, m)
		check(t, "nothing", got, told, n)
	}
	idle := with(n, func(n *api.Node) { n.F = api.Feed{} })
	got, told = comes(t, idle, nak(6, 3, 1, 8))
	check(t, "it has not begun", got, told, idle)
	loose := with(n, func(n *api.Node) { n.T.Parent, n.T.PInc, n.T.Path = 0, 0, nil })
	got, told = comes(t, loose, nak(6, 3, 11, 11))
	check(t, "it hangs on none, but has it", got, told, loose, data(n, 6, 11))
}

// TestTieIsToldFirst: a message of one that hangs elsewhere is answered as tie answers.
func TestTieIsToldFirst(t *testing.T) {
	for kind := api.Attach; kind <= api.Detach; kind++ {
		for from := 1; from <= 8; from++ {
			m := api.Msg{Kind: kind, From: from, To: 4, Inc: 5}
			if kind == api.Accept || kind == api.BeatDn {
				m.Path = []int{1, from}
			}
			if b := msg.Put(m); b != nil {
				got, told := Comes(inner(), b)
				want, tell := tie.Comes(inner().T, m, 9)
				check(t, "as tie", got, told, with(inner(), func(n *api.Node) { n.T = want }), tell...)
			}
		}
	}
}

// scribble writes over all of n and told, and over the spare room behind their lists.
func scribble(n api.Node, told []api.Msg) {
	n.T.Path, n.T.Kids, n.F.Log = append(n.T.Path, 0), append(n.T.Kids, api.Kid{}), append(n.F.Log, api.Event{})
	for i := range n.T.Path {
		n.T.Path[i] = 99
	}
	for i := range n.T.Kids {
		n.T.Kids[i] = api.Kid{ID: 99}
	}
	for i := range n.F.Log {
		n.F.Log[i] = api.Event{Kind: 99}
	}
	for _, l := range [][]api.Item{append(n.F.Ring, api.Item{}), append(n.F.Win, api.Item{})} {
		for i := range l {
			l[i] = api.Item{Seq: 99}
		}
	}
	for _, m := range told {
		for i := range m.Path {
			m.Path[i] = 99
		}
	}
}

func TestNothingIsTouched(t *testing.T) {
	roomy := func() api.Node {
		n := inner()
		n.F = fed(1, 9, 14, 12, 14)
		n.T.Path, n.T.Kids = append(n.T.Path, 77)[:4], append(n.T.Kids, api.Kid{ID: 77})[:2]
		n.F.Ring, n.F.Win, n.F.Log = append(n.F.Ring, api.Item{Seq: 77})[:6], append(n.F.Win, api.Item{Seq: 77})[:2], append(n.F.Log, api.Event{Kind: 77})[:8]
		n.T.Now = 41
		return n
	}
	n := roomy()
	off := n
	off.On = false
	asRoot := n
	asRoot.T.ID = 1
	tired := n
	tired.F.Ask = api.Ask{Tries: 3}
	for _, x := range []api.Node{n, off, asRoot, tired} {
		scribble(Tick(x))
		scribble(Off(x))
		scribble(Crash(x), nil)
		j, _ := Join(x, 3, "a", 1)
		scribble(j, nil)
		said, told, _ := Say(x, "a")
		scribble(said, told)
		said, told, _ = Say(x, "aaaaaaaaaaaaaaaaaa")
		scribble(said, told)
		scribble(Comes(x, nil))
		for kind := api.Attach; kind <= api.Note; kind++ {
			for _, from := range []int{3, 6, 8} {
				m := api.Msg{Kind: kind, From: from, To: x.T.ID, Inc: 5, Lo: 9, Hi: 9}
				switch kind {
				case api.Accept:
					m.Path, m.Hi = []int{1, from}, 0
				case api.BeatDn:
					m.Path, m.Lo = []int{1, from}, 0
				case api.Data:
					m.Hi = 0
				case api.Nak, api.Note:
				default:
					m.Lo, m.Hi = 0, 0
				}
				b := msg.Put(m)
				if b == nil {
					t.Fatal(m)
				}
				was := slices.Clone(b)
				scribble(Comes(x, b))
				if !slices.Equal(b, was) {
					t.Fatal("it changed the bytes")
				}
			}
		}
	}
	if !reflect.DeepEqual(n, roomy()) || n.T.Path[:5][4] != 77 || n.T.Kids[:3][2].ID != 77 || n.F.Ring[:7][6].Seq != 77 || n.F.Win[:3][2].Seq != 77 || n.F.Log[:9][8].Kind != 77 {
		t.Errorf("%+v", n)
	}
}

// TestWhateverComes: bytes of whatever kind, to whomever.
func TestWhateverComes(t *testing.T) {
	r := rand.New(rand.NewSource(9))
	for range 300 {
		n, _ := Join(api.Node{}, 4, "x", 2)
		first := 0
		for range 100 {
			m := api.Msg{Kind: 1 + r.Intn(9), From: 1 + r.Intn(8), To: 4, Inc: 1 + r.Intn(3)}
			if n.T.Asked != 0 && r.Intn(2) == 0 {
				m.Kind, m.From = api.Accept, n.T.Asked
			}
			if n.T.Parent != 0 && r.Intn(2) == 0 {
				m.Kind, m.From, m.Inc = []int{api.Data, api.Note, api.BeatDn}[r.Intn(3)], n.T.Parent, n.T.PInc
			}
			lo := max(1, n.F.Next+r.Intn(8)-3)
			switch m.Kind {
			case api.Accept:
				m.Path, m.Lo = []int{1, m.From}, lo
				if m.From == 1 {
					m.Path = []int{1}
				}
			case api.BeatDn:
				m.Path, m.Hi = []int{1, m.From}, lo
				if m.From == 1 {
					m.Path = []int{1}
				}
			case api.Data:
				m.Lo, m.Text = lo, word(lo)
			case api.Nak, api.Note:
				m.Lo, m.Hi = lo, lo+r.Intn(4)
			}
			was := n
			var told []api.Msg
			if r.Intn(4) == 0 {
				n, told = Tick(n)
			} else {
				n, told = Comes(n, msg.Put(m))
			}
			if first == 0 {
				first = n.F.Next
			}
			if first > 0 && (!log.May(n.F.Log, first) || log.Next(n.F.Log, first) != n.F.Next) {
				t.Fatalf("%+v of\n%+v comes to\n%+v", m, was, n)
			}
			for _, x := range told {
				if !msg.May(x) || x.From != 4 {
					t.Fatalf("%+v of\n%+v tells\n%+v", m, was, x)
				}
			}
		}
	}
}

func TestBeyondTheLimits(t *testing.T) {
	for _, v := range []int{-1 << 63, -1, 0, 1, 9, 1<<63 - 1} {
		n := api.Node{On: true, Inc: v, Bad: v, T: api.Tie{ID: v, Inc: v, Now: v, Parent: v, Path: []int{v}, Kids: []api.Kid{{ID: v}}}, F: api.Feed{Next: v, Top: v, Win: []api.Item{{Seq: v}}}}
		Tick(n)
		Off(n)
		Say(n, "x")
		n.T.ID = 4
		for kind := api.Attach; kind <= api.Note; kind++ {
			Comes(n, msg.Put(api.Msg{Kind: kind, From: 3, To: 4, Inc: 1}))
			Comes(n, msg.Put(api.Msg{Kind: kind, From: 3, To: 4, Inc: 1, Lo: 1, Hi: 5}))
			Comes(n, msg.Put(api.Msg{Kind: kind, From: 3, To: 4, Inc: 1, Lo: 1}))
		}
	}
}
