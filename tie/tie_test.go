package tie

import (
	"math/rand"
	"reflect"
	"slices"
	"testing"

	"pleach/api"
	"pleach/kids"
	"pleach/path"
)

// top tells the root at tick 30, with kids 2 and 5.
func top() api.Tie {
	return api.Tie{ID: 1, Inc: 1, Now: 30, Path: []int{1}, Epoch: 15, Born: 30, Kids: []api.Kid{{ID: 2, Inc: 4, Heard: 25}, {ID: 5, Inc: 2, Heard: 11}}}
}

// leaf tells number 4 at tick 40, which hangs on 3, that on 2, that on the root; its kids are 6 and 7.
func leaf() api.Tie {
	return api.Tie{ID: 4, Inc: 6, Now: 40, Parent: 3, PInc: 5, Grand: 2, Path: []int{1, 2, 3, 4}, Epoch: 9, Born: 33, Kids: []api.Kid{{ID: 6, Inc: 3, Heard: 38}, {ID: 7, Inc: 1, Heard: 21}}}
}

// loose tells number 4 at tick 40, which hangs on none, and has asked 3.
func loose() api.Tie {
	return api.Tie{ID: 4, Inc: 6, Now: 40, Grand: 3, Epoch: 9, Born: 12, Asked: 3, Until: 42, Kids: []api.Kid{{ID: 6, Inc: 3, Heard: 38}}}
}

// with tells t behind a change.
func with(t api.Tie, change func(t *api.Tie)) api.Tie {
	change(&t)
	return t
}

// free tells t having let go.
func free(t api.Tie, step int) api.Tie {
	t.Parent, t.PInc, t.Path, t.Asked, t.Step = 0, 0, nil, 0, step
	return t
}

// from4 tells a message of number 4, as it lives in leaf and loose.
func from4(kind, to int) api.Msg {
	return api.Msg{Kind: kind, From: 4, To: to, Inc: 6}
}

func from1(kind, to int) api.Msg {
	return api.Msg{Kind: kind, From: 1, To: to, Inc: 1}
}

// way tells m with what Accept and BeatDn have.
func way(m api.Msg, epoch, age int, p ...int) api.Msg {
	m.Epoch, m.Age, m.Path = epoch, age, p
	return m
}

// norm tells v with empty lists as nil.
func norm(t api.Tie) api.Tie {
	if len(t.Path) == 0 {
		t.Path = nil
	}
	if len(t.Kids) == 0 {
		t.Kids = nil
	}
	return t
}

func check(t *testing.T, what string, got api.Tie, told []api.Msg, want api.Tie, tell ...api.Msg) {
	t.Helper()
	if !reflect.DeepEqual(norm(got), norm(want)) {
		t.Errorf("%s: it is\n%+v, not\n%+v", what, got, want)
	}
	if len(told)+len(tell) > 0 && !reflect.DeepEqual(told, tell) {
		t.Errorf("%s: it tells\n%+v, not\n%+v", what, told, tell)
	}
}

func TestNew(t *testing.T) {
	check(t, "the root", New(1, 3, 7, 0), nil, api.Tie{ID: 1, Inc: 3, Now: 7, Path: []int{1}, Born: 7})
	check(t, "another one", New(4, 3, 7, 2), nil, api.Tie{ID: 4, Inc: 3, Now: 7, Grand: 2})
	check(t, "another one at 0", New(2, 1, 0, 0), nil, api.Tie{ID: 2, Inc: 1})
	New(1, 1, 0, 0).Path[0] = 99
	if New(1, 1, 0, 0).Path[0] != 1 {
		t.Error("all roots share a path")
	}
}

func TestFresh(t *testing.T) {
	for _, x := range []struct {
		t    api.Tie
		want bool
	}{
		{api.Tie{ID: 1, Now: 900}, true},
		{api.Tie{ID: 4, Parent: 3, Now: 40, Born: 20}, true},
		{api.Tie{ID: 4, Parent: 3, Now: 41, Born: 20}, false},
		{api.Tie{ID: 4, Parent: 3, Now: 40, Born: 40}, true},
		{api.Tie{ID: 4, Now: 40, Born: 40}, false},
		{api.Tie{}, false},
	} {
		if Fresh(x.t) != x.want {
			t.Errorf("Fresh of %+v", x.t)
		}
	}
}

func TestTickOfTheRoot(t *testing.T) {
	got, told := Tick(top())
	check(t, "no beat", got, told, with(top(), func(t *api.Tie) { t.Now = 31 }))
	got, told = Tick(got)
	check(t, "a beat, one is gone", got, told, with(top(), func(t *api.Tie) { t.Now, t.Born, t.Epoch, t.Kids = 32, 32, 16, t.Kids[:1] }), way(from1(api.BeatDn, 2), 16, 0, 1))
	both := with(top(), func(t *api.Tie) { t.Now, t.Kids[1].Heard = 31, 12 })
	got, told = Tick(both)
	check(t, "a beat", got, told, with(both, func(t *api.Tie) { t.Now, t.Born, t.Epoch = 32, 32, 16 }), way(from1(api.BeatDn, 2), 16, 0, 1), way(from1(api.BeatDn, 5), 16, 0, 1))
	got, told = Tick(New(1, 1, 0, 0))
	check(t, "its first", got, told, api.Tie{ID: 1, Inc: 1, Now: 1, Path: []int{1}})
	got, told = Tick(got)
	check(t, "its second", got, told, api.Tie{ID: 1, Inc: 1, Now: 2, Path: []int{1}, Epoch: 1, Born: 2})
}

func TestTickOfOneThatHangs(t *testing.T) {
	got, told := Tick(leaf())
	check(t, "no beat", got, told, with(leaf(), func(t *api.Tie) { t.Now = 41 }))
	got, told = Tick(got)
	check(t, "a beat, one is gone", got, told, with(leaf(), func(t *api.Tie) { t.Now, t.Kids = 42, t.Kids[:1] }), from4(api.BeatUp, 3), way(from4(api.BeatDn, 6), 9, 9, 1, 2, 3, 4))
	old := with(leaf(), func(t *api.Tie) { t.Now, t.Born, t.Kids, t.Step = 41, 22, t.Kids[:1], 5 })
	got, told = Tick(old)
	check(t, "just fresh", got, told, with(old, func(t *api.Tie) { t.Now = 42 }), from4(api.BeatUp, 3), way(from4(api.BeatDn, 6), 9, 20, 1, 2, 3, 4))
	older := with(old, func(t *api.Tie) { t.Born = 21 })
	got, told = Tick(older)
	check(t, "not fresh: it lets go, and asks", got, told, with(free(older, 0), func(t *api.Tie) { t.Now, t.Asked, t.Until = 42, 2, 45 }), from4(api.Attach, 2))
}

func TestTickOfOneThatHangsOnNone(t *testing.T) {
	for _, x := range []struct {
		what               string
		grand, step, asked int
		until, now         int
		asks, stepped      int
	}{
		{"it asks Grand", 3, 0, 0, 0, 40, 3, 0},
		{"no Grand", 0, 0, 0, 0, 40, 1, 0},
		{"Grand is itself", 4, 0, 0, 0, 40, 1, 0},
		{"it has asked in vain", 3, 1, 0, 0, 40, 1, 1},
		{"it waits", 3, 0, 3, 42, 40, 0, 0},
		{"it waited long enough", 3, 0, 3, 42, 41, 1, 1},
		{"it waited longer", 3, 0, 3, 42, 50, 1, 1},
		{"it asks the root again", 3, 7, 1, 41, 40, 1, 8},
	} {
		was := with(loose(), func(t *api.Tie) {
			t.Grand, t.Step, t.Asked, t.Until, t.Now, t.Kids = x.grand, x.step, x.asked, x.until, x.now, nil
		})
		want := with(was, func(t *api.Tie) { t.Now, t.Step = x.now+1, x.stepped })
		var tell []api.Msg
		if x.asks != 0 {
			want.Asked, want.Until = x.asks, x.now+1+api.Patience
			tell = append(tell, from4(api.Attach, x.asks))
		}
		got, told := Tick(was)
		check(t, x.what, got, told, want, tell...)
	}
	got, told := Tick(with(loose(), func(t *api.Tie) { t.Now = 39 }))
	check(t, "no beat to kids, since it is not fresh", got, told, loose())
	got, told = Tick(New(2, 1, 0, 0))
	check(t, "a new one", got, told, api.Tie{ID: 2, Inc: 1, Now: 1, Asked: 1, Until: 4}, api.Msg{Kind: api.Attach, From: 2, To: 1, Inc: 1})
}

func TestWhoLivedBefore(t *testing.T) {
	for kind := api.Attach; kind <= api.Note; kind++ {
		old := api.Msg{Kind: kind, From: 6, To: 4, Inc: 2, Path: []int{1, 6}}
		got, told := Comes(leaf(), old, 1)
		check(t, "a kid", got, told, leaf())
		old.From, old.Inc = 3, 4
		got, told = Comes(leaf(), old, 1)
		check(t, "the parent", got, told, leaf())
	}
}

func TestParentLivesAnew(t *testing.T) {
	anew := func(kind int) api.Msg { return api.Msg{Kind: kind, From: 3, To: 4, Inc: 6} }
	was := with(leaf(), func(t *api.Tie) { t.Step = 3 })
	for kind, tell := range map[int][]api.Msg{
		api.Attach: {from4(api.Refuse, 3)},
		api.Accept: {from4(api.Detach, 3)},
		api.Refuse: nil,
		api.BeatUp: {from4(api.Refuse, 3)},
		api.BeatDn: {from4(api.Detach, 3)},
		api.Detach: nil,
		api.Data:   nil,
		api.Nak:    nil,
		api.Note:   nil,
	} {
		m := anew(kind)
		if kind == api.Accept || kind == api.BeatDn {
			m = way(m, 20, 1, 1, 3)
		}
		got, told := Comes(was, m, 1)
		check(t, "anew", got, told, free(was, 0), tell...)
	}
}

func TestAttach(t *testing.T) {
	ask := func(from, inc int) api.Msg { return api.Msg{Kind: api.Attach, From: from, To: 4, Inc: inc} }
	yes := func(to int) api.Msg { return with1(way(from4(api.Accept, to), 9, 7, 1, 2, 3, 4), 17) }
	got, told := Comes(leaf(), ask(5, 8), 17)
	check(t, "a new kid", got, told, with(leaf(), func(t *api.Tie) { t.Kids = slices.Insert(t.Kids, 0, api.Kid{ID: 5, Inc: 8, Heard: 40}) }), yes(5))
	full := got
	got, told = Comes(full, ask(8, 1), 17)
	check(t, "no room", got, told, full, from4(api.Refuse, 8))
	got, told = Comes(full, ask(7, 1), 17)
	check(t, "no room, but a kid", got, told, with(full, func(t *api.Tie) { t.Kids = slices.Clone(t.Kids); t.Kids[2].Heard = 40 }), yes(7))
	got, told = Comes(full, ask(7, 9), 17)
	check(t, "a kid that lives anew", got, told, with(full, func(t *api.Tie) {
		t.Kids = slices.Clone(t.Kids)
		t.Kids[2] = api.Kid{ID: 7, Inc: 9, Heard: 40}
	}), yes(7))
	for _, id := range []int{1, 2, 3} {
		got, told = Comes(leaf(), ask(id, 5), 17)
		check(t, "its way goes over the asker", got, told, leaf(), from4(api.Refuse, id))
	}
	stale := with(leaf(), func(t *api.Tie) { t.Born = 19 })
	got, told = Comes(stale, ask(6, 3), 17)
	check(t, "not fresh", got, told, stale, from4(api.Refuse, 6))
	got, told = Comes(loose(), ask(8, 3), 17)
	check(t, "it hangs on none", got, told, loose(), from4(api.Refuse, 8))
	r := top()
	r.Kids = nil
	for id := 2; id <= 8; id++ {
		r, told = Comes(r, ask(id, 1), 3)
		check(t, "the root", r, told, r, with1(way(from1(api.Accept, id), 15, 0, 1), 3))
	}
	if len(r.Kids) != 7 || !kids.May(r.Kids) {
		t.Error(r.Kids)
	}
}

// with1 tells m with Lo.
func with1(m api.Msg, lo int) api.Msg {
	m.Lo = lo
	return m
}

func TestAccept(t *testing.T) {
	yes := func(from, age int, p ...int) api.Msg {
		return with1(way(api.Msg{Kind: api.Accept, From: from, To: 4, Inc: 5}, 50, age, p...), 9)
	}
	was := with(loose(), func(t *api.Tie) { t.Step = 2 })
	taken := func(born, grand int, p ...int) api.Tie {
		return with(loose(), func(t *api.Tie) {
			t.Parent, t.PInc, t.Path, t.Grand, t.Epoch, t.Born, t.Asked = 3, 5, p, grand, 50, born, 0
		})
	}
	got, told := Comes(was, yes(3, 7, 1, 2, 3), 1)
	check(t, "it hangs", got, told, taken(33, 2, 1, 2, 3, 4))
	got, told = Comes(was, yes(3, 20, 1, 3), 1)
	check(t, "just fresh", got, told, taken(20, 1, 1, 3, 4))
	asksRoot := with(was, func(t *api.Tie) { t.Asked = 1 })
	got, told = Comes(asksRoot, yes(1, 0, 1), 1)
	check(t, "of the root: it asks that again", got, told, with(taken(40, 1, 1, 4), func(t *api.Tie) { t.Parent = 1 }))
	vain := with(was, func(t *api.Tie) { t.Asked, t.Step = 0, 3 })
	got, told = Comes(was, yes(3, 21, 1, 3), 1)
	check(t, "not fresh", got, told, vain, from4(api.Detach, 3))
	got, told = Comes(was, yes(3, 0, 1, 4, 3), 1)
	check(t, "over itself", got, told, vain, from4(api.Detach, 3))
	got, told = Comes(was, yes(3, 0), 1)
	check(t, "no way", got, told, vain, from4(api.Detach, 3))
	got, told = Comes(was, yes(2, 0, 1, 2), 1)
	check(t, "of one that it has not asked", got, told, was, from4(api.Detach, 2))
	got, told = Comes(leaf(), yes(2, 0, 1, 2), 1)
	check(t, "it hangs on another one", got, told, leaf(), from4(api.Detach, 2))
	got, told = Comes(leaf(), yes(3, 0, 1, 3), 1)
	check(t, "of the parent, once more", got, told, leaf())
	both := with(leaf(), func(t *api.Tie) { t.Asked = 2 })
	got, told = Comes(both, yes(2, 0, 1, 2), 1)
	check(t, "it has asked, but hangs", got, told, both, from4(api.Detach, 2))
	got, told = Comes(top(), way(api.Msg{Kind: api.Accept, From: 2, To: 1, Inc: 4}, 1, 0, 1, 2), 1)
	check(t, "the root", got, told, top(), from1(api.Detach, 2))
}

func TestRefuse(t *testing.T) {
	no := func(from int) api.Msg { return api.Msg{Kind: api.Refuse, From: from, To: 4, Inc: 5} }
	was := with(loose(), func(t *api.Tie) { t.Step = 2 })
	got, told := Comes(was, no(3), 1)
	check(t, "of whom it asked", got, told, with(was, func(t *api.Tie) { t.Asked, t.Step = 0, 3 }))
	got, told = Comes(was, no(2), 1)
	check(t, "of another one", got, told, was)
	hung := with(leaf(), func(t *api.Tie) { t.Step = 2 })
	got, told = Comes(hung, no(3), 1)
	check(t, "of the parent", got, told, free(hung, 0))
	got, told = Comes(hung, no(8), 1)
	check(t, "of another one", got, told, hung)
	got, told = Comes(hung, with2(no(6), 3), 1)
	check(t, "of a kid", got, told, hung)
}

// with2 tells m with Inc.
func with2(m api.Msg, inc int) api.Msg {
	m.Inc = inc
	return m
}

func TestBeatUp(t *testing.T) {
	up := func(from, inc int) api.Msg { return api.Msg{Kind: api.BeatUp, From: from, To: 4, Inc: inc} }
	got, told := Comes(leaf(), up(7, 1), 1)
	check(t, "a kid", got, told, with(leaf(), func(t *api.Tie) { t.Kids[1].Heard = 40 }))
	got, told = Comes(leaf(), up(7, 4), 1)
	check(t, "a kid that lives anew", got, told, with(leaf(), func(t *api.Tie) { t.Kids[1] = api.Kid{ID: 7, Inc: 4, Heard: 40} }))
	got, told = Comes(leaf(), up(8, 1), 1)
	check(t, "another one", got, told, leaf(), from4(api.Refuse, 8))
}

func TestBeatDn(t *testing.T) {
	down := func(from, epoch, age int, p ...int) api.Msg {
		return way(api.Msg{Kind: api.BeatDn, From: from, To: 4, Inc: 5}, epoch, age, p...)
	}
	got, told := Comes(leaf(), down(3, 12, 6, 1, 5, 3), 1)
	check(t, "newer", got, told, with(leaf(), func(t *api.Tie) { t.Path, t.Grand, t.Born, t.Epoch = []int{1, 5, 3, 4}, 5, 34, 12 }))
	got, told = Comes(leaf(), down(3, 12, 7, 1, 2, 3), 1)
	check(t, "as new", got, told, leaf())
	got, told = Comes(leaf(), down(3, 12, 30, 1), 1)
	check(t, "older, of the root's", got, told, with(leaf(), func(t *api.Tie) { t.Path, t.Grand = []int{1, 4}, 1 }))
	for _, p := range [][]int{{1, 4, 3}, {2, 3}, nil, {1, 2, 3, 5, 6, 7, 8, 4}} {
		was := with(leaf(), func(t *api.Tie) { t.Step = 7 })
		got, told = Comes(was, down(3, 12, 6, p...), 1)
		check(t, "no way", got, told, free(was, 1), from4(api.Detach, 3))
	}
	got, told = Comes(leaf(), down(2, 12, 6, 1, 2), 1)
	check(t, "of another one", got, told, leaf(), from4(api.Detach, 2))
	got, told = Comes(loose(), down(3, 12, 6, 1, 3), 1)
	check(t, "of whom it has asked", got, told, loose(), from4(api.Detach, 3))
	got, told = Comes(top(), api.Msg{Kind: api.BeatDn, From: 2, To: 1, Inc: 4, Path: []int{1, 2}}, 1)
	check(t, "the root", got, told, top(), from1(api.Detach, 2))
}

func TestDetachAndOthers(t *testing.T) {
	m := func(kind, from, inc int) api.Msg { return api.Msg{Kind: kind, From: from, To: 4, Inc: inc} }
	got, told := Comes(leaf(), m(api.Detach, 6, 3), 1)
	check(t, "a kid", got, told, with(leaf(), func(t *api.Tie) { t.Kids = t.Kids[1:] }))
	got, told = Comes(leaf(), m(api.Detach, 6, 9), 1)
	check(t, "a kid that lives anew", got, told, with(leaf(), func(t *api.Tie) { t.Kids = t.Kids[1:] }))
	got, told = Comes(leaf(), m(api.Detach, 8, 3), 1)
	check(t, "another one", got, told, leaf())
	got, told = Comes(leaf(), m(api.Detach, 3, 5), 1)
	check(t, "the parent", got, told, leaf())
	for _, kind := range []int{api.Data, api.Nak, api.Note, 0, 10} {
		for _, from := range []int{3, 6, 8} {
			got, told = Comes(leaf(), m(kind, from, 5), 1)
			check(t, "what is not of ties", got, told, leaf())
		}
	}
}

func TestLeave(t *testing.T) {
	for _, x := range []struct {
		t    api.Tie
		want []api.Msg
	}{
		{leaf(), []api.Msg{from4(api.Detach, 3), from4(api.Refuse, 6), from4(api.Refuse, 7)}},
		{loose(), []api.Msg{from4(api.Refuse, 6)}},
		{top(), []api.Msg{from1(api.Refuse, 2), from1(api.Refuse, 5)}},
		{New(3, 1, 0, 0), nil},
	} {
		if got := Leave(x.t); len(got)+len(x.want) > 0 && !reflect.DeepEqual(got, x.want) {
			t.Errorf("Leave of %+v: %+v", x.t, got)
		}
	}
}

// some tells a message of the kinds that ties tell, of whom they know.
func some(r *rand.Rand) api.Msg {
	p := []int{1}
	for len(p) < 1+r.Intn(5) {
		p = append(p, 2+r.Intn(7))
	}
	return api.Msg{Kind: 1 + r.Intn(9), From: 1 + r.Intn(8), To: 4, Inc: 1 + r.Intn(8), Epoch: r.Intn(9), Age: r.Intn(30), Path: p, Lo: 3}
}

// TestWhateverComes: nobody's way goes over itself, or over one twice; the kids may be; who hangs has a way, who does not has none.
func TestWhateverComes(t *testing.T) {
	r := rand.New(rand.NewSource(8))
	for range 2000 {
		s := New(4, 6, 0, 2)
		for range 60 {
			if r.Intn(3) == 0 {
				s, _ = Tick(s)
				continue
			}
			m := some(r)
			if s.Asked != 0 && r.Intn(2) == 0 {
				m.From, m.Kind = s.Asked, api.Accept
			}
			if m.From == 4 {
				continue
			}
			was := s
			var told []api.Msg
			s, told = Comes(s, m, 3)
			if (s.Parent == 0) != (len(s.Path) == 0) || s.Parent != 0 && (!path.May(s.Path) || s.Path[len(s.Path)-1] != 4) || !kids.May(s.Kids) || len(s.Kids) > api.MaxKids {
				t.Fatalf("%+v of\n%+v comes to\n%+v", m, was, s)
			}
			if s.Parent == 0 && s.PInc != 0 || s.Parent != 0 && s.Asked != 0 {
				t.Fatalf("%+v", s)
			}
			for _, x := range told {
				if x.From != 4 || x.To != m.From || x.Inc != 6 || x.Kind == api.Accept && (path.Has(was.Path, m.From) || x.Lo != 3 || !slices.Equal(x.Path, was.Path)) {
					t.Fatalf("%+v of\n%+v tells\n%+v", m, was, x)
				}
			}
		}
	}
}

func TestNothingIsTouched(t *testing.T) {
	room := func() api.Tie {
		s := leaf()
		s.Path, s.Kids = append(s.Path, 77)[:4], append(s.Kids, api.Kid{ID: 77})[:2]
		return s
	}
	s, p := room(), []int{1, 2, 3, 77}
	var all []api.Tie
	var told []api.Msg
	keep := func(got api.Tie, m []api.Msg) { all, told = append(all, got), append(told, m...) }
	s.Now = 41
	keep(Tick(s))
	for kind := api.Attach; kind <= api.Note; kind++ {
		for _, from := range []int{3, 6, 8} {
			m := api.Msg{Kind: kind, From: from, To: 4, Inc: 5, Path: p[:3]}
			keep(Comes(s, m, 1))
			keep(Comes(with(s, func(t *api.Tie) { t.Parent, t.Asked = 0, 3 }), m, 1))
		}
	}
	told = append(told, Leave(s)...)
	for i := range told {
		for j := range told[i].Path {
			told[i].Path[j] = 99
		}
	}
	for _, got := range all {
		if slices.Contains(got.Path, 99) {
			t.Fatal("what it tells is what it is")
		}
		got.Path, got.Kids = append(got.Path, 99), append(got.Kids, api.Kid{})
		for i := range got.Path {
			got.Path[i] = 99
		}
		for i := range got.Kids {
			got.Kids[i] = api.Kid{ID: 99}
		}
	}
	s.Now = 40
	if !reflect.DeepEqual(s, room()) || s.Path[:5][4] != 77 || s.Kids[:3][2].ID != 77 || !slices.Equal(p, []int{1, 2, 3, 77}) {
		t.Errorf("%+v, %v", s, p)
	}
	s.Now = 41
	_, beats := Tick(with(s, func(t *api.Tie) { t.Kids[1].Heard = 40 }))
	beats[1].Path[0] = 99
	if beats[2].Path[0] != 1 {
		t.Error("two messages share a path")
	}
}

func TestBeyondTheLimits(t *testing.T) {
	for _, n := range []int{-1 << 63, -1, 0, 1, 4, 9, 1<<63 - 1} {
		for _, s := range []api.Tie{leaf(), loose(), top(), {}} {
			for kind := -1; kind < 11; kind++ {
				m := api.Msg{Kind: kind, From: n, To: n, Inc: n, Age: n, Epoch: n, Path: []int{n, n, 1}, Lo: n}
				Comes(s, m, n)
				s.ID, s.Parent, s.PInc, s.Now, s.Born = n, n, n, n, -n
				Tick(s)
				Comes(s, m, n)
				Leave(s)
				Fresh(s)
			}
		}
		New(n, n, n, n)
	}
}
