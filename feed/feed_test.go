package feed

import (
	"math/rand"
	"reflect"
	"slices"
	"strings"
	"testing"

	"pleach/api"
	"pleach/log"
	"pleach/ring"
)

// item tells number n with a text of its own.
func item(n int) api.Item {
	return api.Item{Seq: n, Text: "t" + string(rune('a'+n%26))}
}

func of(seqs ...int) []api.Item {
	var l []api.Item
	for _, n := range seqs {
		l = append(l, item(n))
	}
	return l
}

var asked = api.Ask{Tries: 2, Due: 50}

// from tells a feed that began with from, told all to next-1, and was asked for since.
func from(from, next, top int, win ...int) api.Feed {
	f := api.Feed{Next: next, Top: top, Ask: asked, Win: of(win...)}
	for n := from; n < next; n++ {
		f.Log = log.Tell(f.Log, n, item(n).Text)
		f.Ring = ring.Add(f.Ring, item(n))
	}
	return f
}

// told and gap tell f with one more, and nothing asked for.
func told(f api.Feed, n int) api.Feed {
	f.Log, f.Ring, f.Next, f.Ask = log.Tell(f.Log, n, item(n).Text), ring.Add(f.Ring, item(n)), n+1, api.Ask{}
	return f
}

func gap(f api.Feed, lo, hi, why int) api.Feed {
	f.Log, f.Next, f.Ask = log.Skip(f.Log, lo, hi, why), hi+1, api.Ask{}
	return f
}

// same tells whether a and b are alike, nil and empty lists as one.
func same(a, b api.Feed) bool {
	return a.Next == b.Next && a.Top == b.Top && a.Ask == b.Ask && slices.Equal(a.Ring, b.Ring) && slices.Equal(a.Win, b.Win) && slices.Equal(a.Log, b.Log)
}

func check(t *testing.T, what string, got, want api.Feed) {
	t.Helper()
	if !same(got, want) {
		t.Errorf("%s: %+v, not %+v", what, got, want)
	}
}

func TestBegin(t *testing.T) {
	check(t, "at 3", Begin(api.Feed{}, 3), api.Feed{Next: 3})
	check(t, "at MaxSeq", Begin(api.Feed{}, api.MaxSeq), api.Feed{Next: api.MaxSeq})
	idle := api.Feed{Top: 4, Ask: asked, Win: of(9)}
	for _, next := range []int{0, -1, api.MaxSeq + 1} {
		check(t, "at none", Begin(idle, next), idle)
	}
	check(t, "begun at 1", Begin(api.Feed{Next: 1}, 9), api.Feed{Next: 1, Top: 8})
	check(t, "begun, 9", Begin(from(1, 3, 2), 9), from(1, 3, 8))
	check(t, "begun, 2", Begin(from(1, 3, 2), 2), from(1, 3, 2))
	check(t, "begun, 0", Begin(from(1, 3, 2), 0), from(1, 3, 2))
	check(t, "begun, MaxSeq+1", Begin(from(1, 3, 2), api.MaxSeq+1), from(1, 3, api.MaxSeq))
	check(t, "begun, MaxSeq+2", Begin(from(1, 3, 2), api.MaxSeq+2), from(1, 3, 2))
}

func TestSay(t *testing.T) {
	f, ok := Say(api.Feed{}, "hello")
	check(t, "first", f, api.Feed{Next: 2, Top: 1, Ring: []api.Item{{Seq: 1, Text: "hello"}}, Log: log.Tell(nil, 1, "hello")})
	if !ok {
		t.Error("no")
	}
	want := told(from(1, 3, 3), 3)
	want.Ask = asked
	f, ok = Say(from(1, 3, 2), item(3).Text)
	if check(t, "third", f, want); !ok {
		t.Error("no")
	}
	if f, ok = Say(from(1, 3, 9), ""); !ok || f.Top != 3 || f.Next != 4 {
		t.Error(f, ok)
	}
	if f, ok = Say(from(1, 3, 2), strings.Repeat("x", 12)); !ok || f.Next != 4 {
		t.Error(f, ok)
	}
	f, ok = Say(from(1, 3, 2), strings.Repeat("x", 13))
	if check(t, "too long", f, from(1, 3, 2)); ok {
		t.Error("yes")
	}
	last := api.Feed{Next: api.MaxSeq, Top: api.MaxSeq - 1}
	if f, ok = Say(last, "z"); !ok || f.Next != api.MaxSeq+1 || f.Top != api.MaxSeq {
		t.Error(f, ok)
	}
	g, ok := Say(f, "z")
	if check(t, "too many", g, f); ok {
		t.Error("yes")
	}
	for n := 1; n <= 20; n++ {
		f, _ = Say(from(1, n, n-1), item(n).Text)
		if !ring.May(f.Ring) || !log.May(f.Log, 1) || f.Log[n-1] != (api.Event{Kind: api.Told, Lo: n, Hi: n, Text: item(n).Text}) {
			t.Fatal(f)
		}
	}
}

func TestComes(t *testing.T) {
	check(t, "next", Comes(from(1, 3, 2), item(3)), told(from(1, 3, 3), 3))
	check(t, "the first", Comes(api.Feed{Next: 1}, item(1)), told(api.Feed{Next: 1, Top: 1}, 1))
	longest := Comes(from(1, 3, 2), api.Item{Seq: 3, Text: strings.Repeat("x", 12)})
	if longest.Next != 4 || longest.Log[2].Text != strings.Repeat("x", 12) {
		t.Error(longest)
	}
	check(t, "next, of more", Comes(from(1, 3, 9), item(3)), told(from(1, 3, 9), 3))
	check(t, "ahead", Comes(from(1, 3, 2), item(5)), from(1, 3, 5, 5))
	check(t, "ahead of what waits", Comes(from(1, 3, 5, 5), item(4)), from(1, 3, 5, 4, 5))
	check(t, "with those that wait", Comes(from(1, 3, 7, 4, 5, 7), item(3)), told(told(told(from(1, 3, 7, 7), 3), 4), 5))
	check(t, "once more", Comes(from(1, 3, 5, 5), item(5)), from(1, 3, 5, 5))
	check(t, "told already", Comes(from(1, 3, 2), item(2)), from(1, 3, 2))
	check(t, "too far, but known", Comes(from(1, 3, 2), item(11)), from(1, 3, 11))
	check(t, "the farthest", Comes(from(1, 3, 2), item(10)), from(1, 3, 10, 10))
	check(t, "MaxSeq", Comes(from(1, 3, 2), api.Item{Seq: api.MaxSeq}), from(1, 3, api.MaxSeq))
	idle := api.Feed{Top: 4, Ask: asked}
	check(t, "not begun", Comes(idle, item(1)), idle)
	for _, i := range []api.Item{item(0), {Seq: -1}, {Seq: api.MaxSeq + 1}, {Seq: 3, Text: strings.Repeat("x", 13)}} {
		check(t, "none", Comes(from(1, 3, 2), i), from(1, 3, 2))
	}
	check(t, "waited for nothing", Comes(from(1, 3, 9, 3, 4), item(1)), told(told(from(1, 3, 9), 3), 4))
}

func TestNotes(t *testing.T) {
	check(t, "next", Notes(from(1, 3, 2), 3, 3), gap(from(1, 3, 3), 3, 3, api.Noted))
	check(t, "over next", Notes(from(1, 3, 9), 2, 5), gap(from(1, 3, 9), 3, 5, api.Noted))
	check(t, "to next", Notes(from(1, 3, 9), 1, 3), gap(from(1, 3, 9), 3, 3, api.Noted))
	check(t, "below", Notes(from(1, 3, 2), 1, 2), from(1, 3, 2))
	check(t, "above", Notes(from(1, 3, 2), 4, 6), from(1, 3, 6))
	check(t, "with some that wait", Notes(from(1, 3, 9, 4, 6, 7), 3, 5), told(told(gap(told(gap(from(1, 3, 9), 3, 3, api.Noted), 4), 5, 5, api.Noted), 6), 7))
	check(t, "what is next waits", Notes(from(1, 3, 9, 5, 6), 3, 4), told(told(gap(from(1, 3, 9), 3, 4, api.Noted), 5), 6))
	idle := api.Feed{Top: 4, Ask: asked}
	check(t, "not begun", Notes(idle, 1, 2), idle)
	for _, x := range [][2]int{{0, 3}, {-1, 3}, {4, 3}, {3, api.MaxSeq + 1}, {1 << 62, 1 << 62}} {
		check(t, "none", Notes(from(1, 3, 2), x[0], x[1]), from(1, 3, 2))
	}
	check(t, "to the end", Notes(from(1, 3, 2), 3, api.MaxSeq), gap(from(1, 3, api.MaxSeq), 3, api.MaxSeq, api.Noted))
}

func TestKnows(t *testing.T) {
	for top, want := range map[int]int{-1: 5, 0: 5, 4: 5, 5: 5, 6: 6, api.MaxSeq: api.MaxSeq, api.MaxSeq + 1: 5} {
		check(t, "begun", Knows(from(1, 3, 5), top), from(1, 3, want))
		check(t, "not begun", Knows(api.Feed{Top: 5}, top), api.Feed{Top: 5})
	}
}

func TestTick(t *testing.T) {
	with := func(f api.Feed, tries, due int) api.Feed {
		f.Ask = api.Ask{Tries: tries, Due: due}
		return f
	}
	for _, x := range []struct {
		what  string
		f     api.Feed
		now   int
		want  api.Feed
		asked api.Span
	}{
		{"lacks nothing", with(from(1, 3, 2), 0, 0), 7, with(from(1, 3, 2), 0, 0), api.Span{}},
		{"not begun", api.Feed{Top: 9}, 7, api.Feed{Top: 9}, api.Span{}},
		{"at once", with(from(1, 3, 6), 0, 0), 7, with(from(1, 3, 6), 1, 9), api.Span{Lo: 3, Hi: 6}},
		{"ahead of what waits", with(from(1, 3, 6, 5), 0, 0), 7, with(from(1, 3, 6, 5), 1, 9), api.Span{Lo: 3, Hi: 4}},
		{"not yet", with(from(1, 3, 6), 1, 9), 8, with(from(1, 3, 6), 1, 9), api.Span{}},
		{"again", with(from(1, 3, 6), 1, 9), 9, with(from(1, 3, 6), 2, 13), api.Span{Lo: 3, Hi: 6}},
		{"once more", with(from(1, 3, 6), 2, 13), 14, with(from(1, 3, 6), 3, 22), api.Span{Lo: 3, Hi: 6}},
		{"tired, not yet", with(from(1, 3, 6), 3, 22), 21, with(from(1, 3, 6), 3, 22), api.Span{}},
		{"tired", with(from(1, 3, 6), 3, 22), 22, gap(from(1, 3, 6), 3, 6, api.Tired), api.Span{}},
		{"tired, some wait", with(from(1, 3, 9, 5, 6, 8), 3, 22), 22, told(told(gap(from(1, 3, 9, 8), 3, 4, api.Tired), 5), 6), api.Span{}},
	} {
		got, s, ok := Tick(x.f, x.now)
		if check(t, x.what, got, x.want); s != x.asked || ok != (s != api.Span{}) {
			t.Errorf("%s: %v, %v", x.what, s, ok)
		}
	}
}

func TestSince(t *testing.T) {
	f := from(1, 6, 9)
	for n := range 6 {
		if got := Since(f, from(1, n+1, n)); !slices.Equal(got, f.Log[n:]) {
			t.Errorf("Since %d: %v", n, got)
		}
	}
	for _, old := range []api.Feed{f, from(1, 9, 9)} {
		if got := Since(f, old); len(got) != 0 {
			t.Error(got)
		}
	}
	if got := Since(f, api.Feed{}); len(got) != 5 {
		t.Error(got)
	} else if got[0].Lo = 99; f.Log[0].Lo != 1 {
		t.Error("it told what it was handed")
	}
}

// TestTheLogIsOne: whatever comes.
func TestTheLogIsOne(t *testing.T) {
	r := rand.New(rand.NewSource(7))
	for range 500 {
		f := Begin(api.Feed{}, 1+r.Intn(5))
		first := f.Next
		for now := range 100 {
			n := f.Next + r.Intn(14) - 4
			switch r.Intn(5) {
			case 0, 1:
				f = Comes(f, item(n))
			case 2:
				f = Notes(f, n, n+r.Intn(5))
			case 3:
				f = Knows(f, n)
			default:
				f, _, _ = Tick(f, now)
			}
			if !log.May(f.Log, first) || log.Next(f.Log, first) != f.Next || !ring.May(f.Ring) || len(f.Win) > 0 && (f.Win[0].Seq <= f.Next || f.Top < f.Win[len(f.Win)-1].Seq) {
				t.Fatalf("%+v", f)
			}
			for _, e := range f.Log {
				if e.Kind == api.Told && e.Text != item(e.Lo).Text {
					t.Fatalf("%+v", e)
				}
			}
		}
	}
}

func TestNothingIsTouched(t *testing.T) {
	make1 := func() api.Feed {
		f := from(1, 9, 12, 11, 12)
		f.Log = append(f.Log, api.Event{Kind: 77})[:8]
		f.Ring = append(f.Ring, api.Item{Seq: 77})[:6]
		f.Win = append(f.Win, api.Item{Seq: 77})[:2]
		return f
	}
	f := make1()
	tired := make1()
	tired.Ask.Tries = 9
	a, _ := Say(f, "x")
	b, _ := Say(f, strings.Repeat("x", 13))
	c, _, _ := Tick(f, 99)
	d, _, _ := Tick(f, 0)
	e, _, _ := Tick(tired, 99)
	for _, got := range []api.Feed{a, b, c, d, e, Begin(f, 5), Begin(api.Feed{Log: f.Log, Ring: f.Ring, Win: f.Win}, 5), Comes(f, item(9)), Comes(f, item(10)), Comes(f, item(0)), Notes(f, 9, 9), Notes(f, 13, 14), Notes(f, 0, 0), Knows(f, 50)} {
		for _, l := range [][]api.Item{append(got.Ring, api.Item{}), append(got.Win, api.Item{})} {
			for i := range l {
				l[i] = api.Item{Seq: 99}
			}
		}
		got.Log = append(got.Log, api.Event{})
		for i := range got.Log {
			got.Log[i] = api.Event{Kind: 99}
		}
	}
	if !reflect.DeepEqual(f, make1()) || f.Log[:9][8].Kind != 77 || f.Ring[:7][6].Seq != 77 || f.Win[:3][2].Seq != 77 {
		t.Errorf("%+v", f)
	}
}

func TestBeyondTheLimits(t *testing.T) {
	for _, n := range []int{-1 << 63, -1, 0, 1, 3, 1<<63 - 1} {
		for _, l := range [][]api.Item{nil, of(2, 5), of(6, 5, 5), of(-3)} {
			f := api.Feed{Next: n, Top: 1<<63 - 1, Win: l, Ring: l, Ask: api.Ask{Tries: n, Due: n}}
			for _, m := range []int{-1 << 63, 0, 3, 9, 1<<63 - 1} {
				Begin(f, m)
				Say(f, "")
				Comes(f, api.Item{Seq: m})
				Notes(f, m, n)
				Notes(f, 1, m)
				Knows(f, m)
				Tick(f, m)
			}
		}
	}
}
