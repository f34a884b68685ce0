package nak

import (
	"math/rand"
	"reflect"
	"slices"
	"testing"

	"pleach/api"
	"pleach/log"
	"pleach/ring"
)

// of tells items of these numbers, each with a text of its own.
func of(seqs ...int) []api.Item {
	var l []api.Item
	for _, n := range seqs {
		l = append(l, api.Item{Seq: n, Text: "t" + string(rune('a'+n%26))})
	}
	return l
}

func sp(n ...int) []api.Span {
	var l []api.Span
	for i := 0; i+1 < len(n); i += 2 {
		l = append(l, api.Span{Lo: n[i], Hi: n[i+1]})
	}
	return l
}

// begun tells a feed that told 1 to next-1, with room behind each of its lists.
func begun(next, top int, win ...int) api.Feed {
	f := api.Feed{Next: next, Top: top, Ask: api.Ask{Tries: 2, Due: 50}}
	for n := 1; n < next; n++ {
		f.Log = log.Tell(f.Log, n, of(n)[0].Text)
		f.Ring = ring.Add(f.Ring, of(n)[0])
	}
	f.Log = append(f.Log, api.Event{Kind: 77})[:len(f.Log)]
	f.Ring = append(f.Ring, api.Item{Seq: 77})[:len(f.Ring)]
	f.Win = append(of(win...), api.Item{Seq: 77})[:len(win)]
	return f
}

// same tells whether a and b are alike, nil and empty lists as one.
func same(a, b api.Feed) bool {
	return a.Next == b.Next && a.Top == b.Top && a.Ask == b.Ask && slices.Equal(a.Ring, b.Ring) && slices.Equal(a.Win, b.Win) && slices.Equal(a.Log, b.Log)
}

func TestWants(t *testing.T) {
	for _, x := range []struct {
		f    api.Feed
		want []api.Span
	}{
		{api.Feed{}, nil},
		{api.Feed{Top: 9}, nil},
		{begun(3, 2), nil},
		{begun(3, 0), nil},
		{begun(3, 3), sp(3, 3)},
		{begun(3, 9), sp(3, 9)},
		{begun(3, 9, 4), sp(3, 3)},
		{begun(3, 9, 6, 8), sp(3, 5)},
		{begun(3, 6, 6), sp(3, 5)},
		{begun(3, 6, 3, 6), nil},
		{api.Feed{Next: 1, Top: 1}, sp(1, 1)},
	} {
		got, ok := Wants(x.f)
		if ok != (x.want != nil) || ok && got != x.want[0] || !ok && got != (api.Span{}) {
			t.Errorf("Wants of next %d, top %d, %v: %v, %v", x.f.Next, x.f.Top, x.f.Win, got, ok)
		}
	}
}

func TestServes(t *testing.T) {
	gappy := begun(12, 11)
	gappy.Ring = of(1, 3, 4, 7, 8, 11)
	for _, x := range []struct {
		f      api.Feed
		lo, hi int
		items  []api.Item
		notes  []api.Span
	}{
		{begun(5, 4), 1, 4, of(1, 2, 3, 4), nil},
		{begun(5, 4), 2, 3, of(2, 3), nil},
		{begun(5, 4), 2, 2, of(2), nil},
		{begun(5, 9), 3, 9, of(3, 4), nil}, // not beyond what it told
		{begun(5, 9, 6), 5, 9, nil, nil},   // not what came ahead of its turn
		{begun(5, 4), 3, 2, nil, nil},
		{begun(12, 11), 1, 3, nil, sp(1, 3)},
		{begun(12, 11), 1, 11, of(6, 7, 8), sp(1, 5)}, // not more than MaxWin
		{begun(12, 11), 4, 11, of(6, 7, 8, 9, 10, 11), sp(4, 5)},
		{begun(12, 11), 4, 1 << 62, of(6, 7, 8, 9, 10, 11), sp(4, 5)},
		{gappy, 1, 8, of(1, 3, 4, 7, 8), sp(2, 2, 5, 6)},
		{gappy, 2, 11, of(3, 4, 7, 8), sp(2, 2, 5, 6, 9, 9)},
		{gappy, 9, 12, of(11), sp(9, 10)},
		{api.Feed{Ring: of(1, 2)}, 1, 2, nil, nil},
	} {
		items, notes := Serves(x.f, x.lo, x.hi)
		if !slices.Equal(items, x.items) || !slices.Equal(notes, x.notes) {
			t.Errorf("Serves of %d to %d: %v, %v", x.lo, x.hi, items, notes)
		}
	}
}

func TestGoes(t *testing.T) {
	for _, x := range []struct {
		f    api.Feed
		seqs []int
		left []int
	}{
		{begun(3, 9), nil, nil},
		{begun(3, 9, 4, 5), nil, []int{4, 5}},
		{begun(3, 9, 3), []int{3}, nil},
		{begun(3, 9, 3, 4, 6, 7), []int{3, 4}, []int{6, 7}},
		{begun(5, 9, 5, 6, 7, 8, 9), []int{5, 6, 7, 8, 9}, nil},
	} {
		got, items := Goes(x.f)
		want := begun(x.f.Next+len(x.seqs), x.f.Top, x.left...)
		if len(x.seqs) > 0 {
			want.Ask = api.Ask{}
		}
		if !same(got, want) || !slices.Equal(items, of(x.seqs...)) {
			t.Errorf("Goes of next %d, %v: %v, %v", x.f.Next, x.f.Win, got, items)
		}
	}
	if got, items := Goes(api.Feed{}); !same(got, api.Feed{}) || len(items) != 0 {
		t.Error(got, items)
	}
}

func TestSkips(t *testing.T) {
	for _, x := range []struct {
		f      api.Feed
		hi     int
		spans  []api.Span
		events string // how each number from Next on comes into the log: g a gap, t told
		left   []int
	}{
		{begun(3, 9), 5, sp(3, 5), "ggg", nil},
		{begun(3, 9), 3, sp(3, 3), "g", nil},
		{begun(3, 9), 2, nil, "", nil},
		{begun(3, 9), -5, nil, "", nil},
		{begun(3, 9, 6), 5, sp(3, 5), "ggg", []int{6}}, // 6 is next now, but has not gone
		{begun(3, 9, 5), 5, sp(3, 4), "ggt", nil},
		{begun(3, 9, 4), 6, sp(3, 3, 5, 6), "gtgg", nil},
		{begun(3, 9, 4, 5, 8), 6, sp(3, 3, 6, 6), "gttg", []int{8}},
		{begun(3, 9, 4, 5, 6, 7, 9), 5, sp(3, 3), "gtttt", []int{9}}, // Goes goes beyond hi
		{begun(3, 9, 3), 3, nil, "t", nil},
		{begun(3, 9, 3), 2, nil, "", []int{3}},
		{begun(3, 9, 4, 6, 8), 9, sp(3, 3, 5, 5, 7, 7, 9, 9), "gtgtgtg", nil},
	} {
		got, spans := Skips(x.f, x.hi, api.Tired)
		want := begun(x.f.Next, x.f.Top, x.left...)
		for i, c := range x.events {
			n := x.f.Next + i
			if c == 't' {
				want.Log, want.Ring = log.Tell(want.Log, n, of(n)[0].Text), ring.Add(want.Ring, of(n)[0])
			} else if k := len(want.Log) - 1; i > 0 && x.events[i-1] == 'g' {
				want.Log[k].Hi = n
			} else {
				want.Log = log.Skip(want.Log, n, n, api.Tired)
			}
			want.Next, want.Ask = n+1, api.Ask{}
		}
		if !same(got, want) || !slices.Equal(spans, x.spans) {
			t.Errorf("Skips of next %d, %v to %d: %v, %v", x.f.Next, x.f.Win, x.hi, got, spans)
		}
	}
	if got, _ := Skips(begun(3, 9), 4, api.Noted); got.Log[2] != (api.Event{Kind: api.Gap, Lo: 3, Hi: 4, Why: api.Noted}) {
		t.Error(got.Log)
	}
}

func TestSkipsOfNone(t *testing.T) {
	for _, f := range []api.Feed{{Win: of(3)}, {Top: 5, Ask: api.Ask{Tries: 1, Due: 3}}} {
		if got, spans := Skips(f, 4, api.Noted); !same(got, f) || len(spans) != 0 {
			t.Error(got, spans)
		}
	}
	if got, spans := Skips(begun(3, 9), api.MaxSeq+1, api.Noted); !same(got, begun(3, 9)) || len(spans) != 0 {
		t.Error(got, spans)
	}
	got, spans := Skips(begun(3, 9), api.MaxSeq, api.Noted)
	if !slices.Equal(spans, sp(3, api.MaxSeq)) || got.Next != api.MaxSeq+1 || !log.May(got.Log, 1) {
		t.Error(got, spans)
	}
}

// TestNoGapOfWhatIsHad skips anyhow: what is in Win is told, and the log is one.
func TestNoGapOfWhatIsHad(t *testing.T) {
	r := rand.New(rand.NewSource(6))
	for range 3000 {
		next := 1 + r.Intn(10)
		var win []int
		for n := next; n < next+api.MaxWin; n++ {
			if r.Intn(2) == 0 {
				win = append(win, n)
			}
		}
		f := begun(next, next+20, win...)
		hi := next - 2 + r.Intn(12)
		got, spans := Skips(f, hi, api.Noted)
		if !log.May(got.Log, 1) || log.Next(got.Log, 1) != got.Next || !ring.May(got.Ring) || got.Next <= hi {
			t.Fatal(got)
		}
		for _, n := range win {
			told := slices.ContainsFunc(got.Log, func(e api.Event) bool { return e.Kind == api.Told && e.Lo == n })
			if told == slices.ContainsFunc(got.Win, func(i api.Item) bool { return i.Seq == n }) {
				t.Fatalf("%d is told, and waits, or neither: %v", n, got)
			}
		}
		if !slices.Equal(log.Gaps(got.Log), spans) {
			t.Fatalf("gaps %v, spans %v", log.Gaps(got.Log), spans)
		}
	}
}

func TestNothingIsTouched(t *testing.T) {
	f := begun(9, 12, 9, 11)
	a, _ := Goes(f)
	b, _ := Skips(f, 12, api.Tired)
	c, _ := Skips(f, 1, api.Tired)
	waits := begun(9, 12, 9, 11)
	waits.Next = 8 // nothing goes
	d, _ := Goes(waits)
	for _, got := range []api.Feed{a, b, c, d} {
		for _, l := range [][]api.Item{append(got.Ring, api.Item{}), append(got.Win, api.Item{})} {
			for i := range l {
				l[i] = api.Item{Seq: 99}
			}
		}
		got.Log = append(got.Log, api.Event{})
		for i := range got.Log {
			got.Log[i] = api.Event{Kind: 99}
		}
	}
	want := begun(9, 12, 9, 11)
	waits.Next = 9
	if !reflect.DeepEqual(waits, want) {
		t.Error(waits)
	}
	if !reflect.DeepEqual(f, want) || f.Log[:9][8].Kind != 77 || f.Ring[:7][6].Seq != 77 || f.Win[:3][2].Seq != 77 {
		t.Error(f)
	}
}

func TestBeyondTheLimits(t *testing.T) {
	for _, n := range []int{-1 << 63, -1, 0, 1, 1<<63 - 1} {
		for _, l := range [][]api.Item{of(2, 5), of(6, 5, 5), of(0), of(-3)} {
			f := api.Feed{Next: n, Top: n, Win: l, Ring: l}
			for _, m := range []int{-1 << 63, 0, 3, 9, 1<<63 - 1} {
				Wants(f)
				Serves(f, m, n)
				Serves(f, n, m)
				Goes(f)
				Skips(f, m, 7)
				f.Next = 3
				Skips(f, m, 7)
			}
		}
	}
}
