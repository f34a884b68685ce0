package log

import (
	"slices"
	"strings"
	"testing"

	"pleach/api"
)

// t1 and g1 tell one event.
func t1(n int, text string) api.Event {
	return api.Event{Kind: api.Told, Lo: n, Hi: n, Text: text}
}

func g1(lo, hi, why int) api.Event {
	return api.Event{Kind: api.Gap, Lo: lo, Hi: hi, Why: why}
}

// sample tells a log from 3 on, with room behind it.
func sample() []api.Event {
	return []api.Event{t1(3, "c"), g1(4, 4, api.Noted), g1(5, 7, api.Tired), t1(8, ""), t1(9, strings.Repeat("x", 12)), g1(10, 11, api.Noted), t1(12, "l"), g1(13, 13, api.Tired), t1(77, ""), t1(78, "")}[:8]
}

func TestMay(t *testing.T) {
	for _, x := range []struct {
		l    []api.Event
		from int
	}{
		{nil, 1}, {nil, 5}, {[]api.Event{}, api.MaxSeq + 1}, {sample(), 3}, {[]api.Event{g1(1, 2, api.Noted), t1(3, "c")}, 1}, {[]api.Event{g1(1, api.MaxSeq, api.Tired)}, 1}, {[]api.Event{t1(api.MaxSeq, "z")}, api.MaxSeq},
	} {
		if !May(x.l, x.from) {
			t.Errorf("%v from %d may be", x.l, x.from)
		}
	}
	for _, x := range []struct {
		l    []api.Event
		from int
	}{
		{nil, 0}, {nil, -1}, {sample(), 2}, {sample(), 4}, {sample(), 0}, {[]api.Event{t1(0, "")}, 0}, {[]api.Event{t1(api.MaxSeq+1, "")}, api.MaxSeq + 1}, {[]api.Event{g1(1, api.MaxSeq+1, 1)}, 1}, {[]api.Event{g1(2, 1, 1)}, 2},
	} {
		if May(x.l, x.from) {
			t.Errorf("%v from %d may not be", x.l, x.from)
		}
	}
	for i, spoil := range []func(l []api.Event){
		func(l []api.Event) { l[0].Kind = 0 },
		func(l []api.Event) { l[0].Kind = 3 },
		func(l []api.Event) { l[1].Kind = api.Told },
		func(l []api.Event) { l[0].Kind = api.Gap },
		func(l []api.Event) { l[0].Hi = 4 },
		func(l []api.Event) { l[0].Hi = 2 },
		func(l []api.Event) { l[0].Why = api.Noted },
		func(l []api.Event) { l[4].Text += "x" },
		func(l []api.Event) { l[1].Text = "x" },
		func(l []api.Event) { l[1].Why = 0 },
		func(l []api.Event) { l[1].Why = 3 },
		func(l []api.Event) { l[2].Lo = 6 },
		func(l []api.Event) { l[2].Lo = 4 },
		func(l []api.Event) { l[2].Hi = 6 },
		func(l []api.Event) { l[2].Hi = 8 },
		func(l []api.Event) { l[2].Hi = 4 },
		func(l []api.Event) { l[3], l[4] = l[4], l[3] },
		func(l []api.Event) { l[7] = t1(14, "") },
		func(l []api.Event) { l[7] = t1(12, "") },
	} {
		l := sample()
		if spoil(l); May(l, 3) {
			t.Errorf("%d may not be: %v", i, l)
		}
	}
}

func TestNext(t *testing.T) {
	for n, want := range []int{3, 4, 5, 8, 9, 10, 12, 13, 14} {
		if got := Next(sample()[:n], 3); got != want {
			t.Errorf("Next of %d events: %d", n, got)
		}
	}
	if Next(nil, 7) != 7 || Next(sample(), 99) != 14 {
		t.Error("from")
	}
}

func TestTellAndSkip(t *testing.T) {
	var l []api.Event
	l = Tell(l, 3, "c")
	l = Skip(l, 4, 4, api.Noted)
	l = Skip(l, 5, 7, api.Tired)
	l = Tell(l, 8, "")
	l = Tell(l, 9, strings.Repeat("x", 12))
	if !slices.Equal(l, sample()[:5]) {
		t.Error(l)
	}
	room := sample()
	for _, got := range [][]api.Event{Tell(room, 14, "n"), Skip(room, 14, 15, api.Noted)} {
		if !May(got, 3) || len(got) != 9 || !slices.Equal(got[:8], sample()) {
			t.Error(got)
		}
		for i := range got {
			got[i] = api.Event{}
		}
	}
	if !slices.Equal(room[:10], sample()[:10]) {
		t.Error("it changed what it was handed")
	}
}

func TestGaps(t *testing.T) {
	for _, x := range []struct {
		l    []api.Event
		want []api.Span
	}{
		{nil, nil},
		{[]api.Event{t1(1, "")}, nil},
		{sample(), []api.Span{{Lo: 4, Hi: 7}, {Lo: 10, Hi: 11}, {Lo: 13, Hi: 13}}},
		{[]api.Event{g1(1, 1, 1), g1(2, 5, 1), g1(6, 6, 2), t1(7, ""), g1(8, 9, 2)}, []api.Span{{Lo: 1, Hi: 6}, {Lo: 8, Hi: 9}}},
		{[]api.Event{t1(1, ""), g1(2, 3, 2), t1(4, ""), t1(5, "")}, []api.Span{{Lo: 2, Hi: 3}}},
	} {
		if got := Gaps(x.l); !slices.Equal(got, x.want) {
			t.Errorf("Gaps of %v: %v", x.l, got)
		}
	}
}
