package net

import (
	"slices"
	"strings"
	"testing"

	"pleach/api"
)

// three tells three datagrams, with room behind them.
func three() []api.Gram {
	return []api.Gram{{To: 1, B: "abc"}, {To: 2, B: "", Turned: false}, {To: 3, B: "xyz", Turned: true}, {To: 77}, {To: 78}}[:3]
}

// many tells n datagrams.
func many(n int) []api.Gram {
	var l []api.Gram
	for i := range n {
		l = append(l, api.Gram{To: i, B: "b"})
	}
	return l
}

func TestSend(t *testing.T) {
	g := api.Gram{To: 5, B: "g"}
	for _, n := range []int{0, 1, 7, api.MaxFly - 1} {
		if got := Send(many(n), g); !slices.Equal(got, append(many(n), g)) {
			t.Errorf("Send behind %d: %v", n, got)
		}
	}
	for _, n := range []int{api.MaxFly, api.MaxFly + 1} {
		if got := Send(many(n), g); !slices.Equal(got, many(n)) {
			t.Errorf("Send behind %d: %v", n, got)
		}
	}
}

func TestComesAndLost(t *testing.T) {
	for i := -2; i < 6; i++ {
		l := three()
		got, g, ok := Comes(l, i)
		lost, gone := Lost(l, i)
		want, g0, ok0 := three(), api.Gram{}, false
		if i >= 0 && i < 3 {
			g0, ok0 = want[i], true
			want = slices.Delete(want, i, i+1)
		}
		if !slices.Equal(got, want) || g != g0 || ok != ok0 {
			t.Errorf("Comes of %d: %v, %v, %v", i, got, g, ok)
		}
		if !slices.Equal(lost, want) || gone != ok0 {
			t.Errorf("Lost of %d: %v, %v", i, lost, gone)
		}
	}
	if got, g, ok := Comes(nil, 0); len(got) != 0 || g != (api.Gram{}) || ok {
		t.Error(got, g, ok)
	}
}

func TestTwice(t *testing.T) {
	for i := -2; i < 6; i++ {
		got, ok := Twice(three(), i)
		want := three()
		if i >= 0 && i < 3 {
			want = append(want, want[i])
		}
		if !slices.Equal(got, want) || ok != (i >= 0 && i < 3) {
			t.Errorf("Twice of %d: %v, %v", i, got, ok)
		}
	}
	if got, ok := Twice(many(api.MaxFly-1), 4); !ok || len(got) != api.MaxFly || got[api.MaxFly-1] != got[4] {
		t.Error(got, ok)
	}
	if got, ok := Twice(many(api.MaxFly), 4); ok || !slices.Equal(got, many(api.MaxFly)) {
		t.Error(got, ok)
	}
}

func TestTurned(t *testing.T) {
	for _, x := range []struct {
		i, to int
		b     string // what is 0's then; none: no
	}{
		{0, 1, "`bc"}, {0, 255, "\x9ebc"}, {0, 256 + 3, "aac"}, {0, 512 + 128, "ab\xe3"}, {0, 768 + 1, "`bc"}, {0, 256*1000 + 2, "a`c"},
		{0, 0, ""}, {0, 256, ""}, {0, 512, ""}, {0, -1, ""}, {0, -255, ""}, {0, -1 << 63, ""}, {1, 1, ""}, {2, 1, ""}, {3, 1, ""}, {-1, 1, ""},
	} {
		got, ok := Turned(three(), x.i, x.to)
		want := three()
		if x.b != "" {
			want[0].B, want[0].Turned = x.b, true
		}
		if !slices.Equal(got, want) || ok != (x.b != "") {
			t.Errorf("Turned of %d, %d: %v, %v", x.i, x.to, got, ok)
		}
	}
	l := three()
	l[2].Turned = false
	if got, ok := Turned(l, 2, 1<<63-1); !ok || got[2].B == "xyz" || len(got[2].B) != 3 {
		t.Error(got, ok)
	}
}

// TestTurnedOnce: behind any turn just one byte is another one, and no other turn is had.
func TestTurnedOnce(t *testing.T) {
	s := strings.Repeat("z", 7)
	for to := 0; to < 256*9; to++ {
		l, ok := Turned([]api.Gram{{To: 1, B: s}}, 0, to)
		if ok != (to%256 != 0) {
			t.Fatal(to, ok)
		}
		if !ok {
			continue
		}
		n := 0
		for i := range s {
			if s[i] != l[0].B[i] {
				n++
			}
		}
		if _, again := Turned(l, 0, to); n != 1 || again || l[0].B[to/256%7] != 'z'^byte(to) {
			t.Fatalf("%d: %q, %v", to, l[0].B, again)
		}
	}
}

func TestNothingIsTouched(t *testing.T) {
	l := three()
	a, _, _ := Comes(l, 0)
	b, _ := Lost(l, 1)
	c, _ := Twice(l, 1)
	d, _ := Turned(l, 0, 1)
	e, _, _ := Comes(l, 9)
	f, _ := Lost(l, 9)
	g, _ := Twice(l, 9)
	h, _ := Turned(l, 9, 1)
	for _, got := range [][]api.Gram{a, b, c, d, e, f, g, h, Send(l, api.Gram{})} {
		for i := range got {
			got[i] = api.Gram{To: 99}
		}
	}
	if !slices.Equal(l[:5], three()[:5]) {
		t.Error(l[:5])
	}
}
