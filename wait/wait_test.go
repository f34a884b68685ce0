package wait

import (
	"testing"

	"pleach/api"
)

func TestStart(t *testing.T) {
	if Start() != (api.Ask{}) || Tired(Start()) {
		t.Error(Start())
	}
}

func TestNow(t *testing.T) {
	for _, x := range []struct {
		a    api.Ask
		now  int
		want bool
	}{
		{api.Ask{}, 0, true},
		{api.Ask{Due: 9}, 3, true},
		{api.Ask{Tries: 1, Due: 9}, 8, false},
		{api.Ask{Tries: 1, Due: 9}, 9, true},
		{api.Ask{Tries: 1, Due: 9}, 10, true},
		{api.Ask{Tries: 7, Due: 9}, 0, false},
	} {
		if Now(x.a, x.now) != x.want {
			t.Errorf("%v at %d", x.a, x.now)
		}
	}
}

// TestTried: 2, 4, 8, 16, and from then on 16 ticks.
func TestTried(t *testing.T) {
	a := Start()
	for i, due := range []int{7, 9, 13, 21, 21, 21} {
		if a = Tried(a, 5); a != (api.Ask{Tries: i + 1, Due: due}) {
			t.Errorf("%d: %v", i, a)
		}
		if Tired(a) != (i+1 >= 3) {
			t.Errorf("Tired of %v", a)
		}
	}
	if got := Tried(api.Ask{Tries: 2, Due: 50}, 10); got != (api.Ask{Tries: 3, Due: 18}) {
		t.Error(got)
	}
	if got := Tried(api.Ask{Due: 50}, 1); got != (api.Ask{Tries: 1, Due: 3}) {
		t.Error(got)
	}
}

func TestBeyondTheLimits(t *testing.T) {
	for _, n := range []int{-1 << 63, -1, 1 << 40, 1<<63 - 1} {
		a := api.Ask{Tries: n, Due: n}
		Now(a, n)
		Tried(a, n)
		Tired(a)
	}
}
