package ring

import (
	"slices"
	"strings"
	"testing"

	"pleach/api"
)

// of tells items of these numbers, each with a text of its own.
func of(seqs ...int) []api.Item {
	var l []api.Item
	for _, n := range seqs {
		l = append(l, api.Item{Seq: n, Text: "t" + string(rune('a'+n%26))})
	}
	return l
}

func TestMay(t *testing.T) {
	long := of(1, 2)
	long[1].Text = strings.Repeat("x", 12)
	for _, l := range [][]api.Item{nil, {}, of(1), of(1, 2, 3, 4, 5, 6), of(3, 9, 10), of(1, api.MaxSeq), long} {
		if !May(l) {
			t.Errorf("%v may be", l)
		}
	}
	tooLong := of(1, 2)
	tooLong[0].Text = strings.Repeat("x", 13)
	for _, l := range [][]api.Item{of(0), of(-1, 2), of(2, 2), of(3, 2), of(1, 3, 2), of(api.MaxSeq + 1), of(1, 2, 3, 4, 5, 6, 7), tooLong} {
		if May(l) {
			t.Errorf("%v may not be", l)
		}
	}
}

func TestAdd(t *testing.T) {
	for _, x := range []struct {
		l    []api.Item
		seq  int
		want []api.Item
	}{
		{nil, 1, of(1)},
		{nil, 50, of(50)},
		{of(1), 2, of(1, 2)},
		{of(1), 9, of(1, 9)},
		{of(5), 5, of(5)},
		{of(5), 4, of(5)},
		{of(1, 2, 3, 4, 5), 6, of(1, 2, 3, 4, 5, 6)},
		{of(1, 2, 3, 4, 5, 6), 7, of(2, 3, 4, 5, 6, 7)},
		{of(1, 3, 5, 7, 9, 11), 20, of(3, 5, 7, 9, 11, 20)},
		{of(1, 2, 3, 4, 5, 6), 6, of(1, 2, 3, 4, 5, 6)},
		{of(1, 2, 3, 4, 5, 6), 3, of(1, 2, 3, 4, 5, 6)},
	} {
		if got := Add(x.l, of(x.seq)[0]); !slices.Equal(got, x.want) {
			t.Errorf("Add of %d to %v: %v", x.seq, x.l, got)
		}
	}
	l := of(1, 2)
	if got := Add(l, api.Item{Seq: 2, Text: "other"}); !slices.Equal(got, l) {
		t.Error(got)
	}
}

func TestGet(t *testing.T) {
	l := append(of(3, 5), api.Item{Seq: 8})
	for seq, want := range map[int]string{3: "td", 5: "tf", 8: ""} {
		if got, ok := Get(l, seq); got != want || !ok {
			t.Errorf("Get of %d: %q, %v", seq, got, ok)
		}
	}
	for _, seq := range []int{0, 1, 4, 6, 9, -3} {
		if got, ok := Get(l, seq); got != "" || ok {
			t.Errorf("Get of %d: %q, %v", seq, got, ok)
		}
	}
}

// TestTheLastAreThere tells a hundred, one behind the other.
func TestTheLastAreThere(t *testing.T) {
	var l []api.Item
	for n := 1; n <= 100; n++ {
		l = Add(l, of(n)[0])
		for seq := 1; seq <= n; seq++ {
			if got, ok := Get(l, seq); ok != (seq > n-api.MaxRing) || ok && got != of(seq)[0].Text {
				t.Fatalf("%d of %d: %q, %v", seq, n, got, ok)
			}
		}
		if !May(l) {
			t.Fatal(l)
		}
	}
}

func TestNothingIsTouched(t *testing.T) {
	for n := 1; n < 7; n++ {
		l := of(1, 2, 3, 4, 5, 6, 77, 78)
		for _, got := range [][]api.Item{Add(l[:n], of(9)[0]), Add(l[:n], of(1)[0])} {
			for i := range got {
				got[i] = api.Item{Seq: 99}
			}
		}
		if !slices.Equal(l, of(1, 2, 3, 4, 5, 6, 77, 78)) {
			t.Error(l)
		}
	}
}
