package span

import (
	"slices"
	"testing"

	"pleach/api"
)

func sp(n ...int) []api.Span {
	var l []api.Span
	for i := 0; i+1 < len(n); i += 2 {
		l = append(l, api.Span{Lo: n[i], Hi: n[i+1]})
	}
	return l
}

// of tells the pieces of the numbers whose bits stand in set (bit 0: number 1).
func of(set int) []api.Span {
	var l []api.Span
	for n := 1; set>>(n-1) != 0; n++ {
		if set>>(n-1)&1 == 0 {
			continue
		}
		if len(l) > 0 && l[len(l)-1].Hi == n-1 {
			l[len(l)-1].Hi = n
		} else {
			l = append(l, api.Span{Lo: n, Hi: n})
		}
	}
	return l
}

func TestMay(t *testing.T) {
	for _, l := range [][]api.Span{nil, {}, sp(1, 1), sp(1, 3, 5, 5), sp(1, 1, 3, 3, 5, 9), sp(1, api.MaxSeq), sp(api.MaxSeq, api.MaxSeq)} {
		if !May(l) {
			t.Errorf("%v are", l)
		}
	}
	for _, l := range [][]api.Span{sp(0, 1), sp(-3, -2), sp(2, 1), sp(1, 1, 2, 2), sp(1, 2, 2, 3), sp(5, 6, 1, 2), sp(1, 3, 5, 4), sp(1, api.MaxSeq+1), sp(1, 1<<63-1), sp(1, 1, 0, 5)} {
		if May(l) {
			t.Errorf("%v are none", l)
		}
	}
}

// TestAllOfSix goes over all sets of the numbers 1 to 6, and all spans of them.
func TestAllOfSix(t *testing.T) {
	for set := range 64 {
		l := of(set)
		if !May(l) {
			t.Fatal("the model", l)
		}
		count := 0
		for n := -1; n < 9; n++ {
			in := n >= 1 && set>>(n-1)&1 == 1
			if in {
				count++
			}
			if Has(l, n) != in {
				t.Errorf("Has of %d in %v", n, l)
			}
		}
		if Count(l) != count {
			t.Errorf("Count of %v: %d", l, Count(l))
		}
		for lo := 1; lo <= 6; lo++ {
			for hi := lo; hi <= 6; hi++ {
				s, bits := api.Span{Lo: lo, Hi: hi}, (1<<hi-1)&^(1<<(lo-1)-1)
				if got, want := Add(l, s), of(set|bits); !slices.Equal(got, want) {
					t.Errorf("Add of %v to %v: %v", s, l, got)
				}
				lacks := Lacks(l, s)
				if want := of(bits &^ set); !slices.Equal(lacks, want) {
					t.Errorf("Lacks of %v in %v: %v", s, l, lacks)
				}
				with := l
				for _, x := range lacks {
					with = Add(with, x)
				}
				if !slices.Equal(with, Add(l, s)) {
					t.Errorf("what %v lacks of %v, added: %v", l, s, with)
				}
			}
		}
	}
}

func TestSpansThatMayNotBe(t *testing.T) {
	l := sp(2, 3, 9, 9)
	for _, s := range []api.Span{{}, {Lo: 0, Hi: 5}, {Lo: 4, Hi: 3}, {Lo: -1, Hi: -1}, {Lo: 1, Hi: api.MaxSeq + 1}, {Lo: 1 << 62, Hi: 1<<63 - 1}} {
		if got := Add(l, s); !slices.Equal(got, l) {
			t.Errorf("Add of %v: %v", s, got)
		}
		if got := Lacks(l, s); len(got) != 0 {
			t.Errorf("Lacks of %v: %v", s, got)
		}
	}
	if got := Add(l, api.Span{Lo: api.MaxSeq, Hi: api.MaxSeq}); !slices.Equal(got, sp(2, 3, 9, 9, api.MaxSeq, api.MaxSeq)) {
		t.Error(got)
	}
	if got := Add(sp(1, 1), api.Span{Lo: 2, Hi: 3}); !slices.Equal(got, sp(1, 3)) {
		t.Error(got)
	}
}

func TestNothingIsTouched(t *testing.T) {
	room := sp(1, 2, 5, 6, 77, 78)
	for _, s := range []api.Span{{Lo: 3, Hi: 3}, {Lo: 9, Hi: 9}, {Lo: 2, Hi: 5}, {}} {
		for _, got := range [][]api.Span{Add(room[:2], s), Lacks(room[:2], api.Span{Lo: 1, Hi: 9})} {
			got = append(got, api.Span{})
			for i := range got {
				got[i] = api.Span{Lo: 99, Hi: 99}
			}
		}
	}
	if !slices.Equal(room, sp(1, 2, 5, 6, 77, 78)) {
		t.Error(room)
	}
}
