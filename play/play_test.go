package play

import (
	"math/rand"
	"reflect"
	"slices"
	"testing"

	"pleach/api"
	"pleach/ops"
	"pleach/world"
)

func table(r *rand.Rand) [][]int {
	d := make([][]int, api.MaxNode)
	for a := range d {
		d[a] = make([]int, api.MaxNode)
		for b := range a {
			d[a][b] = r.Intn(100)
			d[b][a] = d[a][b]
		}
	}
	return d
}

// some tells n steps of all kinds, of which some can't be done.
func some(r *rand.Rand, n int) []api.Step {
	var l []api.Step
	for range n {
		kind := 1 + r.Intn(9)
		s := api.Step{Kind: kind}
		switch kind {
		case api.StepJoin:
			s.R, s.Text = r.Intn(10), "né"
		case api.StepLeave, api.StepCrash, api.StepTick:
			s.R = r.Intn(10)
		case api.StepPublish:
			s.Text = string(rune('a' + r.Intn(26)))
		case api.StepTurned:
			s.To = r.Intn(9999)
			fallthrough
		default:
			s.I = r.Intn(4)
		}
		l = append(l, s)
	}
	return l
}

func TestRunOfNothing(t *testing.T) {
	d := table(rand.New(rand.NewSource(20)))
	want, _ := world.New(d, 2)
	for range 2 {
		w, errs, ok := Run(d, 2)
		if !ok || len(errs) != 0 || !world.Same(w, want) {
			t.Error(w, errs, ok)
		}
		w, errs, ok = Bytes(d, 2, nil)
		if !ok || len(errs) != 0 || !world.Same(w, want) {
			t.Error(w, errs, ok)
		}
	}
}

func TestNo(t *testing.T) {
	d := table(rand.New(rand.NewSource(21)))
	for _, x := range []struct {
		d [][]int
		k int
	}{{d, 0}, {d, 4}, {nil, 2}, {d[:7], 1}} {
		w, errs, ok := Run(x.d, x.k, api.Step{Kind: api.StepTick, R: 1})
		if ok || errs != nil || !reflect.DeepEqual(w, api.World{}) {
			t.Error(w, errs, ok)
		}
		w, errs, ok = Bytes(x.d, x.k, []byte{5, 1})
		if ok || errs != nil || !reflect.DeepEqual(w, api.World{}) {
			t.Error(w, errs, ok)
		}
	}
}

func TestStepByStep(t *testing.T) {
	r := rand.New(rand.NewSource(22))
	seen := map[api.Errno]int{}
	for range 40 {
		d, k, l := table(r), 1+r.Intn(3), some(r, r.Intn(150))
		want, _ := world.New(d, k)
		var wantErrs []api.Errno
		for _, s := range l {
			var err api.Errno
			want, err = world.Do(want, s)
			wantErrs = append(wantErrs, err)
			seen[err]++
		}
		was := slices.Clone(l)
		for range 2 { // the same steps come to the same
			w, errs, ok := Run(d, k, l...)
			if !ok || !slices.Equal(errs, wantErrs) || !world.Same(w, want) || !slices.Equal(l, was) {
				t.Fatalf("%+v: %+v, %v", l, w, errs)
			}
			w, errs, ok = Bytes(d, k, ops.Put(l))
			if !ok || !slices.Equal(errs, wantErrs) || !world.Same(w, want) {
				t.Fatalf("%+v: %+v, %v", l, w, errs)
			}
		}
	}
	for _, err := range []api.Errno{api.OK, api.EArg, api.ENone, api.EBusy} {
		if seen[err] == 0 {
			t.Errorf("never %d", err)
		}
	}
}

func TestByHand(t *testing.T) {
	d := table(rand.New(rand.NewSource(23)))
	w, errs, ok := Bytes(d, 2, []byte("\x01\x02\x01n\x05\x02\x06\x00\x06\x00\x04\x02hi\x06\x00\x06\x00\x02\x01\x01\x02\x01n"))
	if !ok || !slices.Equal(errs, []api.Errno{api.OK, api.OK, api.OK, api.OK, api.OK, api.OK, api.ENone, api.EArg, api.EBusy}) {
		t.Fatal(errs, ok)
	}
	if l := w.Nodes[1].F.Log; len(l) != 1 || l[0] != (api.Event{Kind: api.Told, Lo: 1, Hi: 1, Text: "hi"}) {
		t.Error(l)
	}
}

func TestNothingIsKept(t *testing.T) {
	d := table(rand.New(rand.NewSource(24)))
	w, _, _ := Run(d, 2, api.Step{Kind: api.StepTick, R: 1})
	was := d[0][1]
	w.H.Dist[0][1] = 9999
	if d[0][1] != was {
		t.Error("it kept what it was handed")
	}
}
