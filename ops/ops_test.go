package ops

import (
	"bytes"
	"math/rand"
	"slices"
	"strings"
	"testing"

	"pleach/api"
)

// pairs are steps, and the bytes that say them.
func pairs() map[string]api.Step {
	long := strings.Repeat("x", 300)
	return map[string]api.Step{
		"\x01\x02\x03n\xc3\xa9":            {Kind: api.StepJoin, R: 2, Text: "né"},
		"\x01\x00\x00":                     {Kind: api.StepJoin},
		"\x01\xac\x02\x01\xff":             {Kind: api.StepJoin, R: 300, Text: "\xff"},
		"\x02\x07":                         {Kind: api.StepLeave, R: 7},
		"\x03\x08":                         {Kind: api.StepCrash, R: 8},
		"\x04\x05hello":                    {Kind: api.StepPublish, Text: "hello"},
		"\x04\x00":                         {Kind: api.StepPublish},
		"\x04\xac\x02" + long:              {Kind: api.StepPublish, Text: long},
		"\x05\x01":                         {Kind: api.StepTick, R: 1},
		"\x06\x00":                         {Kind: api.StepComes},
		"\x07\x80\x01":                     {Kind: api.StepLost, I: 128},
		"\x08\x09":                         {Kind: api.StepTwice, I: 9},
		"\x09\x03\xac\x02":                 {Kind: api.StepTurned, I: 3, To: 300},
		"\x09\x00\x80\x80\x80\x80\x04":     {Kind: api.StepTurned, To: api.MaxNum},
		"\x06\x80\x80\x80\x80\x04":         {Kind: api.StepComes, I: api.MaxNum},
		"\x01\x80\x80\x80\x80\x04\x01\x01": {Kind: api.StepJoin, R: api.MaxNum, Text: "\x01"},
	}
}

func TestOne(t *testing.T) {
	for b, s := range pairs() {
		if got := Put([]api.Step{s}); string(got) != b {
			t.Errorf("Put of %+v: %x", s, got)
		}
		if got := Take([]byte(b)); !slices.Equal(got, []api.Step{s}) {
			t.Errorf("Take of %x: %+v", b, got)
		}
	}
}

func TestMany(t *testing.T) {
	var all []byte
	var l []api.Step
	for b, s := range pairs() {
		all, l = append(all, b...), append(l, s)
	}
	if got := Put(l); !bytes.Equal(got, all) {
		t.Errorf("%x", got)
	}
	if got := Take(all); !slices.Equal(got, l) {
		t.Errorf("%+v", got)
	}
	if len(Put(nil)) != 0 || len(Take(nil)) != 0 {
		t.Error("nothing")
	}
}

// TestKindByte: of each byte what it leaves of tens is the Kind.
func TestKindByte(t *testing.T) {
	rest := map[int]string{1: "\x02\x01a", 2: "\x02", 3: "\x02", 4: "\x01a", 5: "\x02", 6: "\x02", 7: "\x02", 8: "\x02", 9: "\x02\x03"}
	for k := range 256 {
		got := Take(append([]byte{byte(k)}, rest[k%10]...))
		if k%10 == 0 {
			if len(got) != 0 {
				t.Errorf("%d: %+v", k, got)
			}
			continue
		}
		if want := Take(append([]byte{byte(k % 10)}, rest[k%10]...)); len(want) != 1 || want[0].Kind != k%10 || !slices.Equal(got, want) {
			t.Errorf("%d: %+v", k, got)
		}
	}
}

func TestTakeByHand(t *testing.T) {
	comes := func(i int) api.Step { return api.Step{Kind: api.StepComes, I: i} }
	for b, want := range map[string][]api.Step{
		"\x00\x0a\xfa":                             nil,
		"\x00\x06\x01\x0a\x06\x02\x14":             {comes(1), comes(2)}, // passed over, wherever
		"\x06\x01\x06":                             {comes(1)},
		"\x06\x01\x06\x80":                         {comes(1)},
		"\x06\x01\x06\x80\x00\x06\x02":             {comes(1)}, // a number that is none ends it
		"\x06\x01\x06\xff\xff\xff\xff\x7f\x06\x02": {comes(1)},
		"\x06\x01\x01":                             {comes(1)},
		"\x06\x01\x01\x02":                         {comes(1)},
		"\x06\x01\x01\x02\x05abcd":                 {comes(1)},
		"\x06\x01\x01\x80\x00\x01a":                {comes(1)},
		"\x06\x01\x02":                             {comes(1)},
		"\x06\x01\x04\x09abc":                      {comes(1)},
		"\x06\x01\x09\x02":                         {comes(1)},
		"\x06\x01\x09\x80":                         {comes(1)},
		"\x06\x01\x09\x80\x00\x03":                 {comes(1)},
	} {
		if got := Take([]byte(b)); !slices.Equal(got, want) {
			t.Errorf("Take of %x: %+v", b, got)
		}
	}
}

// TestLeftOut: steps that no bytes say.
func TestLeftOut(t *testing.T) {
	ok := api.Step{Kind: api.StepTick, R: 4}
	for _, s := range []api.Step{
		{}, {Kind: 10}, {Kind: 11, R: 1, Text: "a"}, {Kind: -1}, {Kind: 256 + 5, R: 1}, {Kind: 1<<32 + 5, R: 1}, {Kind: 15, R: 1},
		{Kind: api.StepJoin, R: -1, Text: "a"}, {Kind: api.StepJoin, R: -1, Text: "\x01a"}, {Kind: api.StepJoin, R: api.MaxNum + 1}, {Kind: api.StepJoin, R: 1, I: 1}, {Kind: api.StepJoin, R: 1, To: 1},
		{Kind: api.StepTick, R: -5}, {Kind: api.StepTick, R: api.MaxNum + 1}, {Kind: api.StepTick, R: 1, I: 1}, {Kind: api.StepTick, R: 1, Text: "a"}, {Kind: api.StepLeave, R: 1, To: 3}, {Kind: api.StepCrash, R: 1, To: 3},
		{Kind: api.StepPublish, Text: "a", R: 1}, {Kind: api.StepPublish, Text: "a", I: 1}, {Kind: api.StepPublish, Text: "a", To: 1},
		{Kind: api.StepComes, I: -1}, {Kind: api.StepComes, I: 1, R: 2}, {Kind: api.StepLost, I: 1, To: 2}, {Kind: api.StepTwice, I: 1, Text: "x"}, {Kind: api.StepTwice, I: api.MaxNum + 1},
		{Kind: api.StepTurned, I: -1, To: 2}, {Kind: api.StepTurned, I: 1, To: -2}, {Kind: api.StepTurned, I: 1, To: api.MaxNum + 1}, {Kind: api.StepTurned, I: 1, To: 2, R: 1}, {Kind: api.StepTurned, I: 1, To: 2, Text: "x"},
	} {
		if got := Put([]api.Step{s}); len(got) != 0 {
			t.Errorf("Put of %+v: %x", s, got)
		}
		if got := Put([]api.Step{ok, s, ok}); string(got) != "\x05\x04\x05\x04" {
			t.Errorf("Put of %+v between others: %x", s, got)
		}
	}
}

// TestAnyBytes: what bytes say is said by the bytes that are made of it.
func TestAnyBytes(t *testing.T) {
	r := rand.New(rand.NewSource(19))
	n := 0
	for range 20000 {
		b := make([]byte, r.Intn(40))
		for i := range b {
			b[i] = byte(r.Intn(12))
			if r.Intn(10) == 0 {
				b[i] = byte(r.Intn(256))
			}
		}
		was := slices.Clone(b)
		l := Take(b)
		n += len(l)
		if got := Take(Put(l)); !slices.Equal(got, l) || !bytes.Equal(b, was) {
			t.Fatalf("%x: %+v, then %+v", b, l, got)
		}
	}
	if n < 10000 {
		t.Error(n)
	}
}

// TestLongRuns: a hundred thousand steps are said within a moment.
func TestLongRuns(t *testing.T) {
	l := slices.Repeat([]api.Step{{Kind: api.StepTick, R: 3}}, 100000)
	if b := Put(l); len(b) != 200000 || !slices.Equal(Take(b), l) {
		t.Error(len(b))
	}
}
