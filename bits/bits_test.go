package bits

import (
	"bytes"
	"strings"
	"testing"

	"pleach/api"
)

func TestPutAndTakeByHand(t *testing.T) {
	for v, want := range map[int]string{
		0: "\x00", 1: "\x01", 127: "\x7f", 128: "\x80\x01", 300: "\xac\x02", 16383: "\xff\x7f", 16384: "\x80\x80\x01",
		1<<28 - 1: "\xff\xff\xff\x7f", 1 << 28: "\x80\x80\x80\x80\x01", api.MaxNum: "\x80\x80\x80\x80\x04", api.MaxNum - 1: "\xff\xff\xff\xff\x03",
	} {
		if got := Put(nil, v); string(got) != want {
			t.Errorf("Put of %d: %x", v, got)
		}
		if got := Put([]byte("ab"), v); string(got) != "ab"+want {
			t.Errorf("Put of %d behind ab: %x", v, got)
		}
		for _, rest := range []string{"", "\x00", "\xff\xff"} {
			if got, n, ok := Take([]byte(want + rest)); got != v || n != len(want) || !ok {
				t.Errorf("Take of %x and %x: %d, %d, %v", want, rest, got, n, ok)
			}
		}
	}
}

var noNumbers = []string{"", "\x80", "\xff", "\xff\xff\xff\xff", "\x80\x00", "\xff\x00", "\x80\x80\x00", "\x81\x80\x80\x80\x04", "\x80\x80\x80\x80\x05", "\xff\xff\xff\xff\x7f", "\x80\x80\x80\x80\x84\x00", "\x80\x80\x80\x80\x80\x00", "\x80\x80\x80\x80\x80\x01", "\x80\x80\x80\x80\x80\x80\x80\x80\x80\x01", "\x80\x80\x80\x80\x80\x80\x80\x80\x80\x80\x80\x80\x01", strings.Repeat("\xff", 1000), strings.Repeat("\x80", 1000) + "\x00"}

func TestTakeOfNone(t *testing.T) {
	for _, s := range noNumbers {
		if v, n, ok := Take([]byte(s)); v != 0 || n != 0 || ok {
			t.Errorf("Take of %x: %d, %d, %v", s, v, n, ok)
		}
		if v, n, ok := TakeText([]byte(s)); v != "" || n != 0 || ok {
			t.Errorf("TakeText of %x: %q, %d, %v", s, v, n, ok)
		}
	}
}

// TestOnlyWhatIsPut takes all of up to three bytes: what is taken is what is put, and no other bytes are taken as it.
func TestOnlyWhatIsPut(t *testing.T) {
	try := func(b []byte) {
		v, n, ok := Take(b)
		if ok && !bytes.Equal(Put(nil, v), b[:n]) {
			t.Fatalf("Take of %x: %d, %d", b, v, n)
		}
	}
	for x := range 256 {
		try([]byte{byte(x)})
		for y := range 256 {
			try([]byte{byte(x), byte(y)})
			try([]byte{byte(x), byte(y), 0})
			try([]byte{byte(x), 0x80, 0x80, 0x80, byte(y)})
			try([]byte{0x80, 0xff, 0xff, byte(x), byte(y)})
		}
	}
	for v := 0; v < 70000; v++ {
		if got, n, ok := Take(Put(nil, v)); got != v || n != len(Put(nil, v)) || !ok {
			t.Fatal(v, got, n, ok)
		}
	}
}

func TestTexts(t *testing.T) {
	long := strings.Repeat("né", 100)
	for s, want := range map[string]string{"": "\x00", "a": "\x01a", "né\xff": "\x04n\xc3\xa9\xff", long: "\xac\x02" + long} {
		if got := PutText([]byte("xy"), s); string(got) != "xy"+want {
			t.Errorf("PutText of %q: %x", s, got)
		}
		if got, n, ok := TakeText([]byte(want + "zz")); got != s || n != len(want) || !ok {
			t.Errorf("TakeText of %x: %q, %d, %v", want, got, n, ok)
		}
		if got, n, ok := TakeText([]byte(want)); got != s || n != len(want) || !ok {
			t.Errorf("TakeText of just %x: %q, %d, %v", want, got, n, ok)
		}
	}
	for _, s := range []string{"\x01", "\x03ab", "\xac\x02ab", "\x80\x80\x80\x80\x04abc"} {
		if got, n, ok := TakeText([]byte(s)); got != "" || n != 0 || ok {
			t.Errorf("TakeText of %x: %q, %d, %v", s, got, n, ok)
		}
	}
}

func TestBeyondTheLimits(t *testing.T) {
	for _, v := range []int{-1, -1 << 63, api.MaxNum + 1, 1<<63 - 1} {
		Put(nil, v)
	}
}

func TestNothingIsTouched(t *testing.T) {
	room := []byte("abcdefghij")
	for _, got := range [][]byte{Put(room[:2], 5), Put(room[:2], 300), PutText(room[:2], "xyz")} {
		for i := range got {
			got[i] = '?'
		}
	}
	if string(room) != "abcdefghij" {
		t.Errorf("%s", room)
	}
}
