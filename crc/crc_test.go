package crc

import (
	"hash/crc32"
	"math/rand"
	"slices"
	"testing"
)

func TestSumByHand(t *testing.T) {
	for s, want := range map[string]uint32{"": 0, "123456789": 0xCBF43926, "a": 0xE8B7BE43, "\x00": 0xD202EF8D, "\xff": 0xFF000000} {
		if got := Sum([]byte(s)); got != want {
			t.Errorf("Sum of %x: %x", s, got)
		}
	}
	if Sum(nil) != 0 {
		t.Error("of nothing")
	}
}

func TestSumAsTheLibrary(t *testing.T) {
	r := rand.New(rand.NewSource(4))
	for n := range 300 {
		b := make([]byte, n)
		r.Read(b)
		was := slices.Clone(b)
		sum := Sum(b)
		if sum != crc32.ChecksumIEEE(b) || !slices.Equal(b, was) {
			t.Fatalf("Sum of %x: %x", b, sum)
		}
		if n > 0 { // a byte that is turned is seen
			b[r.Intn(n)] ^= byte(1 + r.Intn(255))
			if Sum(b) == sum {
				t.Fatalf("%x has the sum of %x", b, was)
			}
		}
	}
}
