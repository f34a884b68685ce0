package msg

import (
	"bytes"
	"encoding/binary"
	"hash/crc32"
	"math/rand"
	"reflect"
	"slices"
	"strings"
	"testing"

	"pleach/api"
)

// good tells messages that may be: of each Kind, ordinary ones and such at the limits.
func good() []api.Msg {
	return []api.Msg{
		{Kind: api.Attach, From: 2, To: 1, Inc: 1},
		{Kind: api.Attach, From: 1, To: 8, Inc: api.MaxNum},
		{Kind: api.Accept, From: 1, To: 2, Inc: 1, Path: []int{1}},
		{Kind: api.Accept, From: 2, To: 3, Inc: 1, Epoch: api.MaxNum, Age: api.MaxNum, Path: []int{1, 2, 3, 4, 5, 6, 7, 8}, Lo: api.MaxSeq},
		{Kind: api.Accept, From: 2, To: 3, Inc: 5, Epoch: 300, Age: 7, Path: []int{1, 2}, Lo: 9},
		{Kind: api.Refuse, From: 8, To: 7, Inc: 3},
		{Kind: api.BeatUp, From: 8, To: 7, Inc: 3},
		{Kind: api.BeatDn, From: 2, To: 3, Inc: 5, Epoch: 300, Age: 7, Path: []int{1, 2}, Hi: 9},
		{Kind: api.BeatDn, From: 2, To: 3, Inc: 5, Path: []int{1, 2}, Hi: api.MaxSeq},
		{Kind: api.BeatDn, From: 2, To: 3, Inc: 5, Path: []int{1, 2}},
		{Kind: api.Detach, From: 8, To: 7, Inc: 3},
		{Kind: api.Data, From: 1, To: 2, Inc: 1, Lo: 1},
		{Kind: api.Data, From: 1, To: 2, Inc: 1, Lo: api.MaxSeq, Text: "néééé\xff12"},
		{Kind: api.Nak, From: 1, To: 2, Inc: 1, Lo: 1, Hi: 1},
		{Kind: api.Nak, From: 1, To: 2, Inc: 1, Lo: 1, Hi: api.MaxSeq},
		{Kind: api.Note, From: 1, To: 2, Inc: 1, Lo: 7, Hi: 9},
		{Kind: api.Note, From: 1, To: 2, Inc: 1, Lo: api.MaxSeq, Hi: api.MaxSeq},
	}
}

// fields tells pointers to all numbers of m.
func fields(m *api.Msg) map[string]*int {
	return map[string]*int{"Kind": &m.Kind, "From": &m.From, "To": &m.To, "Inc": &m.Inc, "Epoch": &m.Epoch, "Age": &m.Age, "Lo": &m.Lo, "Hi": &m.Hi}
}

// may is the chapter's table, field by field: from where to where.
func may(m api.Msg) bool {
	if m.Kind < 1 || m.Kind > 9 {
		return false
	}
	lim := map[string][2]int{"Kind": {1, 9}, "From": {1, 8}, "To": {1, 8}, "Inc": {1, 1 << 30}, "Epoch": {0, 0}, "Age": {0, 0}, "Lo": {0, 0}, "Hi": {0, 0}}
	path, text := false, 0
	switch m.Kind {
	case 2, 5:
		path, lim["Epoch"], lim["Age"] = true, [2]int{0, 1 << 30}, [2]int{0, 1 << 30}
		lim[map[int]string{2: "Lo", 5: "Hi"}[m.Kind]] = [2]int{0, 1000000}
	case 7:
		text, lim["Lo"] = 12, [2]int{1, 1000000}
	case 8, 9:
		lim["Lo"], lim["Hi"] = [2]int{1, m.Hi}, [2]int{1, 1000000}
	}
	for name, p := range fields(&m) {
		if *p < lim[name][0] || *p > lim[name][1] {
			return false
		}
	}
	if path == (len(m.Path) == 0) || m.From == m.To || len(m.Text) > text {
		return false
	}
	seen := map[int]bool{}
	for i, id := range m.Path {
		if id < 1 || id > 8 || seen[id] || i == 0 && id != 1 {
			return false
		}
		seen[id] = true
	}
	return true
}

// changed tells m with one thing changed, in all ways that come to mind.
func changed(m api.Msg) []api.Msg {
	var out []api.Msg
	for name := range fields(&m) {
		for _, v := range []int{-1 << 63, -1, 0, 1, 2, 3, 4, 5, 6, 7, 8, 9, 10, 11, api.MaxSeq - 1, api.MaxSeq, api.MaxSeq + 1, api.MaxNum, api.MaxNum + 1, 1<<63 - 1} {
			c := m
			*fields(&c)[name] = v
			out = append(out, c)
		}
	}
	for _, p := range [][]int{nil, {}, {1}, {2}, {1, 2}, {1, 1}, {1, 9}, {1, 2, 3, 4, 5, 6, 7, 8}, {1, 2, 3, 4, 5, 6, 7, 8, 9}, make([]int, 40)} {
		c := m
		c.Path = p
		out = append(out, c)
	}
	for _, s := range []string{"", "a", strings.Repeat("x", 12), strings.Repeat("x", 13)} {
		c := m
		c.Text = s
		out = append(out, c)
	}
	return out
}

func TestMay(t *testing.T) {
	yes := 0
	for _, m := range good() {
		if !May(m) {
			t.Errorf("%v may be", m)
		}
		for _, c := range changed(m) {
			if May(c) != may(c) {
				t.Errorf("May of %v: %v", c, May(c))
			}
			if may(c) {
				yes++
			}
			if b := Put(c); (b != nil) != may(c) {
				t.Errorf("Put of %v: %x", c, b)
			}
		}
	}
	if yes < 100 || May(api.Msg{}) {
		t.Error(yes)
	}
}

func TestSame(t *testing.T) {
	for _, m := range good() {
		for _, c := range changed(m) {
			want := reflect.DeepEqual(m, c) || len(m.Path) == 0 && len(c.Path) == 0 && c.Path != nil
			if Same(m, c) != want || Same(c, m) != want {
				t.Errorf("Same of %v and %v: %v", m, c, !want)
			}
		}
	}
	a, b := api.Msg{Path: []int{1, 2}}, api.Msg{Path: []int{1, 3}}
	if Same(a, b) || Same(a, api.Msg{Path: []int{1}}) || !Same(a, api.Msg{Path: []int{1, 2}}) {
		t.Error("paths")
	}
}

// plain tells m as bytes by the library.
func plain(m api.Msg) []byte {
	l := append([]int{m.Kind, m.From, m.To, m.Inc, m.Epoch, m.Age, len(m.Path)}, m.Path...)
	var b []byte
	for _, v := range append(l, m.Lo, m.Hi, len(m.Text)) {
		b = binary.AppendUvarint(b, uint64(v))
	}
	b = append(b, m.Text...)
	return binary.BigEndian.AppendUint32(b, crc32.ChecksumIEEE(b))
}

func TestPutAndTake(t *testing.T) {
	for _, m := range good() {
		b := Put(m)
		if !bytes.Equal(b, plain(m)) {
			t.Errorf("Put of %v: %x", m, b)
		}
		was := slices.Clone(b)
		got, ok := Take(b)
		if !ok || !Same(got, m) || !bytes.Equal(b, was) {
			t.Errorf("Take of Put of %v: %v, %v", m, got, ok)
		}
		if len(got.Path) > 0 {
			if got.Path[0] = 7; len(m.Path) > 0 && m.Path[0] == 7 {
				t.Error("it kept a path")
			}
		}
	}
	if b := Put(api.Msg{Kind: api.Data, From: 1, To: 2, Inc: 300, Lo: 3, Text: "hi"}); string(b[:len(b)-4]) != "\x07\x01\x02\xac\x02\x00\x00\x00\x03\x00\x02hi" {
		t.Errorf("%x", b)
	}
}

func none(t *testing.T, b []byte, what string) {
	t.Helper()
	if m, ok := Take(b); ok || !reflect.DeepEqual(m, api.Msg{}) {
		t.Errorf("%s: Take of %x: %v, %v", what, b, m, ok)
	}
}

func TestTakeOfNone(t *testing.T) {
	none(t, nil, "nothing")
	none(t, []byte{0, 0, 0, 0}, "a sum alone")
	for _, m := range good() {
		b := Put(m)
		for n := range b {
			none(t, b[:n], "too short")
			for bit := range 8 {
				c := slices.Clone(b)
				c[n] ^= 1 << bit
				none(t, c, "turned")
			}
		}
		none(t, append(slices.Clone(b), 0), "too long")
		for _, c := range changed(m) { // its sum is as it must be, but it may not be
			least := min(c.Kind, c.From, c.To, c.Inc, c.Epoch, c.Age, c.Lo, c.Hi)
			if !may(c) && least >= 0 {
				none(t, plain(c), "what may not be")
			}
		}
	}
}

// withSum tells b with its sum.
func withSum(b string) []byte {
	return binary.BigEndian.AppendUint32([]byte(b), crc32.ChecksumIEEE([]byte(b)))
}

func TestTakeOfOtherBytesOfTheSame(t *testing.T) {
	if _, ok := Take(withSum("\x01\x02\x01\x01\x00\x00\x00\x00\x00\x00")); !ok {
		t.Fatal("it is one")
	}
	for _, s := range []string{
		"\x81\x00\x02\x01\x01\x00\x00\x00\x00\x00\x00", "\x01\x02\x01\x01\x00\x00\x00\x00\x00\x80\x00", "\x01\x02\x01\x01\x00\x00\x00\x00\x00\x00\x00", "\x01\x02\x01\x01\x00\x00\x00\x00\x00",
		"\x01\x02\x01\x01\x00\x00\xff\xff\xff\xff\x03\x01\x01", "\x01\x02\x01\x01\x00\x00\x00\x00\x00\xff", "",
	} {
		none(t, withSum(s), "bytes")
	}
}

func TestTakeAnything(t *testing.T) {
	r := rand.New(rand.NewSource(5))
	for range 20000 {
		b := make([]byte, r.Intn(30))
		for i := range b {
			b[i] = byte(r.Intn(10))
		}
		if m, ok := Take(withSum(string(b))); ok && !bytes.Equal(Put(m), withSum(string(b))) {
			t.Fatalf("%x: %v", b, m)
		}
	}
}
