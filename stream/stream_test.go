package stream_test

import (
	"bytes"
	"errors"
	"math"
	"math/rand"
	"testing"

	"sluiceway/api"
	"sluiceway/dev"
	"sluiceway/slab"
	"sluiceway/stream"
)

func text(n, salt int) []byte {
	b := make([]byte, n)
	for i := range b {
		b[i] = byte(i*5 + salt)
	}
	return b
}

func set(t *testing.T, sizes ...int) *dev.Set {
	t.Helper()
	s, err := dev.New(sizes...)
	if err != nil {
		t.Fatal(err)
	}
	return s
}

func made(t *testing.T, s *dev.Set, d, epoch, head int) *stream.Stream {
	t.Helper()
	x, err := stream.New(s, d, epoch, head)
	if err != nil || x == nil {
		t.Fatal(err)
	}
	return x
}

func is(t *testing.T, what string, got, want error) {
	t.Helper()
	if !errors.Is(got, want) || (got == nil) != (want == nil) {
		t.Errorf("%s: %v, not %v", what, got, want)
	}
}

// refused asks that a record is refused, and nothing else is answered.
func refused(t *testing.T, what string, x *stream.Stream, b []byte, want error) {
	t.Helper()
	at, err := x.Append(b)
	is(t, what, err, want)
	if at != 0 {
		t.Error(what, at)
	}
}

func numbers(t *testing.T, x *stream.Stream, head, tail, sure, room int) {
	t.Helper()
	if x.Head() != head || x.Tail() != tail || x.Sure() != sure || x.Room() != room {
		t.Errorf("head %d tail %d sure %d room %d, not %d %d %d %d", x.Head(), x.Tail(), x.Sure(), x.Room(), head, tail, sure, room)
	}
}

// P14.1
func TestNewAndNil(t *testing.T) {
	s := set(t, 3, 4)
	for _, c := range [][3]int{{-1, 1, 0}, {2, 1, 0}, {0, 0, 0}, {0, 65536, 0}, {0, -1, 0}, {0, 1, -1}, {0, 1, 1<<32 - 1}, {0, 1, math.MaxInt}, {math.MinInt, 1, 0}} {
		x, err := stream.New(s, c[0], c[1], c[2])
		if x != nil || !errors.Is(err, api.ErrRange) {
			t.Error(c, err)
		}
		list, err := stream.Scan(s, c[0], c[1], c[2])
		if list != nil || !errors.Is(err, api.ErrRange) {
			t.Error(c, err)
		}
	}
	if x, err := stream.New(nil, 0, 1, 0); x != nil || !errors.Is(err, api.ErrRange) {
		t.Error("nil set")
	}
	if _, err := stream.Scan(nil, 0, 1, 0); !errors.Is(err, api.ErrRange) {
		t.Error("nil set")
	}
	numbers(t, made(t, s, 1, 65535, 1<<32-2), 1<<32-2, 1<<32-2, 1<<32-2, 4)
	var x *stream.Stream
	refused(t, "append", x, nil, api.ErrDown)
	is(t, "flush", x.Flush(), api.ErrDown)
	is(t, "truncate", x.Truncate(0), api.ErrDown)
	numbers(t, x, 0, 0, 0, 0)
}

// P14.1
func TestNeed(t *testing.T) {
	for n, w := range map[int]int{-1: 0, math.MinInt: 0, 0: 1, 49: 1, 50: 2, 99: 2, 100: 3, 127: 3, 128: 3, 148: 3, 149: 4, 4096: 82, 16383: 328, 16384: 328, math.MaxInt: 184467440737095517, math.MaxInt - 7: 184467440737095517} {
		if stream.Need(n) != w {
			t.Error(n, stream.Need(n), w)
		}
	}
}

// P14.1
func TestLayout(t *testing.T) {
	s := set(t, 1, 5)
	x := made(t, s, 1, 3, 4)
	if at, err := x.Append(text(60, 1)); at != 6 || err != nil {
		t.Error(at, err)
	}
	frame := append([]byte{60}, text(60, 1)...)
	for i, part := range [][]byte{frame[:50], frame[50:]} {
		w, _ := slab.Seal(slab.Slab{Stamp: 3<<32 + 4 + i + 1, Kind: 1 + i, Data: part})
		if got, _ := s.Read(1, (4+i)%5); got != w {
			t.Error("sector", i)
		}
	}
	if s.Waiting(1) != 2 || s.Waiting(0) != 0 || s.Steps() != 2 {
		t.Error("steps")
	}
	numbers(t, x, 4, 6, 4, 3)
	is(t, "not sure yet", x.Truncate(5), api.ErrRange)
	is(t, "flush", x.Flush(), nil)
	numbers(t, x, 4, 6, 6, 3)
	is(t, "ahead", x.Truncate(3), api.ErrRange)
	is(t, "behind", x.Truncate(7), api.ErrRange)
	is(t, "truncate", x.Truncate(6), nil)
	numbers(t, x, 6, 6, 6, 5)
	is(t, "back", x.Truncate(5), api.ErrRange)
	if at, err := x.Append(nil); at != 7 || err != nil {
		t.Error(at, err)
	}
	list, err := stream.Scan(s, 1, 3, 6)
	if err != nil || len(list) != 1 || len(list[0].Data) != 0 || list[0].End != 7 {
		t.Error(list, err)
	}
}

// P14.1
func TestFull(t *testing.T) {
	s := set(t, 90, 3)
	x := made(t, s, 0, 1, 0)
	refused(t, "long", x, text(4097, 1), api.ErrRange)
	if at, err := x.Append(text(4096, 1)); at != 82 || err != nil {
		t.Error(at, err)
	}
	list, err := stream.Scan(s, 0, 1, 0)
	if err != nil || len(list) != 1 || !bytes.Equal(list[0].Data, text(4096, 1)) || list[0].End != 82 {
		t.Error("long record", err)
	}
	x = made(t, s, 1, 1, 0)
	refused(t, "too large", x, text(149, 1), api.ErrFull)
	refused(t, "range first", x, text(4097, 1), api.ErrRange)
	if at, err := x.Append(text(50, 1)); at != 2 || err != nil {
		t.Error(at, err)
	}
	refused(t, "full", x, text(50, 1), api.ErrFull)
	numbers(t, x, 0, 2, 0, 1)
	if _, err = x.Append(text(49, 2)); err != nil {
		t.Error(err)
	}
	refused(t, "full", x, nil, api.ErrFull)
	x.Flush()
	x.Truncate(2)
	if at, err := x.Append(text(99, 3)); at != 5 || err != nil {
		t.Error(at, err)
	}
	numbers(t, x, 2, 5, 3, 0)
	list, _ = stream.Scan(s, 1, 1, 2)
	if len(list) != 2 || !bytes.Equal(list[0].Data, text(49, 2)) || !bytes.Equal(list[1].Data, text(99, 3)) || list[1].End != 5 {
		t.Error("round", list)
	}
	last := made(t, s, 0, 65535, 1<<32-4)
	refused(t, "above the last position", last, text(150, 1), api.ErrFull)
	if at, err := last.Append(text(140, 1)); at != 1<<32-1 || err != nil {
		t.Error(at, err)
	}
	refused(t, "no position any more", last, nil, api.ErrFull)
	list, err = stream.Scan(s, 0, 65535, 1<<32-4)
	if err != nil || len(list) != 1 || list[0].End != 1<<32-1 {
		t.Error("last", list, err)
	}
}

// P14.1
func TestPower(t *testing.T) {
	s := set(t, 9)
	x := made(t, s, 0, 1, 0)
	x.Append(text(10, 1))
	s.Arm(1)
	refused(t, "power goes", x, text(60, 1), api.ErrDown)
	numbers(t, x, 0, 1, 0, 8)
	_, err := stream.Scan(s, 0, 1, 0)
	is(t, "scan", err, api.ErrDown)
	_, err = stream.Scan(s, 0, 0, 0)
	is(t, "scan", err, api.ErrRange)
	s.Crash()
	refused(t, "stuck", x, text(1, 1), api.ErrDown)
	refused(t, "stuck first", x, text(5000, 1), api.ErrDown)
	is(t, "stuck", x.Flush(), api.ErrDown)
	is(t, "truncate", x.Truncate(1), api.ErrRange)
	is(t, "truncate", x.Truncate(0), nil)
	numbers(t, x, 0, 1, 0, 8)
	y := made(t, s, 0, 2, 0)
	y.Append(text(10, 1))
	s.Arm(0)
	is(t, "flush", y.Flush(), api.ErrDown)
	s.Crash()
	is(t, "stuck", y.Flush(), api.ErrDown)
	numbers(t, y, 0, 1, 0, 8)
}

func seal(t *testing.T, s *dev.Set, at, size, epoch, kind int, data []byte) {
	t.Helper()
	x, err := slab.Seal(slab.Slab{Stamp: epoch<<32 + at + 1, Kind: kind, Data: data})
	if err != nil {
		t.Fatal(err)
	}
	s.Write(0, at%size, x)
}

// P14.1: what counts as a whole record.
func TestScanRefuses(t *testing.T) {
	long := append([]byte{60}, text(60, 1)...)
	for name, put := range map[string]func(s *dev.Set){
		"kind 2 first":       func(s *dev.Set) { seal(t, s, 1, 8, 1, 2, []byte{0}) },
		"another epoch":      func(s *dev.Set) { seal(t, s, 1, 8, 2, 1, []byte{0}) },
		"another position":   func(s *dev.Set) { seal(t, s, 9, 8, 1, 1, []byte{0}) },
		"no count":           func(s *dev.Set) { seal(t, s, 1, 8, 1, 1, nil) },
		"half a count":       func(s *dev.Set) { seal(t, s, 1, 8, 1, 1, []byte{0x80}) },
		"a long count":       func(s *dev.Set) { seal(t, s, 1, 8, 1, 1, []byte{0x81, 0, 5}) },
		"4097":               func(s *dev.Set) { seal(t, s, 1, 8, 1, 1, append([]byte{0x81, 0x20}, text(48, 1)...)) },
		"too short":          func(s *dev.Set) { seal(t, s, 1, 8, 1, 1, []byte{3, 1, 2}) },
		"too long":           func(s *dev.Set) { seal(t, s, 1, 8, 1, 1, []byte{3, 1, 2, 3, 4}) },
		"second one missing": func(s *dev.Set) { seal(t, s, 1, 8, 1, 1, long[:50]) },
		"second one a first": func(s *dev.Set) { seal(t, s, 1, 8, 1, 1, long[:50]); seal(t, s, 2, 8, 1, 1, long[50:]) },
		"second one short":   func(s *dev.Set) { seal(t, s, 1, 8, 1, 1, long[:50]); seal(t, s, 2, 8, 1, 2, long[50:60]) },
		"second one of three": func(s *dev.Set) {
			seal(t, s, 1, 8, 1, 1, long[:40])
			seal(t, s, 2, 8, 1, 2, long[40:50])
			seal(t, s, 3, 8, 1, 2, long[50:])
		},
	} {
		s := set(t, 8)
		seal(t, s, 0, 8, 1, 1, []byte{1, 7})
		put(s)
		list, err := stream.Scan(s, 0, 1, 0)
		if err != nil || len(list) != 1 || list[0].End != 1 || !bytes.Equal(list[0].Data, []byte{7}) {
			t.Error(name, list, err)
		}
	}
	for n, want := range map[int]int{4096: 1, 4097: 0} {
		s := set(t, 100)
		frame := append([]byte{byte(n) | 0x80, 0x20}, text(n, 1)...)
		for i, part := range slab.Parts(frame) {
			seal(t, s, i, 100, 1, min(i+1, 2), part)
		}
		if list, err := stream.Scan(s, 0, 1, 0); err != nil || len(list) != want {
			t.Error("long", n, len(list), err)
		}
	}
	s := set(t, 2)
	seal(t, s, 0, 2, 1, 1, []byte{1, 7})
	seal(t, s, 1, 2, 1, 1, long[:50])
	seal(t, s, 2, 2, 1, 2, long[50:])
	if list, err := stream.Scan(s, 0, 1, 1); err != nil || len(list) != 1 {
		t.Error("whole", list, err)
	}
	if list, err := stream.Scan(s, 0, 1, 0); err != nil || len(list) != 0 {
		t.Error("overwritten", list, err)
	}
}

// P14.2
func TestCrashes(t *testing.T) {
	for seed := range int64(300) {
		r := rand.New(rand.NewSource(seed))
		s := set(t, 2+r.Intn(20))
		head := 0
		for epoch := 1; epoch < 8; epoch++ {
			x := made(t, s, 0, epoch, head)
			var list [][]byte
			var ends []int
			sure := 0
			s.Arm(r.Intn(60))
			for {
				op := r.Intn(10)
				if op == 0 {
					err := x.Flush()
					if err != nil {
						break
					}
					sure = len(list)
				} else if op == 1 && sure > 0 {
					k := r.Intn(sure)
					is(t, "truncate", x.Truncate(ends[k]), nil)
					list, ends, sure = list[k+1:], ends[k+1:], sure-k-1
				} else {
					b := text(r.Intn(160), r.Intn(250))
					end, err := x.Append(b)
					if errors.Is(err, api.ErrFull) {
						if sure == len(list) && len(list) == 0 {
							s.Flush(0)
						}
						if r.Intn(3) == 0 && x.Flush() != nil {
							break
						} else if x.Sure() == x.Tail() {
							sure = len(list)
						}
						continue
					}
					list = append(list, b)
					ends = append(ends, end)
					if err != nil {
						break
					}
				}
			}
			var keep []dev.Keep
			for n := range s.Waiting(0) {
				if r.Intn(3) > 0 {
					keep = append(keep, dev.Keep{N: n, Tear: r.Intn(80) * r.Intn(2)})
				}
			}
			s.Crash(keep...)
			got, err := stream.Scan(s, 0, epoch, x.Head())
			if err != nil || len(got) < sure || len(got) > len(list) {
				t.Fatal(seed, epoch, len(got), sure, len(list), err)
			}
			for i, f := range got {
				if !bytes.Equal(f.Data, list[i]) || ends[i] != 0 && f.End != ends[i] {
					t.Fatal(seed, "record", i)
				}
			}
			if more, err := stream.Scan(s, 0, epoch+1, x.Head()); err != nil || len(more) != 0 {
				t.Fatal("of the next epoch")
			}
			head = []int{0, x.Head(), r.Intn(1 << 20)}[r.Intn(3)]
		}
	}
}

// P14.3
func TestNothingKept(t *testing.T) {
	s := set(t, 9)
	x := made(t, s, 0, 1, 0)
	b := text(70, 1)
	x.Append(b[:60])
	x.Append(b[:5])
	if !bytes.Equal(b, text(70, 1)) {
		t.Error("changed")
	}
	clear(b)
	a, _ := stream.Scan(s, 0, 1, 0)
	for i := range a {
		clear(a[i].Data)
		_ = append(a[i].Data, 1, 2, 3)
	}
	c, _ := stream.Scan(s, 0, 1, 0)
	if len(c) != 2 || !bytes.Equal(c[0].Data, text(60, 1)) || !bytes.Equal(c[1].Data, text(5, 1)) {
		t.Error("shared")
	}
}
