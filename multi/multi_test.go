package multi_test

import (
	"errors"
	"math"
	"math/rand"
	"slices"
	"testing"

	"sluiceway/api"
	"sluiceway/dev"
	"sluiceway/multi"
	"sluiceway/record"
	"sluiceway/stream"
)

func value(seq int, vs ...int) record.Record {
	r := record.Record{Seq: seq, Value: true}
	for i, v := range vs {
		r.Writes = append(r.Writes, api.Write{Key: api.Key{K: i}, V: v})
	}
	return r
}

func set(t *testing.T, sizes ...int) *dev.Set {
	t.Helper()
	s, err := dev.New(sizes...)
	if err != nil {
		t.Fatal(err)
	}
	return s
}

func made(t *testing.T, s *dev.Set, epoch int, heads []int, base int) *multi.Log {
	t.Helper()
	l, err := multi.New(s, epoch, heads, base)
	if err != nil || l == nil {
		t.Fatal(err)
	}
	return l
}

func is(t *testing.T, what string, got, want error) {
	t.Helper()
	if !errors.Is(got, want) || (got == nil) != (want == nil) {
		t.Errorf("%s: %v, not %v", what, got, want)
	}
}

func seqs(list []record.Record) []int {
	var out []int
	for _, r := range list {
		out = append(out, r.Seq)
	}
	return out
}

func gathered(t *testing.T, s *dev.Set, epoch int, heads []int, base int, want ...int) {
	t.Helper()
	list, err := multi.Gather(s, epoch, heads, base)
	if err != nil || !slices.Equal(seqs(list), want) {
		t.Errorf("gathered %v, not %v: %v", seqs(list), want, err)
	}
}

// P17.1
func TestNewRefuses(t *testing.T) {
	s := set(t, 3, 3, 3)
	for i, c := range []struct {
		epoch int
		heads []int
		base  int
	}{{1, nil, 0}, {1, make([]int, 5), 0}, {1, []int{0, 0, 0}, 0}, {0, []int{0}, 0}, {65536, []int{0}, 0}, {1, []int{-1}, 0}, {1, []int{0, 1<<32 - 1}, 0}, {1, []int{0}, -1}, {1, []int{0}, 1<<48 - 1}, {1, []int{0}, math.MaxInt}} {
		l, err := multi.New(s, c.epoch, c.heads, c.base)
		if l != nil || !errors.Is(err, api.ErrRange) {
			t.Error("new", i, err)
		}
		list, err := multi.Gather(s, c.epoch, c.heads, c.base)
		if list != nil || !errors.Is(err, api.ErrRange) {
			t.Error("gather", i, err)
		}
	}
	if _, err := multi.New(nil, 1, []int{0}, 0); !errors.Is(err, api.ErrRange) {
		t.Error(err)
	}
	if _, err := multi.Gather(nil, 1, []int{0}, 0); !errors.Is(err, api.ErrRange) {
		t.Error(err)
	}
	l := made(t, s, 65535, []int{1<<32 - 2, 0}, 1<<48-2)
	if l.Next() != 1<<48-1 || l.Durable() != 1<<48-2 || !slices.Equal(l.Room(), []int{3, 3}) {
		t.Error("last")
	}
	is(t, "last", l.Append(value(1<<48-1), 1), nil)
	is(t, "no number any more", l.Append(value(1<<48), 1), api.ErrForm)
	s.Arm(0)
	s.Flush(0)
	_, err := multi.Gather(s, 1, []int{0, 0}, 0)
	is(t, "down", err, api.ErrDown)
	_, err = multi.Gather(s, 1, []int{0, 0, 0}, 0)
	is(t, "range first", err, api.ErrRange)
}

// P17.1
func TestNil(t *testing.T) {
	var l *multi.Log
	is(t, "append", l.Append(value(1), 0), api.ErrState)
	is(t, "flush", l.Flush(0), api.ErrState)
	is(t, "sync", l.Sync(), api.ErrState)
	is(t, "truncate", l.Truncate(0), api.ErrState)
	heads, err := l.Heads(0)
	is(t, "heads", err, api.ErrState)
	if l.Next() != 0 || l.Durable() != 0 || l.Room() != nil || heads != nil {
		t.Error("nil")
	}
}

// P17.1
func TestAppend(t *testing.T) {
	s := set(t, 1, 2, 4)
	l := made(t, s, 1, []int{0, 5}, 7)
	is(t, "place", l.Append(value(8), 2), api.ErrRange)
	is(t, "place", l.Append(value(8), -1), api.ErrRange)
	is(t, "number", l.Append(value(7), 0), api.ErrRange)
	is(t, "number", l.Append(value(9), 0), api.ErrRange)
	bad := value(8, 1, 2)
	bad.Writes[1] = bad.Writes[0]
	is(t, "form", l.Append(bad, 0), api.ErrForm)
	is(t, "range first", l.Append(bad, 5), api.ErrRange)
	big := value(8, make([]int, 1400)...)
	is(t, "long", l.Append(big, 0), api.ErrRange)
	is(t, "full", l.Append(value(8, make([]int, 40)...), 0), api.ErrFull)
	if l.Next() != 8 || s.Steps() != 0 {
		t.Error("changed", l.Next())
	}
	is(t, "append", l.Append(value(8), 0), nil)
	is(t, "append", l.Append(value(9), 1), nil)
	is(t, "append", l.Append(value(10), 1), nil)
	is(t, "append", l.Append(value(11), 0), nil)
	is(t, "full", l.Append(value(12), 0), api.ErrFull)
	if l.Next() != 12 || l.Durable() != 7 || !slices.Equal(l.Room(), []int{0, 2}) {
		t.Error("numbers", l.Next(), l.Durable(), l.Room())
	}
	gathered(t, s, 1, []int{0, 5}, 7, 8, 9, 10, 11)
	gathered(t, s, 1, []int{0, 5}, 9, 10, 11)
	gathered(t, s, 1, []int{1, 5}, 7)
	gathered(t, s, 1, []int{0, 6}, 7, 8)
	gathered(t, s, 1, []int{0, 5}, 6)
	gathered(t, s, 2, []int{0, 5}, 7)
}

// P17.1
func TestDurable(t *testing.T) {
	s := set(t, 1, 9, 9)
	l := made(t, s, 1, []int{0, 0}, 0)
	l.Append(value(1), 0)
	l.Append(value(2), 1)
	is(t, "flush", l.Flush(1), nil)
	if l.Durable() != 0 {
		t.Error("the first one isn't sure")
	}
	is(t, "flush", l.Flush(0), nil)
	if l.Durable() != 2 {
		t.Error("both are")
	}
	is(t, "flush", l.Flush(2), api.ErrRange)
	is(t, "flush", l.Flush(-1), api.ErrRange)
	for seq := 3; seq < 9; seq++ {
		l.Append(value(seq), seq%3%2)
	}
	is(t, "heads", one(l.Heads(3)), api.ErrRange)
	is(t, "heads", one(l.Heads(-1)), api.ErrRange)
	is(t, "truncate", l.Truncate(3), api.ErrRange)
	is(t, "truncate", l.Truncate(-1), api.ErrRange)
	steps := s.Steps()
	is(t, "sync", l.Sync(), nil)
	if l.Durable() != 8 || s.Steps() != steps+2 || s.Waiting(1)+s.Waiting(2) != 0 {
		t.Error("sync")
	}
}

func one(_ []int, err error) error { return err }

// P17.1
func TestHeads(t *testing.T) {
	s := set(t, 1, 9, 9, 9)
	l := made(t, s, 1, []int{3, 0, 100}, 10)
	for seq, place := range []int{0, 1, 0, 0, 1} {
		is(t, "append", l.Append(value(11+seq), place), nil)
	}
	l.Sync()
	for base, w := range map[int][]int{0: {3, 0, 100}, 10: {3, 0, 100}, 11: {4, 0, 100}, 12: {4, 1, 100}, 13: {5, 1, 100}, 14: {6, 1, 100}, 15: {6, 2, 100}} {
		if h, err := l.Heads(base); err != nil || !slices.Equal(h, w) {
			t.Error(base, h, err)
		}
	}
	if !slices.Equal(l.Room(), []int{6, 7, 9}) {
		t.Error("Heads changes nothing", l.Room())
	}
	is(t, "truncate", l.Truncate(13), nil)
	for base, w := range map[int][]int{0: {5, 1, 100}, 13: {5, 1, 100}, 14: {6, 1, 100}, 15: {6, 2, 100}} {
		if h, err := l.Heads(base); err != nil || !slices.Equal(h, w) {
			t.Error("truncated", base, h, err)
		}
	}
	is(t, "back", l.Truncate(2), nil)
	if !slices.Equal(l.Room(), []int{8, 8, 9}) || l.Next() != 16 || l.Durable() != 15 {
		t.Error("room", l.Room())
	}
	gathered(t, s, 1, []int{5, 1, 100}, 13, 14, 15)
	is(t, "all", l.Truncate(15), nil)
	is(t, "more", l.Append(value(16), 2), nil)
	if l.Durable() != 15 {
		t.Error("durable")
	}
}

// P17.1
func TestPower(t *testing.T) {
	s := set(t, 1, 9, 9)
	l := made(t, s, 1, []int{0, 0}, 0)
	l.Append(value(1), 0)
	s.Arm(0)
	is(t, "append", l.Append(value(2), 1), api.ErrDown)
	if l.Next() != 2 {
		t.Error("next")
	}
	is(t, "sync", l.Sync(), api.ErrDown)
	is(t, "flush", l.Flush(0), api.ErrDown)
	if l.Durable() != 0 {
		t.Error("durable")
	}
}

// P17.1: of each stream as far as records are good and rise; of two of one number that of the lower stream.
func TestGatherOddities(t *testing.T) {
	s := set(t, 1, 20, 20)
	put := func(place int, list ...[]byte) {
		x, err := stream.New(s, place+1, 1, 0)
		if err != nil {
			t.Fatal(err)
		}
		for _, b := range list {
			if _, err := x.Append(b); err != nil {
				t.Fatal(err)
			}
		}
	}
	enc := func(seq, v int) []byte {
		b, err := record.Encode(value(seq, v))
		if err != nil {
			t.Fatal(err)
		}
		return b
	}
	put(0, enc(1, 0), enc(3, 0), enc(5, 0), []byte{1, 2, 3}, enc(7, 0))
	put(1, enc(2, 1), enc(3, 1), enc(4, 1), enc(6, 1), enc(6, 1), enc(7, 1))
	list, err := multi.Gather(s, 1, []int{0, 0}, 0)
	if err != nil || !slices.Equal(seqs(list), []int{1, 2, 3, 4, 5, 6}) || list[2].Writes[0].V != 0 || list[3].Writes[0].V != 1 {
		t.Error(list, err)
	}
	gathered(t, s, 1, []int{3, 0}, 0)
	gathered(t, s, 1, []int{3, 0}, 1, 2, 3, 4)
	gathered(t, s, 1, []int{3, 5}, 6, 7)
	gathered(t, s, 1, []int{4, 5}, 6, 7)
	gathered(t, s, 1, []int{0, 5}, 0, 1)
}

// P17.2
func TestCrashes(t *testing.T) {
	for seed := range int64(300) {
		r := rand.New(rand.NewSource(seed))
		many := 1 + r.Intn(4)
		s := set(t, append([]int{1}, []int{3 + r.Intn(9), 2 + r.Intn(9), 5 + r.Intn(9), 20}[:many]...)...)
		base := 0
		for epoch := 1; epoch < 7; epoch++ {
			heads := make([]int, many)
			for i := range heads {
				heads[i] = r.Intn(30)
			}
			l := made(t, s, epoch, heads, base)
			from, next := base, base+1
			content := map[int]int{}
			s.Arm(r.Intn(50))
			for !s.Down() {
				switch r.Intn(12) {
				case 0:
					l.Flush(r.Intn(many))
				case 1:
					l.Sync()
				case 2:
					to := from + r.Intn(l.Durable()-from+1)
					is(t, "truncate", l.Truncate(to), nil)
					from = to
				default:
					content[next] = r.Intn(1000)
					err := l.Append(value(next, make([]int, r.Intn(30))...), r.Intn(many))
					if err == nil {
						next++
					} else if errors.Is(err, api.ErrFull) && l.Sync() == nil {
						from = l.Durable()
						is(t, "truncate", l.Truncate(from), nil)
					}
				}
			}
			durable := l.Durable()
			at, err := l.Heads(from)
			is(t, "heads", err, nil)
			var keep []dev.Keep
			for d := range s.Many() {
				for n := range s.Waiting(d) {
					if r.Intn(3) > 0 {
						keep = append(keep, dev.Keep{Dev: d, N: n, Tear: r.Intn(2) * r.Intn(90)})
					}
				}
			}
			s.Crash(keep...)
			list, err := multi.Gather(s, epoch, at, from)
			if err != nil || from+len(list) < durable || from+len(list) > next {
				t.Fatal(seed, from, len(list), durable, next, err)
			}
			for i, x := range list {
				if x.Seq != from+1+i {
					t.Fatal("gap")
				}
			}
			base = from + len(list)
		}
	}
}

// P17.3
func TestNothingKept(t *testing.T) {
	s := set(t, 1, 20, 20)
	heads := []int{0, 4}
	l := made(t, s, 1, heads, 0)
	heads[0] = 9
	x := value(1, 5, 6)
	l.Append(x, 0)
	x.Writes[0].V = 77
	l.Sync()
	h, _ := l.Heads(0)
	if !slices.Equal(h, []int{0, 4}) {
		t.Error("heads", h)
	}
	h[0] = 50
	room := l.Room()
	room[1] = 99
	a, _ := multi.Gather(s, 1, []int{0, 4}, 0)
	a[0].Writes[0].V = 78
	b, _ := multi.Gather(s, 1, []int{0, 4}, 0)
	if b[0].Writes[0].V != 5 || !slices.Equal(l.Room(), []int{19, 20}) {
		t.Error("kept")
	}
	if h, _ := l.Heads(0); h[0] != 0 {
		t.Error("shared")
	}
}
