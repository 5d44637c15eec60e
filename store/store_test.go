package store_test

import (
	"bytes"
	"errors"
	"math"
	"math/rand"
	"slices"
	"testing"

	"sluiceway/api"
	"sluiceway/store"
	"sluiceway/wire"
)

func put(table, k, v int) api.Write { return api.Write{Key: api.Key{Table: table, K: k}, V: v} }
func del(table, k int) api.Write {
	return api.Write{Key: api.Key{Table: table, K: k}, V: 0, Dead: true}
}
func at(table, k int) api.Key { return api.Key{Table: table, K: k} }

func is(t *testing.T, what string, got, want error) {
	t.Helper()
	if !errors.Is(got, want) || (got == nil) != (want == nil) {
		t.Errorf("%s: %v, not %v", what, got, want)
	}
}

// P9.1
func TestNil(t *testing.T) {
	var s *store.Store
	is(t, "apply", s.Apply(1), api.ErrRange)
	is(t, "force", s.Force(1, put(0, 1, 1)), api.ErrRange)
	s.Purge()
	if s.Fits(1) || s.Put() != nil || s.Copy() != nil || s.Live() != 0 || s.Last() != 0 || s.From(at(0, 0), 5) != nil {
		t.Error("nil")
	}
	if _, ok := s.Get(at(0, 0)); ok {
		t.Error("get")
	}
	if _, ok := s.Cell(at(0, 0)); ok {
		t.Error("cell")
	}
	for range s.Range(api.Span{Lo: math.MinInt, Hi: math.MaxInt}) {
		t.Error("range")
	}
}

// P9.1
func TestRefused(t *testing.T) {
	s := store.New()
	for _, f := range []func(int, ...api.Write) error{s.Apply, s.Force} {
		is(t, "seq", f(0, put(0, 1, 1)), api.ErrRange)
		is(t, "seq", f(math.MinInt), api.ErrRange)
		is(t, "table", f(1, put(0, 1, 1), put(4, 1, 1)), api.ErrRange)
		is(t, "table", f(1, put(-1, 1, 1)), api.ErrRange)
	}
	if s.Fits(0) || s.Fits(1, put(4, 0, 0)) || s.Fits(1, put(-1, 0, 0)) || !s.Fits(1) || !s.Fits(1, put(3, 0, 0)) {
		t.Error("fits")
	}
	if s.Last() != 0 || s.Live() != 0 || !bytes.Equal(s.Put(), []byte{0, 83}) {
		t.Error("changed")
	}
	if _, ok := s.Get(at(-1, 0)); ok {
		t.Error("no table")
	}
	if _, ok := s.Cell(at(4, 0)); ok {
		t.Error("no table")
	}
	for range s.Range(api.Span{Table: 9, Lo: math.MinInt, Hi: math.MaxInt}) {
		t.Error("no table")
	}
}

// P9.1, P9.2
func TestWhoWroteLast(t *testing.T) {
	s := store.New()
	is(t, "2", s.Apply(2, put(0, 1, 5)), nil)
	is(t, "1", s.Apply(1, put(0, 1, 7), put(0, 2, 8)), nil)
	is(t, "2 again", s.Apply(2, put(0, 1, 9), del(0, 1)), nil)
	if v, ok := s.Get(at(0, 1)); v != 5 || !ok {
		t.Error(v)
	}
	if c, ok := s.Cell(at(0, 2)); !ok || c != (api.Cell{V: 8, Seq: 1}) || s.Last() != 2 || s.Live() != 2 {
		t.Error(c)
	}
	is(t, "twice", s.Apply(3, put(0, 3, 1), put(0, 3, 2), del(0, 3)), nil)
	if v, _ := s.Get(at(0, 3)); v != 1 {
		t.Error("the first write of a transaction stays", v)
	}
	is(t, "dead", s.Apply(4, api.Write{Key: at(0, 1), V: 77, Dead: true}), nil)
	if c, ok := s.Cell(at(0, 1)); !ok || c != (api.Cell{Seq: 4, Dead: true}) {
		t.Error("dead", c)
	}
	if v, ok := s.Get(at(0, 1)); ok || v != 0 || s.Live() != 2 {
		t.Error("dead")
	}
	is(t, "behind", s.Apply(3, put(0, 1, 1)), nil)
	if _, ok := s.Get(at(0, 1)); ok {
		t.Error("a dead cell holds off an earlier write")
	}
	is(t, "nothing", s.Apply(9), nil)
	is(t, "nothing", s.Force(8), nil)
	if s.Last() != 9 {
		t.Error("last", s.Last())
	}
	s.Purge()
	if _, ok := s.Cell(at(0, 1)); ok || s.Live() != 2 || s.Last() != 9 {
		t.Error("purge")
	}
	is(t, "force", s.Force(11, put(1, 1, 1)), nil)
	if s.Last() != 11 {
		t.Error("last of force")
	}
}

// P9.1
func TestFull(t *testing.T) {
	s := store.New()
	for k := range 4096 {
		is(t, "apply", s.Apply(k+1, put(k%4, k, k)), nil)
	}
	is(t, "full", s.Apply(5000, put(0, -1, 1)), api.ErrFull)
	is(t, "full", s.Apply(5000, put(0, 0, 1), put(0, -1, 1)), api.ErrFull)
	if s.Last() != 4096 || s.Live() != 4096 || s.Fits(5000, put(0, -1, 1)) || !s.Fits(5000, put(0, 0, 1)) {
		t.Error("refused")
	}
	is(t, "range first", s.Apply(5000, put(0, -1, 1), put(7, 1, 1)), api.ErrRange)
	is(t, "over", s.Apply(5000, put(0, 0, 5)), nil)
	is(t, "one goes behind", s.Apply(5001, put(0, -1, 1), del(1, 1)), nil)
	is(t, "a dead one more", s.Apply(5002, del(0, -77)), nil)
	is(t, "what doesn't count", s.Apply(5003, put(0, -1, 1), del(0, -5), put(0, -5, 1)), nil)
	is(t, "stays", s.Apply(1, put(0, -77, 1)), nil)
	if s.Live() != 4096 {
		t.Error("live", s.Live())
	}
	if got, err := store.Take(s.Put()); err != nil || got.Live() != 4096 {
		t.Error("text of 4096", err)
	}
	is(t, "force", s.Force(6000, put(0, -2, 1)), nil)
	if s.Live() != 4097 || s.Fits(6001) {
		t.Error("forced")
	}
	is(t, "too many already", s.Apply(6001), api.ErrFull)
	is(t, "one less", s.Apply(6001, del(0, -2)), nil)
	s.Force(6002, put(0, -2, 1))
	if _, err := store.Take(s.Put()); !errors.Is(err, api.ErrForm) {
		t.Error("text of 4097", err)
	}
}

// P9.1
func TestRangeAndFrom(t *testing.T) {
	s := store.New()
	s.Apply(1, put(1, 5, 50), put(1, -3, 30), put(1, math.MaxInt, 1), put(1, math.MinInt, 2), put(2, 0, 20), put(0, 9, 90), del(1, 6), put(3, 1, 7))
	var got []int
	for k, v := range s.Range(api.Span{Table: 1, Lo: math.MinInt, Hi: math.MaxInt}) {
		got = append(got, k, v)
		s.Apply(2, put(1, 7, 7), del(1, 5))
	}
	if !slices.Equal(got, []int{math.MinInt, 2, -3, 30, 5, 50, math.MaxInt, 1}) {
		t.Error(got)
	}
	got = nil
	for k := range s.Range(api.Span{Table: 1, Lo: -3, Hi: 7}) {
		got = append(got, k)
	}
	if !slices.Equal(got, []int{-3, 7}) {
		t.Error(got)
	}
	for range s.Range(api.Span{Table: 1, Lo: 3, Hi: 2}) {
		t.Error("empty")
	}
	for range s.Range(api.Span{Table: 1, Lo: math.MinInt, Hi: math.MaxInt}) {
		break
	}
	want := []store.Entry{{Key: at(0, 9), Cell: api.Cell{V: 90, Seq: 1}}, {Key: at(1, math.MinInt), Cell: api.Cell{V: 2, Seq: 1}}, {Key: at(1, -3), Cell: api.Cell{V: 30, Seq: 1}}, {Key: at(1, 7), Cell: api.Cell{V: 7, Seq: 2}}, {Key: at(1, math.MaxInt), Cell: api.Cell{V: 1, Seq: 1}}, {Key: at(2, 0), Cell: api.Cell{V: 20, Seq: 1}}, {Key: at(3, 1), Cell: api.Cell{V: 7, Seq: 1}}}
	for n := -1; n < 10; n++ {
		w := want[:max(0, min(n, len(want)))]
		if got := s.From(at(-5, 100), n); !slices.Equal(got, w) {
			t.Error(n, got)
		}
	}
	for from, i := range map[api.Key]int{at(0, 9): 0, at(0, 10): 1, at(1, -3): 2, at(1, 6): 3, at(1, 8): 4, at(1, math.MaxInt): 4, at(2, -1): 5, at(2, 1): 6, at(3, 2): 7, at(4, math.MinInt): 7, at(math.MaxInt, 0): 7, at(math.MinInt, 0): 0} {
		if got := s.From(from, math.MaxInt); !slices.Equal(got, want[i:]) {
			t.Error(from, got)
		}
	}
	if s.From(at(0, 0), math.MinInt) != nil {
		t.Error("below 1")
	}
}

// P9.1, P9.2
func TestText(t *testing.T) {
	s := store.New()
	s.Apply(300, put(2, -1, 3), put(0, 5, -2), del(1, 1))
	s.Apply(2, put(0, 1, 0))
	want := []byte{3, 0, 2, 0, 2, 0, 10, 3, 0xac, 2, 2, 1, 6, 0xac, 2, 83}
	if !bytes.Equal(s.Put(), want) {
		t.Fatal(s.Put())
	}
	x, err := store.Take(want)
	if err != nil || x.Live() != 3 || x.Last() != 300 || !bytes.Equal(x.Put(), want) {
		t.Error("take", err)
	}
	if _, ok := x.Cell(at(1, 1)); ok {
		t.Error("a dead one came along")
	}
	if x, err := store.Take([]byte{0, 83}); err != nil || x.Last() != 0 || x.Live() != 0 {
		t.Error("empty", err)
	}
	row := func(list ...[4]int) []byte {
		var w wire.Writer
		w.Count(uint64(len(list)))
		for _, x := range list {
			w.Count(uint64(x[0]))
			w.Num(x[1])
			w.Num(x[2])
			w.Count(uint64(x[3]))
		}
		w.Byte(83)
		return w.Out()
	}
	for i, b := range [][]byte{row([4]int{0, 1, 1, 1}), row([4]int{3, math.MinInt, 1, 1<<62 - 1}, [4]int{3, math.MaxInt, 1, 1}), row([4]int{0, 5, 1, 1}, [4]int{1, -5, 1, 1})} {
		if x, err := store.Take(b); err != nil || !bytes.Equal(x.Put(), b) {
			t.Error("good", i, err)
		}
	}
	for i, b := range [][]byte{nil, {0}, {83}, {0, 82}, {0, 83, 0}, {0x80, 0, 83}, want[:len(want)-1], append(bytes.Clone(want), 83),
		row([4]int{4, 1, 1, 1}), row([4]int{0, 1, 1, 0}), row([4]int{0, 1, 1, 1 << 62}), row([4]int{0, 1, 1, -1}), row([4]int{-1, 1, 1, 1}),
		row([4]int{0, 2, 1, 1}, [4]int{0, 1, 1, 1}), row([4]int{0, 2, 1, 1}, [4]int{0, 2, 1, 1}), row([4]int{1, 2, 1, 1}, [4]int{0, 3, 1, 1}),
		{0xff, 0xff, 0xff, 0xff, 0xff, 0xff, 0xff, 0xff, 0xff, 1, 83}, {1, 83}, {2, 0, 2, 2, 1, 83}} {
		if x, err := store.Take(b); x != nil || !errors.Is(err, api.ErrForm) {
			t.Error("bad", i, err)
		}
	}
}

// P9.1, P9.2, P9.3
func TestLikeAMap(t *testing.T) {
	for seed := range int64(40) {
		r := rand.New(rand.NewSource(seed))
		s, want, last := store.New(), map[api.Key]api.Cell{}, 0
		for range 300 {
			seq := 1 + r.Intn(400)
			var list []api.Write
			for range r.Intn(5) {
				list = append(list, api.Write{Key: at(r.Intn(4), r.Intn(12)-6), V: r.Intn(100), Dead: r.Intn(3) == 0})
			}
			kept := slices.Clone(list)
			is(t, "apply", s.Apply(seq, list...), nil)
			if !slices.Equal(kept, list) {
				t.Fatal("changed")
			}
			last = max(last, seq)
			for _, w := range list {
				if c, ok := want[w.Key]; ok && c.Seq >= seq {
					continue
				}
				if w.Dead {
					w.V = 0
				}
				want[w.Key] = api.Cell{V: w.V, Seq: seq, Dead: w.Dead}
			}
			before := s.Put()
			s.Apply(seq, list...)
			if !bytes.Equal(before, s.Put()) {
				t.Fatal("put twice")
			}
			if r.Intn(20) == 0 {
				old := s
				s = s.Copy()
				old.Apply(1000, put(0, 0, 1), del(1, 1))
				old.Purge()
			}
			if r.Intn(50) == 0 {
				s.Purge()
				for k, c := range want {
					if c.Dead {
						delete(want, k)
					}
				}
			}
		}
		live := 0
		for table := range 4 {
			for k := -6; k < 6; k++ {
				c, ok := s.Cell(at(table, k))
				w, has := want[at(table, k)]
				if c != w || ok != has {
					t.Fatal(table, k, c, w)
				}
				if v, ok := s.Get(at(table, k)); ok != (has && !w.Dead) || ok && v != w.V || !ok && v != 0 {
					t.Fatal("get")
				}
				if has && !w.Dead {
					live++
				}
			}
		}
		x, err := store.Take(s.Put())
		if s.Live() != live || s.Last() != last || err != nil || !bytes.Equal(x.Put(), s.Put()) || x.Live() != live {
			t.Fatal("numbers", s.Live(), live, s.Last(), last, err)
		}
	}
}

// P9.3
func TestNothingKept(t *testing.T) {
	s := store.New()
	s.Apply(1, put(0, 1, 1))
	b := s.Put()
	clear(b)
	e := s.From(at(0, 0), 1)
	e[0] = store.Entry{}
	b = s.Put()
	x, _ := store.Take(b)
	clear(b)
	if !bytes.Equal(s.Put(), []byte{1, 0, 2, 2, 1, 83}) || !bytes.Equal(x.Put(), s.Put()) || s.From(at(0, 0), 1)[0].V != 1 {
		t.Error("shared")
	}
}
