package hist_test

import (
	"errors"
	"math"
	"math/rand"
	"slices"
	"testing"

	"sluiceway/api"
	"sluiceway/hist"
	"sluiceway/store"
)

func key(t, k int) api.Key      { return api.Key{Table: t, K: k} }
func put(t, k, v int) api.Write { return api.Write{Key: key(t, k), V: v} }
func del(t, k int) api.Write    { return api.Write{Key: key(t, k), Dead: true} }

func is(t *testing.T, what string, got, want error) {
	t.Helper()
	if !errors.Is(got, want) || (got == nil) != (want == nil) {
		t.Errorf("%s: %v, not %v", what, got, want)
	}
}

func shows(t *testing.T, h *hist.History, k api.Key, at, want int, live bool) {
	t.Helper()
	if v, ok, err := h.Get(k, at); v != want || ok != live || err != nil {
		t.Errorf("%v at %d: %d %v %v, not %d %v", k, at, v, ok, err, want, live)
	}
}

// P28.1
func TestNil(t *testing.T) {
	var h *hist.History
	is(t, "tell", h.Tell(1), api.ErrRange)
	v, ok, err := h.Get(key(0, 0), 0)
	is(t, "get", err, api.ErrRange)
	x, err := h.Range(api.Span{}, 0)
	is(t, "range", err, api.ErrRange)
	is(t, "thin", h.Thin(0), api.ErrRange)
	if v != 0 || ok || x != nil || h.Last() != 0 || h.Since() != 0 || h.Versions(key(0, 0)) != nil || h.Many() != 0 {
		t.Error("nil")
	}
	h = hist.New()
	if h.Last() != 0 || h.Since() != 0 || h.Many() != 0 || len(h.Versions(key(0, 0))) != 0 {
		t.Error("new")
	}
	shows(t, h, key(0, 0), 0, 0, false)
	is(t, "thin", h.Thin(0), nil)
}

// P28.1
func TestTell(t *testing.T) {
	h := hist.New()
	for _, seq := range []int{0, -1, math.MinInt} {
		is(t, "seq", h.Tell(seq, put(0, 1, 1)), api.ErrRange)
	}
	is(t, "table", h.Tell(1, put(0, 1, 1), put(4, 1, 1)), api.ErrRange)
	is(t, "table", h.Tell(1, put(-1, 1, 1)), api.ErrRange)
	if h.Last() != 0 || h.Many() != 0 {
		t.Error("changed")
	}
	is(t, "1", h.Tell(1, put(0, 1, 5)), nil)
	is(t, "again", h.Tell(1, put(0, 1, 6)), api.ErrRange)
	is(t, "3", h.Tell(3, put(0, 1, 6), put(0, 2, 8), put(0, 1, 7)), nil)
	is(t, "7", h.Tell(7), nil)
	is(t, "9", h.Tell(9, put(0, 1, 1), api.Write{Key: key(0, 1), V: 4, Dead: true}), nil)
	for at, want := range []int{0, 5, 5, 7, 7, 7, 7, 7, 7, 0} {
		shows(t, h, key(0, 1), at, want, want > 0)
	}
	shows(t, h, key(0, 2), 2, 0, false)
	shows(t, h, key(0, 2), 9, 8, true)
	shows(t, h, key(7, 2), 9, 0, false)
	for _, at := range []int{-1, 10, math.MinInt, math.MaxInt} {
		_, _, err := h.Get(key(0, 1), at)
		is(t, "get", err, api.ErrRange)
		x, err := h.Range(api.Span{Hi: 9}, at)
		is(t, "range", err, api.ErrRange)
		is(t, "thin", h.Thin(at), api.ErrRange)
		if x != nil {
			t.Error("range")
		}
	}
	if !slices.Equal(h.Versions(key(0, 1)), []int{1, 3, 9}) || !slices.Equal(h.Versions(key(0, 2)), []int{3}) || h.Many() != 4 || h.Last() != 9 {
		t.Error("versions", h.Versions(key(0, 1)))
	}
	is(t, "last", h.Tell(math.MaxInt, put(3, 0, 1)), nil)
	is(t, "none behind it", h.Tell(math.MaxInt), api.ErrRange)
}

// P28.1, P28.2
func TestThin(t *testing.T) {
	made := func() *hist.History {
		h := hist.New()
		h.Tell(2, put(0, 1, 2), put(0, 2, 2), put(0, 3, 2))
		h.Tell(4, put(0, 1, 4), del(0, 2))
		h.Tell(6, put(0, 1, 6), del(0, 3), put(0, 4, 6))
		return h
	}
	for to, want := range map[int][4][]int{0: {{2, 4, 6}, {2, 4}, {2, 6}, {6}}, 2: {{2, 4, 6}, {2, 4}, {2, 6}, {6}}, 3: {{2, 4, 6}, {2, 4}, {2, 6}, {6}}, 4: {{4, 6}, nil, {2, 6}, {6}}, 5: {{4, 6}, nil, {2, 6}, {6}}, 6: {{6}, nil, nil, {6}}} {
		h := made()
		is(t, "thin", h.Thin(to), nil)
		many := 0
		for i, w := range want {
			many += len(w)
			if got := h.Versions(key(0, i+1)); !slices.Equal(got, w) {
				t.Error(to, i+1, got, w)
			}
		}
		if h.Many() != many || h.Since() != to || h.Last() != 6 {
			t.Error("numbers", to)
		}
		_, _, err := h.Get(key(0, 1), to-1)
		is(t, "before", err, api.ErrRange)
		is(t, "back", h.Thin(to-1), api.ErrRange)
		is(t, "again", h.Thin(to), nil)
		for at := to; at <= 6; at++ {
			for k := range 6 {
				v, ok, _ := made().Get(key(0, k), at)
				shows(t, h, key(0, k), at, v, ok)
			}
		}
	}
}

// P28.1, P28.2
func TestLikeStores(t *testing.T) {
	for seed := range int64(100) {
		r := rand.New(rand.NewSource(seed))
		h, s := hist.New(), store.New()
		stores := map[int]*store.Store{0: s.Copy()}
		last := 0
		for range 40 {
			next := last + 1 + r.Intn(3)
			for at := last + 1; at < next; at++ {
				stores[at] = s.Copy()
			}
			last = next
			var list []api.Write
			seen := map[api.Key]int{}
			for range r.Intn(5) {
				w := put(r.Intn(4), r.Intn(8)-4, r.Intn(100))
				if r.Intn(3) == 0 {
					w = del(w.Table, w.K)
				}
				if _, ok := seen[w.Key]; !ok {
					list = append(list, w)
				}
				seen[w.Key] = 1
			}
			is(t, "tell", h.Tell(last, list...), nil)
			s.Apply(last, list...)
			stores[last] = s.Copy()
			if r.Intn(6) == 0 {
				is(t, "thin", h.Thin(h.Since()+r.Intn(last-h.Since()+1)), nil)
			}
		}
		for at := h.Since(); at <= last; at++ {
			for table := -1; table < 5; table++ {
				for k := -5; k < 5; k++ {
					v, ok := stores[at].Get(key(table, k))
					shows(t, h, key(table, k), at, v, ok)
				}
				x := api.Span{Table: table, Lo: r.Intn(8) - 5, Hi: r.Intn(8) - 3}
				got, err := h.Range(x, at)
				if err != nil {
					t.Fatal(err)
				}
				var a, b []int
				for k, v := range got {
					a = append(a, k, v)
				}
				for k, v := range stores[at].Range(x) {
					b = append(b, k, v)
				}
				if !slices.Equal(a, b) {
					t.Fatal(seed, at, x, a, b)
				}
			}
		}
		many := 0
		for table := range 4 {
			for k := -4; k < 4; k++ {
				v := h.Versions(key(table, k))
				many += len(v)
				if !slices.IsSorted(v) {
					t.Fatal("rising", v)
				}
			}
		}
		if h.Many() != many {
			t.Fatal("many")
		}
	}
}

// P28.1: a range tells what was there at its call, and ends when it is left.
func TestRangeIsOfItsCall(t *testing.T) {
	h := hist.New()
	h.Tell(1, put(1, math.MinInt, 1), put(1, 5, 2), put(1, math.MaxInt, 3), put(2, 5, 4))
	x, err := h.Range(api.Span{Table: 1, Lo: math.MinInt, Hi: math.MaxInt}, 1)
	if err != nil {
		t.Fatal(err)
	}
	h.Tell(2, put(1, 6, 6), del(1, 5))
	h.Thin(2)
	for range 2 {
		var got []int
		for k, v := range x {
			got = append(got, k, v)
		}
		if !slices.Equal(got, []int{math.MinInt, 1, 5, 2, math.MaxInt, 3}) {
			t.Error(got)
		}
	}
	n := 0
	for range x {
		n++
		break
	}
	if y, _ := h.Range(api.Span{Table: 1, Lo: 5, Hi: 4}, 2); n != 1 {
		for range y {
			t.Error("empty")
		}
	}
}

// P28.3
func TestNothingKept(t *testing.T) {
	h := hist.New()
	list := []api.Write{put(0, 1, 1), put(0, 2, 2), put(0, 3, 3)}
	h.Tell(1, list[:2]...)
	clear(list)
	v := h.Versions(key(0, 1))
	v[0] = 9
	_ = append(v, 8)
	h.Tell(2, put(0, 1, 7))
	if !slices.Equal(h.Versions(key(0, 1)), []int{1, 2}) || h.Many() != 3 {
		t.Error("shared")
	}
	shows(t, h, key(0, 1), 1, 1, true)
}
