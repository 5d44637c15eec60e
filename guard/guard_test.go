package guard_test

import (
	"bytes"
	"errors"
	"math"
	"math/big"
	"math/rand"
	"slices"
	"testing"

	"sluiceway/api"
	"sluiceway/guard"
	"sluiceway/store"
)

func put(t, k, v int) api.Write { return api.Write{Key: api.Key{Table: t, K: k}, V: v} }
func del(t, k int) api.Write    { return api.Write{Key: api.Key{Table: t, K: k}, Dead: true} }

func of(list ...api.Write) *store.Store {
	s := store.New()
	s.Apply(1, list...)
	return s
}

func fault(t *testing.T, what string, err error, at int, is error) {
	t.Helper()
	var f *api.Fault
	if !errors.As(err, &f) || f.At != at || !errors.Is(err, is) {
		t.Error(what, err, at)
	}
}

// P30.1
func TestGood(t *testing.T) {
	for kind := -1; kind < 8; kind++ {
		for table := -1; table < 6; table++ {
			r := guard.Rule{Kind: kind, Table: table, Lo: 9, Hi: 3, N: -4}
			if guard.Good(r) != (kind >= 1 && kind <= 5 && table >= 0 && table <= 3) {
				t.Error(r)
			}
			if !guard.Good(r) && (guard.Holds(r, store.New()) || guard.Holds(r, nil)) {
				t.Error("holds", r)
			}
		}
	}
	if guard.Values != 1 || guard.Keys != 2 || guard.Many != 3 || guard.Sum != 4 || guard.Has != 5 {
		t.Error("kinds")
	}
}

// P30.1
func TestHolds(t *testing.T) {
	s := of(put(1, 0, 4), put(1, 3, 6), put(1, 9, -5), put(2, 50, 500), del(1, 100))
	for i, c := range []struct {
		r    guard.Rule
		want bool
	}{
		{guard.Rule{Kind: guard.Values, Table: 1, Lo: -5, Hi: 6}, true}, {guard.Rule{Kind: guard.Values, Table: 1, Lo: -4, Hi: 6}, false}, {guard.Rule{Kind: guard.Values, Table: 1, Lo: -5, Hi: 5}, false}, {guard.Rule{Kind: guard.Values, Table: 0, Lo: 5, Hi: 1}, true}, {guard.Rule{Kind: guard.Values, Table: 1, Lo: 5, Hi: 1}, false},
		{guard.Rule{Kind: guard.Keys, Table: 1, Lo: 0, Hi: 9}, true}, {guard.Rule{Kind: guard.Keys, Table: 1, Lo: 1, Hi: 9}, false}, {guard.Rule{Kind: guard.Keys, Table: 1, Lo: 0, Hi: 8}, false}, {guard.Rule{Kind: guard.Keys, Table: 3, Lo: 1, Hi: 0}, true},
		{guard.Rule{Kind: guard.Many, Table: 1, Lo: 0, Hi: 9, N: 3}, true}, {guard.Rule{Kind: guard.Many, Table: 1, Lo: 0, Hi: 9, N: 2}, false}, {guard.Rule{Kind: guard.Many, Table: 1, Lo: 1, Hi: 8, N: 1}, true}, {guard.Rule{Kind: guard.Many, Table: 1, Lo: 9, Hi: 0, N: 0}, true}, {guard.Rule{Kind: guard.Many, Table: 1, Lo: 9, Hi: 0, N: -1}, false}, {guard.Rule{Kind: guard.Many, Table: 1, Lo: math.MinInt, Hi: math.MaxInt, N: 3}, true},
		{guard.Rule{Kind: guard.Sum, Table: 1, Lo: 0, Hi: 8, N: 10}, true}, {guard.Rule{Kind: guard.Sum, Table: 1, Lo: 0, Hi: 8, N: 9}, false}, {guard.Rule{Kind: guard.Sum, Table: 1, Lo: 0, Hi: 9, N: 5}, true}, {guard.Rule{Kind: guard.Sum, Table: 0, Lo: 0, Hi: 9, N: 0}, true}, {guard.Rule{Kind: guard.Sum, Table: 0, Lo: 0, Hi: 9, N: -1}, false}, {guard.Rule{Kind: guard.Sum, Table: 1, Lo: 9, Hi: 9, N: -5}, true},
		{guard.Rule{Kind: guard.Has, Table: 1, Lo: 0, Hi: 0}, true}, {guard.Rule{Kind: guard.Has, Table: 1, Lo: 0, Hi: 1}, false}, {guard.Rule{Kind: guard.Has, Table: 1, Lo: 100, Hi: 100}, false}, {guard.Rule{Kind: guard.Has, Table: 1, Lo: 3, Hi: 2}, true}, {guard.Rule{Kind: guard.Has, Table: 1, Lo: math.MaxInt, Hi: math.MinInt}, true}, {guard.Rule{Kind: guard.Has, Table: 1, Lo: math.MinInt, Hi: math.MaxInt}, false},
	} {
		if guard.Holds(c.r, s) != c.want {
			t.Error(i, c.r)
		}
	}
	long := store.New()
	for k := range 80 {
		long.Apply(1, put(0, k, 1))
		long.Apply(1, put(0, math.MaxInt-k, 1), put(0, math.MinInt+k, 1))
	}
	for hi := 60; hi < 70; hi++ {
		for _, lo := range []int{0, math.MinInt, math.MaxInt - 79} {
			if guard.Holds(guard.Rule{Kind: guard.Has, Lo: lo, Hi: lo + hi}, long) != (hi < 64) {
				t.Error("64 of them", lo, hi)
			}
		}
	}
	for _, r := range []guard.Rule{{Kind: guard.Values}, {Kind: guard.Keys}, {Kind: guard.Many}, {Kind: guard.Sum}, {Kind: guard.Has, Lo: 1}} {
		if !guard.Holds(r, nil) {
			t.Error("nil", r)
		}
	}
	if guard.Holds(guard.Rule{Kind: guard.Has}, nil) {
		t.Error("nil has nothing")
	}
}

// P30.1
func TestSumsAreExact(t *testing.T) {
	r := rand.New(rand.NewSource(30))
	for range 3000 {
		s := store.New()
		sum := new(big.Int)
		for k := range r.Intn(9) {
			v := []int{math.MaxInt, math.MinInt, 1, -1, math.MaxInt - 1, 0, 1 << 62, -1 << 62}[r.Intn(8)]
			s.Apply(1, put(3, k, v))
			sum.Add(sum, big.NewInt(int64(v)))
		}
		for _, n := range []int{math.MaxInt, math.MinInt, 0, 1, -1, math.MaxInt - 1, int(new(big.Int).And(sum, new(big.Int).SetUint64(math.MaxUint64)).Uint64())} {
			want := sum.Cmp(big.NewInt(int64(n))) <= 0
			if guard.Holds(guard.Rule{Kind: guard.Sum, Table: 3, Lo: 0, Hi: 9, N: n}, s) != want {
				t.Fatal(sum, n)
			}
		}
	}
}

// P30.1
func TestCheckAndFirst(t *testing.T) {
	s := of(put(1, 0, 4), put(1, 1, 6))
	sum := guard.Rule{Kind: guard.Sum, Table: 1, Lo: 0, Hi: 9, N: 10}
	if err := guard.Check([]guard.Rule{sum}, s, nil); err != nil {
		t.Error(err)
	}
	fault(t, "5 more", guard.Check([]guard.Rule{sum}, s, []api.Write{put(1, 2, 5)}), 0, api.ErrAbort)
	if err := guard.Check(nil, s, []api.Write{put(1, 2, 5)}); err != nil {
		t.Error(err)
	}
	if err := guard.Check([]guard.Rule{sum}, s, []api.Write{put(1, 2, 5), del(1, 0), put(1, 1, 99), put(1, 1, 5), put(7, 3, 99), put(-1, 3, 99)}); err != nil {
		t.Error("each key's last write counts", err)
	}
	fault(t, "last", guard.Check([]guard.Rule{sum}, s, []api.Write{put(1, 2, 1), put(1, 2, 0), put(1, 2, 1)}), 0, api.ErrAbort)
	never := guard.Rule{Kind: guard.Many, N: -1}
	fault(t, "form first", guard.Check([]guard.Rule{never, sum, {Kind: 9}, {}}, s, nil), 2, api.ErrForm)
	fault(t, "the first one", guard.Check([]guard.Rule{sum, never, never}, s, nil), 1, api.ErrAbort)
	fault(t, "nil", guard.Check([]guard.Rule{sum, never}, nil, nil), 1, api.ErrAbort)
	fault(t, "nil", guard.Check([]guard.Rule{sum, {Kind: guard.Many, N: 0}}, nil, []api.Write{put(0, 0, 0)}), 1, api.ErrAbort)
	for want, rules := range map[int][]guard.Rule{-1: {sum, sum}, 0: {never, sum}, 1: {sum, {Kind: 6}}, 2: {sum, sum, never, never}} {
		if got := guard.First(rules, s); got != want {
			t.Error(got, want)
		}
	}
	if guard.First(nil, s) != -1 || guard.First(nil, nil) != -1 {
		t.Error("none")
	}
	s.Apply(1<<40, put(1, 3, 0))
	fault(t, "behind all others", guard.Check([]guard.Rule{sum}, s, []api.Write{put(1, 3, 5)}), 0, api.ErrAbort)
}

// P30.2, P30.3
func TestWhatIsLetThrough(t *testing.T) {
	r := rand.New(rand.NewSource(31))
	through := 0
	for range 4000 {
		s := store.New()
		for k := range r.Intn(6) {
			s.Apply(k+1, put(r.Intn(2), r.Intn(6), r.Intn(9)))
		}
		var rules []guard.Rule
		for range r.Intn(4) {
			rules = append(rules, guard.Rule{Kind: 1 + r.Intn(5), Table: r.Intn(2), Lo: r.Intn(3), Hi: r.Intn(9), N: r.Intn(12)})
		}
		var list []api.Write
		for range r.Intn(4) {
			w := put(r.Intn(2), r.Intn(6), r.Intn(9))
			if r.Intn(4) == 0 {
				w = del(w.Table, w.K)
			}
			list = append(list, w)
		}
		before, kept, were := s.Put(), slices.Clone(list), slices.Clone(rules)
		err := guard.Check(rules, s, list)
		if !bytes.Equal(before, s.Put()) || !slices.Equal(kept, list) || !slices.Equal(were, rules) {
			t.Fatal("changed")
		}
		for i, w := range list {
			s.Apply(100+i, w)
		}
		first := guard.First(rules, s)
		if err == nil {
			through++
			if first != -1 {
				t.Fatal("doesn't hold", rules, first)
			}
		} else {
			fault(t, "check", err, first, api.ErrAbort)
		}
	}
	if through < 100 {
		t.Error("too few", through)
	}
}
