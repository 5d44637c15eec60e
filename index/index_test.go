package index_test

import (
	"errors"
	"math"
	"math/rand"
	"slices"
	"sort"
	"testing"

	"sluiceway/api"
	"sluiceway/index"
	"sluiceway/store"
)

func put(t, k, v int) api.Write { return api.Write{Key: api.Key{Table: t, K: k}, V: v} }
func del(t, k int) api.Write {
	return api.Write{Key: api.Key{Table: t, K: k}, V: 9, Dead: true}
}

func between(x *index.Index, table, lo, hi int) []index.Entry {
	var list []index.Entry
	for e := range x.Between(table, lo, hi) {
		list = append(list, e)
	}
	return list
}

func is(t *testing.T, what string, got, want error) {
	t.Helper()
	if !errors.Is(got, want) || (got == nil) != (want == nil) {
		t.Errorf("%s: %v, not %v", what, got, want)
	}
}

func empty(t *testing.T, x *index.Index, table int) {
	t.Helper()
	if len(x.Keys(table, 0)) != 0 || len(between(x, table, math.MinInt, math.MaxInt)) != 0 || len(x.Top(table, 9)) != 0 || x.Rank(table, math.MaxInt) != 0 || x.Len(table) != 0 {
		t.Error("not empty", table)
	}
}

// P29.1
func TestNil(t *testing.T) {
	var x *index.Index
	is(t, "tell", x.Tell(), api.ErrRange)
	is(t, "tell", x.Tell(put(0, 1, 1)), api.ErrRange)
	for table := -1; table < 5; table++ {
		empty(t, x, table)
		empty(t, index.New(), table)
		empty(t, index.Of(nil), table)
	}
}

// P29.1
func TestTell(t *testing.T) {
	x := index.New()
	is(t, "table", x.Tell(put(0, 1, 1), put(4, 1, 1)), api.ErrRange)
	is(t, "table", x.Tell(put(0, 1, 1), put(-1, 1, 1)), api.ErrRange)
	empty(t, x, 0)
	is(t, "nothing", x.Tell(), nil)
	is(t, "tell", x.Tell(put(0, 1, 5), put(0, 2, 3), put(0, 3, 5), put(1, 1, 7), put(0, 4, 4), del(0, 4), del(0, 9), put(0, 2, 8), put(0, 2, 3)), nil)
	if !slices.Equal(x.Top(0, 2), []index.Entry{{V: 5, K: 1}, {V: 5, K: 3}}) || !slices.Equal(x.Keys(0, 5), []int{1, 3}) || x.Len(0) != 3 || x.Len(1) != 1 || x.Len(2) != 0 || x.Len(4) != 0 || x.Len(-1) != 0 {
		t.Error(x.Top(0, 2), x.Keys(0, 5))
	}
	if !slices.Equal(between(x, 0, 3, 5), []index.Entry{{V: 3, K: 2}, {V: 5, K: 1}, {V: 5, K: 3}}) || len(between(x, 0, 5, 3)) != 0 || len(between(x, 0, 4, 4)) != 0 || len(between(x, 7, 0, 9)) != 0 {
		t.Error("between")
	}
	for v, w := range map[int]int{math.MinInt: 0, 3: 0, 4: 1, 5: 1, 6: 3, math.MaxInt: 3} {
		if x.Rank(0, v) != w {
			t.Error("rank", v)
		}
	}
	for n := -2; n < 6; n++ {
		if got := x.Top(0, n); len(got) != max(0, min(n, 3)) {
			t.Error("top", n, got)
		}
	}
	if len(x.Top(0, math.MaxInt)) != 3 || x.Top(0, math.MinInt) != nil {
		t.Error("top")
	}
}

// P29.1, P29.2
func TestLikeAMap(t *testing.T) {
	for seed := range int64(100) {
		r := rand.New(rand.NewSource(seed))
		x, s := index.New(), store.New()
		model := [4]map[int]int{{}, {}, {}, {}}
		for seq := 1; seq < 60; seq++ {
			var list []api.Write
			for range r.Intn(4) {
				w := put(r.Intn(4), r.Intn(12)-6, r.Intn(8)-4)
				switch r.Intn(8) {
				case 0, 1:
					w = del(w.Table, w.K)
				case 2:
					w.V = []int{math.MaxInt, math.MinInt}[r.Intn(2)]
				}
				list = append(list, w)
			}
			kept := slices.Clone(list)
			is(t, "tell", x.Tell(list...), nil)
			if !slices.Equal(kept, list) {
				t.Fatal("changed")
			}
			for i, w := range list {
				s.Apply(seq*10+i, w)
				if delete(model[w.Table], w.K); !w.Dead {
					model[w.Table][w.K] = w.V
				}
			}
		}
		of := index.Of(s)
		for table := range 4 {
			var all []index.Entry
			for k, v := range model[table] {
				all = append(all, index.Entry{V: v, K: k})
			}
			sort.Slice(all, func(i, j int) bool {
				return all[i].V < all[j].V || all[i].V == all[j].V && all[i].K < all[j].K
			})
			top := slices.Clone(all)
			sort.SliceStable(top, func(i, j int) bool { return top[i].V > top[j].V })
			for _, y := range []*index.Index{x, of} {
				if y.Len(table) != len(all) || !slices.Equal(between(y, table, math.MinInt, math.MaxInt), all) {
					t.Fatal(seed, "all")
				}
				for n := range len(all) + 2 {
					if !slices.Equal(y.Top(table, n), top[:min(n, len(top))]) {
						t.Fatal(seed, "top", n)
					}
				}
				for v := -5; v < 6; v++ {
					var keys []int
					var some []index.Entry
					rank := 0
					for _, e := range all {
						if e.V == v {
							keys = append(keys, e.K)
						}
						if e.V < v {
							rank++
						}
						if -2 <= e.V && e.V <= v {
							some = append(some, e)
						}
					}
					if !slices.Equal(y.Keys(table, v), keys) || y.Rank(table, v) != rank || !slices.Equal(between(y, table, -2, v), some) {
						t.Fatal(seed, "value", v)
					}
				}
			}
		}
	}
}

// P29.1: an iterator tells what there was at its call, and ends when it is left.
func TestBetweenIsOfItsCall(t *testing.T) {
	x := index.New()
	x.Tell(put(0, 1, 5), put(0, 2, 3), put(0, 3, 5))
	seq := x.Between(0, 0, 9)
	want := []index.Entry{{V: 3, K: 2}, {V: 5, K: 1}, {V: 5, K: 3}}
	for range 2 {
		var got []index.Entry
		for e := range seq {
			got = append(got, e)
			x.Tell(del(0, 3), put(0, 9, 9))
		}
		if !slices.Equal(got, want) {
			t.Error(got)
		}
	}
	n := 0
	for range seq {
		if n++; n == 2 {
			break
		}
	}
	if n != 2 {
		t.Error("left", n)
	}
}

// P29.3
func TestNothingKept(t *testing.T) {
	s := store.New()
	s.Apply(1, put(0, 1, 5))
	x := index.Of(s)
	s.Apply(2, put(0, 1, 6), put(0, 2, 7))
	list := []api.Write{put(0, 5, 5)}
	x.Tell(list...)
	list[0] = put(0, 6, 6)
	k, top := x.Keys(0, 5), x.Top(0, 9)
	k[0], top[0] = 99, index.Entry{}
	if !slices.Equal(x.Keys(0, 5), []int{1, 5}) || !slices.Equal(x.Top(0, 9), []index.Entry{{V: 5, K: 1}, {V: 5, K: 5}}) {
		t.Error("kept", x.Keys(0, 5), x.Top(0, 9))
	}
}
