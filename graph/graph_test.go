package graph_test

import (
	"errors"
	"math"
	"math/rand"
	"slices"
	"testing"

	"sluiceway/api"
	"sluiceway/foot"
	"sluiceway/graph"
)

func same(a, b [][]int) bool { return slices.EqualFunc(a, b, slices.Equal) }

func writes(keys ...int) api.Foot {
	f := api.Foot{}
	for _, k := range keys {
		f.Writes = append(f.Writes, api.Key{K: k})
	}
	return f
}

// P19.1
func TestLeans(t *testing.T) {
	if len(graph.Leans(nil)) != 0 {
		t.Error("nothing")
	}
	three := []api.Foot{writes(1), writes(1), writes(1)}
	if got := graph.Leans(three); !same(got, [][]int{nil, {0}, {0, 1}}) {
		t.Error(got)
	}
	mixed := []api.Foot{writes(5), {Reads: []api.Key{{K: 1}}}, {Reads: []api.Key{{K: 1}, {K: 5}}}, {}, {Spans: []api.Span{{Lo: 4, Hi: 6}}}, writes(1), writes(9, 6)}
	if got := graph.Leans(mixed); !same(got, [][]int{nil, nil, {0}, nil, {0}, {1, 2}, {4}}) {
		t.Error(got)
	}
	r := rand.New(rand.NewSource(19))
	for range 200 {
		feet := make([]api.Foot, r.Intn(12))
		for i := range feet {
			for range r.Intn(3) {
				feet[i].Reads = append(feet[i].Reads, api.Key{K: r.Intn(8)})
				feet[i].Writes = append(feet[i].Writes, api.Key{K: r.Intn(8)})
			}
		}
		got := graph.Leans(feet)
		if len(got) != len(feet) || !graph.Good(got) {
			t.Fatal(got)
		}
		for i := range feet {
			for j := range i {
				if slices.Contains(got[i], j) != foot.Meet(feet[i], feet[j]) {
					t.Fatal(i, j)
				}
			}
		}
	}
}

// P19.1
func TestGood(t *testing.T) {
	for _, g := range [][][]int{nil, {}, {nil}, {{}, {0}}, {nil, nil, {0, 1}, {1}, {0, 3}}} {
		if !graph.Good(g) {
			t.Error("good", g)
		}
		if l, err := graph.Levels(g); err != nil || len(l) != len(g) {
			t.Error("levels", g, err)
		}
	}
	for _, g := range [][][]int{{{0}}, {{1}, nil}, {nil, {-1}}, {nil, {1}}, {nil, {2}}, {nil, nil, {1, 0}}, {nil, {0, 0}}, {nil, {math.MinInt}}, {nil, {math.MaxInt}}, {nil, nil, {0, 5}}} {
		if graph.Good(g) {
			t.Error("not good", g)
		}
		if l, err := graph.Levels(g); l != nil || !errors.Is(err, api.ErrForm) {
			t.Error("levels", g, err)
		}
		order := make([]int, len(g))
		for i := range order {
			order[i] = i
		}
		if graph.Keeps(g, order) || graph.Least(g) != nil {
			t.Error("keeps", g)
		}
	}
}

// P19.1
func TestLevels(t *testing.T) {
	l, err := graph.Levels([][]int{nil, nil, {0}, {0, 2}, {1}, {1, 3}, nil})
	if err != nil || !slices.Equal(l, []int{0, 0, 1, 2, 1, 3, 0}) {
		t.Error(l, err)
	}
}

// P19.1
func TestKeeps(t *testing.T) {
	g := [][]int{nil, nil, {0}, {0, 2}}
	for _, o := range [][]int{{0, 1, 2, 3}, {1, 0, 2, 3}, {0, 2, 3, 1}, {0, 2, 1, 3}} {
		if !graph.Keeps(g, o) {
			t.Error("keeps", o)
		}
	}
	for _, o := range [][]int{nil, {0, 1, 2}, {0, 1, 2, 3, 3}, {0, 1, 2, 2}, {2, 0, 1, 3}, {0, 1, 3, 2}, {0, 1, 2, 4}, {0, 1, 2, -1}, {0, 0, 2, 3}, {0, 1, 2, math.MaxInt}, {0, 1, 2, 3, 0}} {
		if graph.Keeps(g, o) {
			t.Error("doesn't keep", o)
		}
	}
	if !graph.Keeps(nil, nil) || !graph.Keeps([][]int{}, nil) || graph.Keeps(nil, []int{0}) {
		t.Error("nothing")
	}
}

// through is all on which each one leans, also through others.
func through(g [][]int) []map[int]int {
	out := make([]map[int]int, len(g))
	for i, on := range g {
		out[i] = map[int]int{}
		for _, j := range on {
			out[i][j] = 1
			for k := range out[j] {
				out[i][k] = 1
			}
		}
	}
	return out
}

// P19.1, P19.2
func TestLeast(t *testing.T) {
	if got := graph.Least([][]int{nil, {0}, {0, 1}}); !same(got, [][]int{nil, {0}, {1}}) {
		t.Error(got)
	}
	r := rand.New(rand.NewSource(20))
	for range 400 {
		g := make([][]int, r.Intn(14))
		dense := 1 + r.Intn(5)
		for i := range g {
			for j := range i {
				if r.Intn(6) < dense {
					g[i] = append(g[i], j)
				}
			}
		}
		before := make([][]int, len(g))
		for i := range g {
			before[i] = slices.Clone(g[i])
		}
		least := graph.Least(g)
		if !same(g, before) || len(least) != len(g) || !graph.Good(least) {
			t.Fatal("changed, or not good", g, least)
		}
		all := through(g)
		for i, on := range g {
			for _, j := range on {
				others := false
				for _, k := range on {
					_, ok := all[k][j]
					others = others || ok
				}
				if slices.Contains(least[i], j) == others {
					t.Fatal(g, least)
				}
			}
			for _, j := range least[i] {
				if !slices.Contains(on, j) {
					t.Fatal("not leant on")
				}
			}
		}
		for range 20 {
			order := r.Perm(len(g))
			if r.Intn(2) == 0 {
				slices.Sort(order)
				if len(order) > 1 {
					i := r.Intn(len(order) - 1)
					order[i], order[i+1] = order[i+1], order[i]
				}
			}
			if graph.Keeps(g, order) != graph.Keeps(least, order) {
				t.Fatal("orders", g, least, order)
			}
		}
	}
}

// P19.1: long lists come to an end.
func TestLong(t *testing.T) {
	n := 20000
	g := make([][]int, n)
	for i := 1; i < n; i++ {
		g[i] = []int{i - 1}
		if i > 1 {
			g[i] = []int{0, i - 1}
		}
	}
	least := graph.Least(g[:2000])
	for i := 2; i < 2000; i++ {
		if !slices.Equal(least[i], []int{i - 1}) {
			t.Fatal(i)
		}
	}
	l, err := graph.Levels(g)
	if err != nil || l[n-1] != n-1 {
		t.Error(err)
	}
}

// P19.3
func TestAnswersAreNew(t *testing.T) {
	g := [][]int{nil, {0}, {0}, {1, 2}}
	least := graph.Least(g)
	for _, on := range least {
		for i := range on {
			on[i] = 99
		}
		_ = append(on, 98)
	}
	if !same(g, [][]int{nil, {0}, {0}, {1, 2}}) || !same(graph.Least(g), g) {
		t.Error("shared")
	}
	again := graph.Least(g)
	_ = append(again[1], 77)
	_ = append(again[2], 78)
	if !same(again, g) {
		t.Error("lists of one answer share")
	}
	l := graph.Leans([]api.Foot{writes(1), writes(1), writes(1)})
	l[1][0] = 55
	if l[2][0] != 0 {
		t.Error("lists of one answer share")
	}
}
