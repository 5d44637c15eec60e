package tree_test

import (
	"math"
	"math/rand"
	"slices"
	"testing"

	"sluiceway/api"
	"sluiceway/tree"
)

func cell(n int) api.Cell { return api.Cell{V: n, Seq: n * 3, Dead: n%5 == 0} }

// sound holds a tree against a plain map, and its levels against the promise.
func sound(t *testing.T, x *tree.Tree, want map[int]api.Cell) {
	t.Helper()
	if !x.Sound() || x.Len() != len(want) {
		t.Fatal("sound", x.Sound(), x.Len(), len(want))
	}
	if (x.Deep() == 0) != (len(want) == 0) {
		t.Fatal("deep of none")
	}
	if d := x.Deep(); d >= 2 {
		least := 2
		for range d - 1 {
			least *= 3
		}
		if least-1 > len(want) {
			t.Fatal("too deep", d, len(want))
		}
	}
	most := 5
	for d := 1; d < x.Deep(); d++ {
		most = most*6 + 5
	}
	if len(want) > most {
		t.Fatal("too flat", x.Deep(), len(want))
	}
	keys := []int{}
	for k, c := range want {
		keys = append(keys, k)
		if got, ok := x.Get(k); !ok || got != c {
			t.Fatal("get", k)
		}
	}
	slices.Sort(keys)
	ranges(t, x, keys, want, math.MinInt, math.MaxInt)
}

func ranges(t *testing.T, x *tree.Tree, keys []int, want map[int]api.Cell, lo, hi int) {
	t.Helper()
	i := 0
	for i < len(keys) && keys[i] < lo {
		i++
	}
	for k, c := range x.Range(lo, hi) {
		if i >= len(keys) || keys[i] != k || want[k] != c || k > hi {
			t.Fatal("range", lo, hi, k)
		}
		i++
	}
	if i < len(keys) && keys[i] <= hi && lo <= hi {
		t.Fatal("range is short", lo, hi)
	}
}

// P8.1
func TestNil(t *testing.T) {
	var x *tree.Tree
	if c, ok := x.Set(1, cell(1)); ok || c != (api.Cell{}) {
		t.Error("set")
	}
	if _, ok := x.Get(1); ok || x.Len() != 0 || x.Deep() != 0 || !x.Sound() || x.Copy() != nil {
		t.Error("nil")
	}
	if _, ok := x.Drop(1); ok {
		t.Error("drop")
	}
	for range x.Range(math.MinInt, math.MaxInt) {
		t.Error("range")
	}
}

// P8.1, P8.2
func TestFew(t *testing.T) {
	x := tree.New()
	sound(t, x, map[int]api.Cell{})
	if _, ok := x.Drop(3); ok {
		t.Error("drop of none")
	}
	for k := 1; k <= 6; k++ {
		if c, ok := x.Set(k, cell(k)); ok || c != (api.Cell{}) {
			t.Error("set", k)
		}
		if w := 1 + k/6; x.Deep() != w {
			t.Error("deep", k, x.Deep())
		}
	}
	if c, ok := x.Set(3, cell(33)); !ok || c != cell(3) || x.Len() != 6 {
		t.Error("set again")
	}
	if c, ok := x.Drop(3); !ok || c != cell(33) || x.Len() != 5 {
		t.Error("drop")
	}
	if c, ok := x.Get(3); ok || c != (api.Cell{}) {
		t.Error("it is gone")
	}
	if c, ok := x.Set(9, api.Cell{}); ok || c != (api.Cell{}) {
		t.Error("zero cell")
	}
	if _, ok := x.Get(9); !ok {
		t.Error("a zero cell is one")
	}
}

// P8.1, P8.2
func TestOrders(t *testing.T) {
	for _, n := range []int{1, 5, 6, 7, 17, 18, 53, 54, 200, 1000} {
		for name, at := range map[string]func(i int) int{"up": func(i int) int { return i }, "down": func(i int) int { return -i }, "mixed": func(i int) int { return i * 7919 % 10007 }} {
			x, want := tree.New(), map[int]api.Cell{}
			for i := range n {
				x.Set(at(i), cell(i))
				want[at(i)] = cell(i)
				if n <= 54 {
					sound(t, x, want)
				}
			}
			sound(t, x, want)
			for i := range n {
				k := at((i * 31) % n)
				if n%31 == 0 {
					k = at(i)
				}
				c, ok := x.Drop(k)
				if w, has := want[k]; has != ok || w != c {
					t.Fatal(name, "drop", k)
				}
				delete(want, k)
				if n <= 200 || i%50 == 0 {
					sound(t, x, want)
				}
			}
			sound(t, x, want)
		}
	}
}

// P8.1, P8.2, P8.3
func TestLikeAMap(t *testing.T) {
	for seed := range int64(40) {
		r := rand.New(rand.NewSource(seed))
		x, want := tree.New(), map[int]api.Cell{}
		wide := 10 << r.Intn(7)
		for step := range 600 {
			k := r.Intn(wide) - wide/2
			switch k {
			case 0:
				k = math.MaxInt
			case 1:
				k = math.MinInt
			}
			w, has := want[k]
			if r.Intn(100) < 30+40*(step/150%2) {
				if c, ok := x.Drop(k); ok != has || c != w {
					t.Fatal("drop", k)
				}
				delete(want, k)
			} else {
				if c, ok := x.Set(k, cell(step)); ok != has || c != w {
					t.Fatal("set", k)
				}
				want[k] = cell(step)
			}
			if step%37 == 0 {
				old := x
				x = x.Copy()
				old.Drop(k)
				old.Set(k+1, cell(1))
				old.Set(r.Intn(wide), cell(2))
			}
		}
		sound(t, x, want)
		keys := []int{}
		for k := range want {
			keys = append(keys, k)
		}
		slices.Sort(keys)
		for range 50 {
			lo, hi := r.Intn(wide)-wide/2, r.Intn(wide)-wide/2
			ranges(t, x, keys, want, lo, hi)
			ranges(t, x, keys, want, lo, lo)
			ranges(t, x, keys, want, lo, math.MaxInt)
			ranges(t, x, keys, want, math.MinInt, hi)
		}
	}
}

// P8.1: a range tells what there was at its call, each time, and ends when it is left.
func TestRangeIsOfItsCall(t *testing.T) {
	x := tree.New()
	for k := range 40 {
		x.Set(k, cell(k))
	}
	all := x.Range(10, 29)
	next := 10
	for k, c := range all {
		if k != next || c != cell(k) {
			t.Fatal(k, c)
		}
		next++
		x.Drop(k + 1)
		x.Set(k+2, cell(99))
		x.Set(k+1000, cell(1))
	}
	if next != 30 {
		t.Error("told", next)
	}
	next = 10
	for k, c := range all {
		if k != next || c != cell(k) {
			t.Fatal("again", k, c)
		}
		if next++; next == 15 {
			break
		}
	}
	if next != 15 {
		t.Error("left", next)
	}
}

// P8.3
func TestCopiesAreApart(t *testing.T) {
	x := tree.New()
	for k := range 100 {
		x.Set(k, cell(k))
	}
	y := x.Copy()
	for k := range 100 {
		if k%2 == 0 {
			x.Drop(k)
			y.Set(k, cell(k+1))
		} else {
			y.Drop(k)
		}
	}
	for k := range 100 {
		c, ok := x.Get(k)
		d, ok2 := y.Get(k)
		if ok != (k%2 == 1) || ok2 != (k%2 == 0) || ok && c != cell(k) || ok2 && d != cell(k+1) {
			t.Error(k)
		}
	}
	if !x.Sound() || !y.Sound() || x.Len() != 50 || y.Len() != 50 {
		t.Error("sound")
	}
}
