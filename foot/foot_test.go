package foot_test

import (
	"bytes"
	"errors"
	"math"
	"math/rand"
	"slices"
	"testing"

	"sluiceway/api"
	"sluiceway/foot"
	"sluiceway/wire"
)

func key(t, k int) api.Key           { return api.Key{Table: t, K: k} }
func span(t, lo, hi int) api.Span    { return api.Span{Table: t, Lo: lo, Hi: hi} }
func keys(list ...api.Key) []api.Key { return list }
func spans(l ...api.Span) []api.Span { return l }
func same(a, b api.Foot) bool {
	return slices.Equal(a.Reads, b.Reads) && slices.Equal(a.Spans, b.Spans) && slices.Equal(a.Writes, b.Writes)
}

// P10.1
func TestLess(t *testing.T) {
	rising := keys(key(-1, 5), key(0, math.MinInt), key(0, -1), key(0, 3), key(0, math.MaxInt), key(1, -9), key(3, 0), key(9, math.MinInt))
	for i, a := range rising {
		for j, b := range rising {
			if foot.Less(a, b) != (i < j) {
				t.Error(a, b)
			}
		}
	}
}

// P10.1
func TestGood(t *testing.T) {
	for i, f := range []api.Foot{
		{}, {Reads: []api.Key{}}, {Reads: keys(key(0, 1), key(0, 2), key(3, 0))}, {Writes: keys(key(0, math.MinInt), key(0, math.MaxInt))},
		{Spans: spans(span(0, 1, 1), span(0, 3, 9), span(1, 0, 5), span(3, math.MinInt, math.MaxInt))}, {Reads: keys(key(1, 1)), Spans: spans(span(1, 0, 5)), Writes: keys(key(1, 1))},
		{Spans: spans(span(0, math.MinInt, math.MinInt), span(0, math.MinInt+2, math.MaxInt-2), span(0, math.MaxInt, math.MaxInt))},
	} {
		if !foot.Good(f) || len(foot.Put(f)) == 0 {
			t.Error("good", i)
		}
	}
	for i, f := range []api.Foot{
		{Reads: keys(key(0, 2), key(0, 1))}, {Reads: keys(key(0, 2), key(0, 2))}, {Reads: keys(key(1, 1), key(0, 2))}, {Reads: keys(key(4, 1))}, {Reads: keys(key(-1, 1))},
		{Writes: keys(key(0, 2), key(0, 1))}, {Writes: keys(key(0, 2), key(0, 2))}, {Writes: keys(key(4, 1))}, {Writes: keys(key(-1, 1))},
		{Spans: spans(span(0, 2, 1))}, {Spans: spans(span(4, 1, 2))}, {Spans: spans(span(-1, 1, 2))}, {Spans: spans(span(0, 1, 2), span(0, 3, 4))}, {Spans: spans(span(0, 1, 5), span(0, 3, 4))},
		{Spans: spans(span(0, 5, 6), span(0, 1, 2))}, {Spans: spans(span(1, 1, 2), span(0, 5, 6))}, {Spans: spans(span(0, 1, 2), span(0, 1, 2))}, {Spans: spans(span(0, 1, math.MaxInt), span(0, math.MinInt, -5))}, {Spans: spans(span(0, 1, math.MaxInt), span(0, math.MaxInt, math.MaxInt))},
	} {
		if foot.Good(f) || foot.Put(f) != nil {
			t.Error("not good", i)
		}
	}
}

// P10.1
func TestJoin(t *testing.T) {
	if !same(foot.Join(), api.Foot{}) || !same(foot.Join(api.Foot{}, api.Foot{}), api.Foot{}) {
		t.Error("nothing")
	}
	got := foot.Join(api.Foot{Reads: keys(key(1, 5), key(0, 9), key(1, 5)), Writes: keys(key(2, 2))}, api.Foot{Reads: keys(key(0, 9), key(-3, 0)), Writes: keys(key(2, 2), key(2, 1), key(8, 0))})
	if !same(got, api.Foot{Reads: keys(key(-3, 0), key(0, 9), key(1, 5)), Writes: keys(key(2, 1), key(2, 2), key(8, 0))}) {
		t.Error(got)
	}
	for i, c := range []struct{ in, out []api.Span }{
		{spans(span(0, 1, 3), span(0, 4, 5)), spans(span(0, 1, 5))},
		{spans(span(0, 4, 5), span(0, 1, 3)), spans(span(0, 1, 5))},
		{spans(span(0, 1, 3), span(0, 5, 6)), spans(span(0, 1, 3), span(0, 5, 6))},
		{spans(span(0, 1, 3), span(1, 4, 5)), spans(span(0, 1, 3), span(1, 4, 5))},
		{spans(span(0, 1, 9), span(0, 4, 5), span(0, 7, 12)), spans(span(0, 1, 12))},
		{spans(span(0, 5, 4), span(0, math.MaxInt, math.MinInt)), nil},
		{spans(span(0, 2, 1), span(0, 1, 1), span(0, 3, 3)), spans(span(0, 1, 1), span(0, 3, 3))},
		{spans(span(7, math.MinInt, 0), span(7, 1, math.MaxInt), span(7, 5, 6)), spans(span(7, math.MinInt, math.MaxInt))},
		{spans(span(0, 5, math.MaxInt), span(0, math.MaxInt, math.MaxInt), span(0, math.MinInt, math.MinInt)), spans(span(0, math.MinInt, math.MinInt), span(0, 5, math.MaxInt))},
	} {
		for cut := range len(c.in) + 1 {
			if got := foot.Join(api.Foot{Spans: c.in[:cut]}, api.Foot{Spans: c.in[cut:]}); !slices.Equal(got.Spans, c.out) {
				t.Error(i, got.Spans)
			}
		}
	}
}

// P10.1: also of feet that aren't in order.
func TestAsk(t *testing.T) {
	f := api.Foot{Reads: keys(key(1, 5), key(0, 9), key(7, 7)), Spans: spans(span(2, 5, 1), span(1, 20, 30), span(1, 10, 12), span(1, 11, 25)), Writes: keys(key(3, 3), key(3, 1))}
	for k, want := range map[api.Key][2]bool{key(1, 5): {true, false}, key(0, 9): {true, false}, key(7, 7): {true, false}, key(0, 5): {}, key(2, 3): {}, key(1, 9): {}, key(1, 10): {true, false}, key(1, 30): {true, false}, key(1, 31): {}, key(0, 15): {}, key(3, 1): {false, true}, key(3, 2): {}} {
		if foot.Reads(f, k) != want[0] || foot.Writes(f, k) != want[1] {
			t.Error(k)
		}
	}
	r := func(k ...api.Key) api.Foot { return api.Foot{Reads: k} }
	w := func(k ...api.Key) api.Foot { return api.Foot{Writes: k} }
	s := func(x ...api.Span) api.Foot { return api.Foot{Spans: x} }
	for i, c := range []struct {
		a, b api.Foot
		meet bool
	}{
		{api.Foot{}, api.Foot{}, false}, {r(key(0, 1)), r(key(0, 1)), false}, {s(span(0, 0, 9)), r(key(0, 1)), false}, {s(span(0, 0, 9)), s(span(0, 0, 9)), false},
		{r(key(0, 1)), w(key(0, 1)), true}, {w(key(0, 1)), w(key(0, 1)), true}, {w(key(0, 1)), w(key(1, 1)), false}, {r(key(0, 2), key(0, 1)), w(key(0, 5), key(0, 1)), true},
		{s(span(0, 0, 9)), w(key(0, 9)), true}, {s(span(0, 0, 9)), w(key(0, 10)), false}, {s(span(0, 9, 0)), w(key(0, 5)), false}, {s(span(5, 1, 2)), w(key(5, 2)), true},
	} {
		if foot.Meet(c.a, c.b) != c.meet || foot.Meet(c.b, c.a) != c.meet {
			t.Error(i)
		}
	}
}

func some(r *rand.Rand, tables int) api.Foot {
	f := api.Foot{}
	for range r.Intn(4) {
		f.Reads = append(f.Reads, key(r.Intn(tables), r.Intn(12)))
	}
	for range r.Intn(4) {
		lo := r.Intn(12)
		f.Spans = append(f.Spans, span(r.Intn(tables), lo, lo+r.Intn(5)-1))
	}
	for range r.Intn(4) {
		f.Writes = append(f.Writes, key(r.Intn(tables), r.Intn(12)))
	}
	return f
}

// P10.2
func TestTogether(t *testing.T) {
	r := rand.New(rand.NewSource(8))
	for range 3000 {
		list := make([]api.Foot, r.Intn(4))
		for i := range list {
			list[i] = some(r, 2+r.Intn(3))
		}
		all := foot.Join(list...)
		if !foot.Good(all) {
			t.Fatal("good", all)
		}
		for table := range 4 {
			for k := -2; k < 18; k++ {
				k := key(table, k)
				reads := slices.ContainsFunc(list, func(f api.Foot) bool { return foot.Reads(f, k) })
				writes := slices.ContainsFunc(list, func(f api.Foot) bool { return foot.Writes(f, k) })
				if foot.Reads(all, k) != reads || foot.Writes(all, k) != writes {
					t.Fatal(k)
				}
			}
		}
		if !same(foot.Join(all), all) {
			t.Fatal("again")
		}
		a, b := some(r, 2), some(r, 2)
		meet := false
		for table := range 2 {
			for k := range 18 {
				k := key(table, k)
				meet = meet || foot.Writes(a, k) && (foot.Reads(b, k) || foot.Writes(b, k)) || foot.Writes(b, k) && foot.Reads(a, k)
			}
		}
		if foot.Meet(a, b) != meet || foot.Meet(b, a) != meet || foot.Meet(foot.Join(a), foot.Join(b)) != meet {
			t.Fatal("meet", a, b)
		}
	}
}

// P10.1, P10.2
func TestBytes(t *testing.T) {
	f := api.Foot{Reads: keys(key(0, 1), key(3, -1)), Spans: spans(span(2, -3, 300)), Writes: keys(key(1, 0))}
	want := []byte{2, 0, 2, 3, 1, 1, 2, 5, 0xd8, 4, 1, 1, 0}
	if !bytes.Equal(foot.Put(f), want) {
		t.Error(foot.Put(f))
	}
	if !bytes.Equal(foot.Put(api.Foot{}), []byte{0, 0, 0}) {
		t.Error("nothing")
	}
	r := rand.New(rand.NewSource(9))
	for range 2000 {
		f := foot.Join(some(r, 4), some(r, 4))
		b := foot.Put(f)
		if g, err := foot.Take(b); err != nil || !same(f, g) {
			t.Fatal(f, g, err)
		}
		c := bytes.Clone(b)
		c[r.Intn(len(c))] ^= 1 << r.Intn(8)
		if g, err := foot.Take(c); err == nil && !bytes.Equal(foot.Put(g), c) {
			t.Fatal("another text", c)
		} else if err != nil && (!errors.Is(err, api.ErrForm) || !same(g, api.Foot{})) {
			t.Fatal(err)
		}
	}
	var huge wire.Writer
	huge.Count(math.MaxUint64)
	var wrap wire.Writer
	wrap.Count(1)
	wrap.Count(math.MaxUint64)
	wrap.Num(1)
	wrap.Count(0)
	wrap.Count(0)
	for i, b := range [][]byte{nil, {0}, {0, 0}, {0, 0, 0, 0}, {1, 4, 0, 0, 0}, {2, 0, 2, 0, 2, 0, 0}, {2, 0, 2, 0, 0, 0, 0}, {0, 1, 0, 2, 0, 0}, {0, 2, 0, 0, 0, 0, 2, 2, 0}, {0, 0, 1, 5, 0}, {1, 0, 0}, {0x80, 0, 0, 0}, huge.Out(), append(huge.Out(), 0, 0, 0, 0), wrap.Out(), {0, 0, 1}, {0, 1, 0}} {
		if g, err := foot.Take(b); !errors.Is(err, api.ErrForm) || !same(g, api.Foot{}) {
			t.Error(i, g, err)
		}
	}
}

// P10.3
func TestArgumentsStay(t *testing.T) {
	f := api.Foot{Reads: keys(key(1, 5), key(0, 9), key(1, 5), key(0, 0)), Spans: spans(span(0, 7, 8), span(0, 9, 3), span(0, 1, 6), span(1, 1, 1)), Writes: keys(key(2, 2), key(2, 1), key(0, 0))}
	cut := api.Foot{Reads: f.Reads[:3], Spans: f.Spans[:3], Writes: f.Writes[:2]}
	copied := api.Foot{Reads: slices.Clone(f.Reads), Spans: slices.Clone(f.Spans), Writes: slices.Clone(f.Writes)}
	foot.Join(cut, cut)
	foot.Join(cut)
	foot.Good(cut)
	foot.Put(cut)
	foot.Meet(cut, f)
	if !same(f, copied) {
		t.Error("changed")
	}
	good := foot.Join(f)
	again := foot.Join(good)
	again.Reads[0], again.Spans[0], again.Writes[0] = key(9, 9), span(9, 9, 9), key(9, 9)
	_ = append(again.Reads, key(8, 8))
	if !same(good, foot.Join(f)) {
		t.Error("shared")
	}
}
