package exec_test

import (
	"errors"
	"iter"
	"math"
	"math/rand"
	"slices"
	"testing"

	"sluiceway/api"
	"sluiceway/exec"
	"sluiceway/foot"
)

// plain is a view that knows what it was asked.
type plain struct {
	cells map[api.Key]int
	asked []api.Key
	lied  int
}

func (p *plain) Get(k api.Key) (int, bool) {
	p.asked = append(p.asked, k)
	v, ok := p.cells[k]
	if !ok {
		return p.lied, false
	}
	return v, ok
}

func (p *plain) Range(x api.Span) iter.Seq2[int, int] {
	return func(yield func(int, int) bool) {
		var keys []int
		for k := range p.cells {
			if k.Table == x.Table && x.Lo <= k.K && k.K <= x.Hi {
				keys = append(keys, k.K)
			}
		}
		slices.Sort(keys)
		for _, k := range keys {
			if !yield(k, p.cells[key(x.Table, k)]) {
				return
			}
		}
	}
}

func key(t, k int) api.Key { return api.Key{Table: t, K: k} }
func view() *plain {
	return &plain{cells: map[api.Key]int{key(1, 1): 10, key(1, 3): 30, key(1, 5): 50, key(1, 7): 70, key(2, 1): -4}}
}
func set(a, n int) api.Code          { return api.Code{Op: api.OpSet, A: a, N: n} }
func op3(op, a, b, c int) api.Code   { return api.Code{Op: op, A: a, B: b, C: c} }
func get(a, t, b int) api.Code       { return api.Code{Op: api.OpGet, A: a, T: t, B: b} }
func put(t, b, a int) api.Code       { return api.Code{Op: api.OpPut, A: a, T: t, B: b} }
func del(t, b int) api.Code          { return api.Code{Op: api.OpDel, T: t, B: b} }
func sum(a, t, b, c, n int) api.Code { return api.Code{Op: api.OpSum, A: a, T: t, B: b, C: c, N: n} }
func count(a, t, b, c, n int) api.Code {
	return api.Code{Op: api.OpCount, A: a, T: t, B: b, C: c, N: n}
}
func out(a int) api.Code                     { return api.Code{Op: api.OpOut, A: a} }
func of(fuel int, c ...api.Code) api.Program { return api.Program{Fuel: fuel, Code: c} }

func same(a, b exec.Result) bool {
	return a.Out == b.Out && a.Fuel == b.Fuel && slices.Equal(a.Writes, b.Writes) && slices.Equal(a.Foot.Reads, b.Foot.Reads) && slices.Equal(a.Foot.Spans, b.Foot.Spans) && slices.Equal(a.Foot.Writes, b.Foot.Writes)
}

func fault(t *testing.T, what string, x exec.Result, err error, at int, is error) {
	t.Helper()
	var f *api.Fault
	if !errors.As(err, &f) || f.At != at || !errors.Is(err, is) || !same(x, exec.Result{}) {
		t.Errorf("%s: %v %+v %+v", what, err, f, x)
	}
}

func ran(t *testing.T, v exec.View, p api.Program) exec.Result {
	t.Helper()
	x, err := exec.Run(v, p)
	if err != nil {
		t.Fatal(err)
	}
	return x
}

// P11.1
func TestHolds(t *testing.T) {
	for _, x := range [][2]int{{1, 2}, {2, 2}, {2, 1}, {math.MinInt, math.MaxInt}, {math.MaxInt, math.MinInt}} {
		a, b := x[0], x[1]
		if exec.Holds(a, b, api.IsLess) != (a < b) || exec.Holds(a, b, api.IsSame) != (a == b) || exec.Holds(a, b, api.IsMore) != (a > b) || exec.Holds(a, b, api.IsOther) != (a != b) {
			t.Error(a, b)
		}
		for _, r := range []int{-1, 4, 5, math.MinInt, math.MaxInt} {
			if exec.Holds(a, b, r) {
				t.Error("none", r)
			}
		}
	}
}

// P11.1
func TestRefused(t *testing.T) {
	x, err := exec.Run(view(), api.Program{})
	fault(t, "program", x, err, -1, api.ErrProgram)
	x, err = exec.Run(nil, of(5, out(1), out(8)))
	fault(t, "the program comes first", x, err, 1, api.ErrProgram)
	x, err = exec.Run(nil, of(5, out(1)))
	if !errors.Is(err, api.ErrState) || !same(x, exec.Result{}) {
		t.Error(err)
	}
}

// P11.1
func TestFuel(t *testing.T) {
	p := of(2, set(1, 5), out(1))
	if x := ran(t, view(), p); x.Out != 5 || x.Fuel != 2 {
		t.Error(x)
	}
	p.Fuel = 1
	x, err := exec.Run(view(), p)
	fault(t, "out", x, err, 1, api.ErrFuel)
	p = of(1000, set(1, 0), set(2, 9), sum(3, 1, 1, 2, 64), out(3))
	for fuel := 1; fuel < 12; fuel++ {
		p.Fuel = fuel
		x, err := exec.Run(view(), p)
		switch {
		case fuel < 2:
			fault(t, "set", x, err, 1, api.ErrFuel)
		case fuel < 7:
			fault(t, "sum", x, err, 2, api.ErrFuel)
		case fuel < 8:
			fault(t, "out", x, err, 3, api.ErrFuel)
		default:
			if err != nil || x.Fuel != 8 || x.Out != 160 {
				t.Error(fuel, x, err)
			}
		}
	}
	p = of(9, set(1, 1), api.Code{Op: api.OpSkip, A: 2, B: 1, C: 0, N: api.IsMore}, set(1, 7), set(1, 8), out(1))
	if x := ran(t, view(), p); x.Fuel != 3 || x.Out != 1 {
		t.Error("skipped ones use none", x)
	}
}

// P11.1
func TestReckoning(t *testing.T) {
	for op, w := range map[int]int{api.OpAdd: -5, api.OpSub: -9, api.OpMul: -14, api.OpDiv: -3, api.OpMod: -1} {
		if x := ran(t, view(), of(9, set(1, -7), set(2, 2), op3(op, 3, 1, 2), out(3))); x.Out != w {
			t.Error(op, x.Out)
		}
	}
	if x := ran(t, view(), of(9, set(1, -7), api.Code{Op: api.OpMove, A: 2, B: 1}, set(1, 0), out(2), out(2), out(7))); x.Out != 0 {
		t.Error("the last out counts", x)
	}
	if x := ran(t, view(), of(9, set(1, -7), api.Code{Op: api.OpMove, A: 2, B: 1}, set(1, 0), out(2))); x.Out != -7 {
		t.Error("move", x)
	}
	for _, c := range []struct{ op, a, b int }{{api.OpAdd, math.MaxInt, 1}, {api.OpSub, math.MinInt, 1}, {api.OpMul, 1 << 62, 2}, {api.OpDiv, 1, 0}, {api.OpDiv, math.MinInt, -1}, {api.OpMod, 5, 0}} {
		x, err := exec.Run(view(), of(9, put(0, 0, 0), set(1, c.a), set(2, c.b), op3(c.op, 3, 1, 2), out(3)))
		fault(t, "over", x, err, 3, api.ErrOver)
	}
	x, err := exec.Run(view(), of(9, set(1, 1), set(2, math.MaxInt), put(1, 1, 2), set(2, 5), sum(3, 1, 0, 2, 9)))
	fault(t, "sum over", x, err, 4, api.ErrOver)
	y := ran(t, view(), of(20, set(1, 1), set(2, math.MaxInt), put(1, 1, 2), set(2, -60), set(1, 5), put(1, 1, 2), set(2, 5), sum(3, 1, 0, 2, 9), out(3)))
	if y.Out != math.MaxInt-30 {
		t.Error("sums met on the way don't matter", y.Out)
	}
}

// P11.1
func TestSkipAndAbort(t *testing.T) {
	for relation := range 4 {
		for a := -1; a <= 1; a++ {
			holds := exec.Holds(a, 0, relation)
			x := ran(t, view(), of(9, set(1, a), api.Code{Op: api.OpSkip, A: 1, B: 1, C: 0, N: relation}, set(2, 1), out(2)))
			if (x.Out == 0) != holds {
				t.Error("skip", relation, a)
			}
			y, err := exec.Run(view(), of(9, set(1, a), put(0, 1, 1), api.Code{Op: api.OpAbort, B: 1, C: 0, N: relation}, out(1)))
			if holds {
				fault(t, "abort", y, err, 2, api.ErrAbort)
			} else if err != nil || y.Out != a {
				t.Error("not given up", err)
			}
		}
	}
	skip := api.Code{Op: api.OpSkip, A: 1, N: api.IsSame}
	if x := ran(t, view(), of(9, set(1, 1), skip, out(1))); x.Out != 0 || x.Fuel != 2 {
		t.Error("to the end", x)
	}
}

// P11.1
func TestKeys(t *testing.T) {
	v := view()
	v.lied = 99
	x := ran(t, v, of(30, set(1, 3), get(2, 1, 1), set(1, 4), get(3, 1, 1), api.Code{Op: api.OpHas, A: 4, B: 1, T: 1}, set(1, 1), api.Code{Op: api.OpHas, A: 5, B: 1, T: 2}, op3(api.OpAdd, 6, 2, 3), op3(api.OpAdd, 6, 6, 4), op3(api.OpAdd, 6, 6, 5), out(6)))
	if x.Out != 31 || !slices.Equal(x.Foot.Reads, []api.Key{key(1, 3), key(1, 4), key(2, 1)}) || len(x.Foot.Writes) != 0 || len(x.Writes) != 0 || len(x.Foot.Spans) != 0 {
		t.Error(x)
	}
	x = ran(t, view(), of(30, set(1, 3), put(1, 1, 1), get(2, 1, 1), del(1, 1), get(3, 1, 1), api.Code{Op: api.OpHas, A: 4, B: 1, T: 1}, set(5, 100), op3(api.OpMul, 2, 2, 5), op3(api.OpAdd, 6, 2, 3), op3(api.OpAdd, 6, 6, 4), out(6)))
	if x.Out != 300 || len(x.Foot.Reads) != 0 || !slices.Equal(x.Foot.Writes, []api.Key{key(1, 3)}) || !slices.Equal(x.Writes, []api.Write{{Key: key(1, 3), Dead: true}}) {
		t.Error("own writes", x)
	}
	x = ran(t, view(), of(30, set(1, 3), get(2, 1, 1), put(1, 1, 2), set(1, -9), put(1, 1, 2), put(0, 1, 1), put(3, 1, 1), put(0, 1, 2)))
	if !slices.Equal(x.Foot.Reads, []api.Key{key(1, 3)}) || !slices.Equal(x.Writes, []api.Write{{Key: key(0, -9), V: 30}, {Key: key(1, -9), V: 30}, {Key: key(1, 3), V: 30}, {Key: key(3, -9), V: -9}}) {
		t.Error("rising", x)
	}
}

// P11.1
func TestSpans(t *testing.T) {
	span := func(lo, hi int) []api.Span { return []api.Span{{Table: 1, Lo: lo, Hi: hi}} }
	for _, c := range []struct {
		lo, hi, n, many, total int
		x                      []api.Span
	}{
		{0, 9, 64, 4, 160, span(0, 9)}, {1, 7, 4, 4, 160, span(1, 7)}, {0, 9, 4, 4, 160, span(0, 7)}, {0, 9, 3, 3, 90, span(0, 5)}, {0, 9, 1, 1, 10, span(0, 1)}, {2, 2, 5, 0, 0, span(2, 2)}, {3, 3, 1, 1, 30, span(3, 3)}, {3, 2, 9, 0, 0, nil},
		{math.MinInt, math.MaxInt, 9, 4, 160, span(math.MinInt, math.MaxInt)}, {math.MaxInt, math.MinInt, 9, 0, 0, nil},
	} {
		x := ran(t, view(), of(30, set(1, c.lo), set(2, c.hi), sum(3, 1, 1, 2, c.n), out(3)))
		if x.Out != c.total || !slices.Equal(x.Foot.Spans, c.x) || x.Fuel != 4+c.many {
			t.Error("sum", c, x)
		}
		x = ran(t, view(), of(30, set(1, c.lo), set(2, c.hi), count(3, 1, 1, 2, c.n), out(3)))
		if x.Out != c.many || !slices.Equal(x.Foot.Spans, c.x) || x.Fuel != 4+c.many {
			t.Error("count", c, x)
		}
	}
	own := []api.Code{set(1, 3), del(1, 1), set(1, 5), set(2, 500), put(1, 1, 2), set(1, 4), put(1, 1, 1), set(1, 99), put(1, 1, 1), set(1, -9), put(1, 1, 1), put(0, 1, 1), set(1, 4)}
	x := ran(t, view(), of(99, append(own, sum(3, 1, 0, 2, 3), out(3))...))
	if x.Out != 10+4+500 || !slices.Equal(x.Foot.Spans, span(0, 5)) {
		t.Error("own writes", x)
	}
	x = ran(t, view(), of(99, append(own, sum(3, 1, 0, 2, 60), out(3))...))
	if x.Out != 10+4+500+70+99 || !slices.Equal(x.Foot.Spans, span(0, 500)) {
		t.Error("own writes", x)
	}
	x = ran(t, view(), of(99, append(own, set(2, 98), set(1, 8), count(3, 1, 1, 2, 60), out(3))...))
	if x.Out != 0 || !slices.Equal(x.Foot.Spans, span(8, 98)) {
		t.Error("own writes outside", x)
	}
	for n, c := range map[int]struct{ total, hi int }{1: {7, 2}, 2: {37, 3}, 3: {87, 5}, 4: {157, 7}, 5: {157 + 8, 8}, 6: {157 + 17, 9}, 7: {157 + 17, 9}} {
		edges := []api.Code{set(1, 2), set(2, 7), put(1, 1, 2), put(2, 1, 2), set(1, 4), put(0, 1, 2), put(2, 1, 2), set(1, 8), put(1, 1, 1), set(1, 9), put(1, 1, 1), set(1, 10), put(1, 1, 1), set(1, 1), put(1, 1, 1), set(1, 2), set(2, 9)}
		x = ran(t, view(), of(99, append(edges, sum(3, 1, 1, 2, n), out(3))...))
		if x.Out != c.total || !slices.Equal(x.Foot.Spans, span(2, c.hi)) || x.Fuel != 19+min(n, 6) {
			t.Error("own writes at the edges, and up to the last of them", n, x)
		}
	}
	x = ran(t, view(), of(30, set(1, 1), set(2, 3), set(3, 4), set(4, 5), sum(5, 1, 1, 2, 9), sum(5, 1, 3, 4, 9), sum(5, 2, 3, 4, 9)))
	if !slices.Equal(x.Foot.Spans, []api.Span{{Table: 1, Lo: 1, Hi: 5}, {Table: 2, Lo: 4, Hi: 5}}) {
		t.Error("put together", x)
	}
}

func random(r *rand.Rand) api.Program {
	n := 3 + r.Intn(28)
	p := api.Program{Fuel: 20 + r.Intn(200)}
	for i := range n {
		c := api.Code{Op: r.Intn(16), A: r.Intn(8), B: r.Intn(8), C: r.Intn(8), T: r.Intn(2) + 1, N: 1 + r.Intn(6)}
		switch c.Op {
		case api.OpSet:
			c = set(c.A, r.Intn(12)-2)
		case api.OpMove:
			c.C, c.T, c.N = 0, 0, 0
		case api.OpAdd, api.OpSub, api.OpMul, api.OpDiv, api.OpMod:
			c.T, c.N = 0, 0
		case api.OpGet, api.OpHas, api.OpPut:
			c.C, c.N = 0, 0
		case api.OpDel:
			c.A, c.C, c.N = 0, 0, 0
		case api.OpSkip:
			c.T, c.N, c.A = 0, r.Intn(4), 1
			if i == n-1 {
				c = out(1)
			}
		case api.OpAbort:
			c = set(c.A, c.B)
		case api.OpOut:
			c = out(c.A)
		}
		p.Code = append(p.Code, c)
	}
	return p
}

// P11.2: what the foot doesn't read may be anything; what is written twice over comes to the same.
func TestHangsOnItsFoot(t *testing.T) {
	r := rand.New(rand.NewSource(11))
	good := 0
	for range 5000 {
		v := &plain{cells: map[api.Key]int{}}
		for range r.Intn(12) {
			v.cells[key(1+r.Intn(2), r.Intn(12)-2)] = r.Intn(20) - 5
		}
		p := random(r)
		before := slices.Clone(p.Code)
		x, err := exec.Run(v, p)
		if !slices.Equal(before, p.Code) {
			t.Fatal("changed")
		}
		if err != nil {
			var f *api.Fault
			if !errors.As(err, &f) || errors.Is(err, api.ErrProgram) {
				t.Fatal(err)
			}
			continue
		}
		good++
		if !foot.Good(x.Foot) || len(x.Writes) != len(x.Foot.Writes) {
			t.Fatal("foot", x.Foot)
		}
		for i, w := range x.Writes {
			if w.Key != x.Foot.Writes[i] || w.Dead && w.V != 0 {
				t.Fatal("writes")
			}
		}
		for _, k := range v.asked {
			if !foot.Reads(x.Foot, k) {
				t.Fatal("read, but not told", k)
			}
		}
		for table := 1; table < 3; table++ {
			for k := -3; k < 14; k++ {
				if !foot.Reads(x.Foot, key(table, k)) {
					delete(v.cells, key(table, k))
					if r.Intn(2) == 0 {
						v.cells[key(table, k)] = r.Intn(100)
					}
				}
			}
		}
		if y, err := exec.Run(v, p); err != nil || !same(x, y) {
			t.Fatal("hangs on more", p, x, y, err)
		}
	}
	if good < 500 {
		t.Error("too few", good)
	}
}

// P11.3
func TestAnswersAreNew(t *testing.T) {
	p := of(30, set(1, 3), get(2, 1, 1), put(1, 1, 2), set(4, 9), sum(5, 1, 0, 4, 9))
	x := ran(t, view(), p)
	y := ran(t, view(), p)
	x.Writes[0], x.Foot.Reads[0], x.Foot.Spans[0], x.Foot.Writes[0] = api.Write{}, key(9, 9), api.Span{}, key(9, 9)
	if z := ran(t, view(), p); !same(y, z) {
		t.Error("shared")
	}
}
