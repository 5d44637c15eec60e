package query_test

import (
	"errors"
	"iter"
	"math"
	"math/rand"
	"slices"
	"strconv"
	"testing"

	"sluiceway/api"
	"sluiceway/exec"
	"sluiceway/foot"
	"sluiceway/query"
	"sluiceway/store"
)

func put(t, k, v int) api.Write { return api.Write{Key: api.Key{Table: t, K: k}, V: v} }

func of(list ...api.Write) *store.Store {
	s := store.New()
	s.Apply(1, list...)
	return s
}

var x19 = api.Span{Table: 1, Lo: 0, Hi: 9}

// lines is questions that have lines.
var lines = map[string]query.Question{
	"sum t1 0 9 if > 5": {Verb: query.Sum, X: x19, If: true, Relation: api.IsMore, Number: 5}, "count t1 0 9": {Verb: query.Count, X: x19}, "least t0 -9223372036854775808 9223372036854775807": {Verb: query.Least, X: api.Span{Lo: math.MinInt, Hi: math.MaxInt}}, "most t3 9 -9": {Verb: query.Most, X: api.Span{Table: 3, Lo: 9, Hi: -9}},
	"list 5 t1 0 9": {Verb: query.List, N: 5, X: x19}, "list 0 t1 0 9": {Verb: query.List, X: x19}, "top 9223372036854775807 t1 0 9 if <> -1": {Verb: query.Top, N: math.MaxInt, X: x19, If: true, Relation: api.IsOther, Number: -1}, "count t1 0 9 if < 0": {Verb: query.Count, X: x19, If: true}, "count t1 0 9 if = 0": {Verb: query.Count, X: x19, If: true, Relation: api.IsSame},
}

// P32.1, P32.2
func TestLines(t *testing.T) {
	for l, q := range lines {
		if got, err := query.Print(q); err != nil || got != l || !query.Good(q) {
			t.Error(got, l, err)
		}
		if got, err := query.Parse(l); err != nil || got != q {
			t.Error(l, got, err)
		}
	}
}

// P32.1
func TestNoLines(t *testing.T) {
	for _, l := range []string{"", " ", "sum", "sum ", "sum t1", "sum t1 0", "sum t1 0 9 ", " sum t1 0 9", "sum  t1 0 9", "sum t1 0 9 9", "sum 5 t1 0 9", "sum t4 0 9", "sum t-1 0 9", "sum t01 0 9", "sum t 0 9", "sum 1 0 9", "sum tt1 0 9", "sum t+1 0 9", "sum T1 0 9", "sum t1 00 9", "sum t1 0 +9", "sum t1 -0 9", "sum t1 x 9", "sum t1 0 9223372036854775808", "Sum t1 0 9", "sums t1 0 9", "sum t1 0 9\n",
		"sum t1 0 9 if", "sum t1 0 9 if >", "sum t1 0 9 if > ", "sum t1 0 9 if > x", "sum t1 0 9 if >= 5", "sum t1 0 9 if ? 5", "sum t1 0 9 if != 5", "sum t1 0 9 if  5", "sum t1 0 9 If > 5", "sum t1 0 9 > 5", "sum t1 0 9 if > 05", "sum t1 0 9 if > 5 5", "list t1 0 9", "list -1 t1 0 9", "list 05 t1 0 9", "list x t1 0 9", "list", "list 5", "top 5 5 t1 0 9", "top  t1 0 9", "none", "if"} {
		if q, err := query.Parse(l); !errors.Is(err, api.ErrForm) || q != (query.Question{}) {
			t.Errorf("%q: %v %v", l, q, err)
		}
	}
	s := of(put(1, 1, 1))
	for i, q := range []query.Question{{}, {Verb: -1, X: x19}, {Verb: 7, X: x19}, {Verb: math.MaxInt}, {Verb: query.Sum, N: 1, X: x19}, {Verb: query.Most, N: -1}, {Verb: query.List, N: -1, X: x19}, {Verb: query.Top, N: math.MinInt}, {Verb: query.Sum, X: api.Span{Table: 4}}, {Verb: query.Sum, X: api.Span{Table: -1}}, {Verb: query.Sum, X: x19, Relation: 1}, {Verb: query.Sum, X: x19, Number: 1}, {Verb: query.Sum, X: x19, If: true, Relation: 4}, {Verb: query.Sum, X: x19, If: true, Relation: -1}} {
		l, err := query.Print(q)
		f := query.Foot(q)
		if query.Good(q) || l != "" || !errors.Is(err, api.ErrForm) || query.Ask(s, q) != "form" || len(f.Spans)+len(f.Reads)+len(f.Writes) != 0 {
			t.Error(i, l, err)
		}
	}
	if query.Ask(nil, query.Question{Verb: query.Count}) != "form" {
		t.Error("nil")
	}
	var none *store.Store
	if query.Ask(none, query.Question{Verb: query.Count}) != "0" {
		t.Error("a store without cells")
	}
}

// P32.1
func TestAnswers(t *testing.T) {
	s := of(put(1, 0, 5), put(1, 3, -2), put(1, 5, 9), put(1, 7, 5), put(1, 9, 0), put(1, 50, 100), put(2, 1, math.MaxInt), put(2, 2, 1), put(2, 3, -1))
	for l, want := range map[string]string{
		"count t1 0 9": "5", "count t1 1 8": "3", "count t1 9 0": "0", "count t0 0 9": "0", "count t1 0 9 if > 4": "3", "count t1 0 9 if = 5": "2", "count t1 0 9 if <> 5": "3", "count t1 0 9 if < -2": "0",
		"sum t1 0 9": "17", "sum t1 0 9 if > 5": "9", "sum t0 0 9": "0", "sum t2 1 2": "over", "sum t2 1 3": "9223372036854775807", "sum t2 -5 5 if < 0": "-1",
		"least t1 0 9": "-2", "most t1 0 9": "9", "least t0 0 9": "none", "most t1 0 9 if > 9": "none", "least t1 0 9 if > -2": "0", "most t1 5 5": "9", "least t1 5 4": "none",
		"list 2 t1 0 9": "0:5 3:-2", "list 0 t1 0 9": "", "list 99 t1 0 9 if > 0": "0:5 5:9 7:5", "list 3 t0 0 9": "",
		"top 3 t1 0 9": "5:9 0:5 7:5", "top 2 t1 0 9": "5:9 0:5", "top 99 t1 0 9": "5:9 0:5 7:5 9:0 3:-2", "top 0 t1 0 9": "", "top 1 t1 0 9 if < 5": "9:0", "top 9223372036854775807 t1 9 0": "",
	} {
		q, err := query.Parse(l)
		if err != nil {
			t.Fatal(l, err)
		}
		if got := query.Ask(s, q); got != want {
			t.Errorf("%s: %q, not %q", l, got, want)
		}
	}
}

// P32.1
func TestFoot(t *testing.T) {
	f := query.Foot(query.Question{Verb: query.Count, X: x19})
	if !slices.Equal(f.Spans, []api.Span{x19}) || len(f.Reads)+len(f.Writes) != 0 || !foot.Good(f) {
		t.Error(f)
	}
	f = query.Foot(query.Question{Verb: query.Count, X: api.Span{Table: 2, Lo: 5, Hi: 5}})
	if !slices.Equal(f.Spans, []api.Span{{Table: 2, Lo: 5, Hi: 5}}) {
		t.Error(f)
	}
	if f = query.Foot(query.Question{Verb: query.Count, X: api.Span{Lo: 1}}); len(f.Spans) != 0 {
		t.Error(f)
	}
}

// P32.2
func TestThereAndBack(t *testing.T) {
	r := rand.New(rand.NewSource(32))
	var all []string
	for l := range lines {
		all = append(all, l)
	}
	slices.Sort(all)
	for range 5000 {
		b := []byte(all[r.Intn(len(all))])
		for range r.Intn(3) {
			switch i := r.Intn(len(b)); r.Intn(3) {
			case 0:
				b[i] = " 0123456789-+t<=>if"[r.Intn(19)]
			case 1:
				b = slices.Insert(b, i, " 019-t"[r.Intn(6)])
			default:
				if len(b) > 1 {
					b = slices.Delete(b, i, i+1)
				}
			}
		}
		if q, err := query.Parse(string(b)); err == nil {
			if again, err := query.Print(q); err != nil || again != string(b) {
				t.Fatalf("%q %q", b, again)
			}
		}
	}
}

// watched is a view that knows for what it was asked.
type watched struct {
	s     *store.Store
	spans []api.Span
	keys  []api.Key
}

func (w *watched) Get(k api.Key) (int, bool) {
	w.keys = append(w.keys, k)
	return w.s.Get(k)
}

func (w *watched) Range(x api.Span) iter.Seq2[int, int] {
	w.spans = append(w.spans, x)
	return w.s.Range(x)
}

// P32.3
func TestHangsOnItsFoot(t *testing.T) {
	r := rand.New(rand.NewSource(33))
	for range 3000 {
		q := query.Question{Verb: 1 + r.Intn(6), X: api.Span{Table: r.Intn(4), Lo: r.Intn(8), Hi: r.Intn(8)}}
		if q.Verb >= query.List {
			q.N = r.Intn(5)
		}
		if r.Intn(2) == 0 {
			q.If, q.Relation, q.Number = true, r.Intn(4), r.Intn(5)
		}
		a, b := store.New(), store.New()
		for table := range 4 {
			for k := range 9 {
				v, w := r.Intn(6), r.Intn(6)
				if foot.Reads(query.Foot(q), api.Key{Table: table, K: k}) {
					w = v
				}
				if v > 0 {
					a.Apply(1, put(table, k, v))
				}
				if w > 0 {
					b.Apply(2, put(table, k, w))
				}
			}
		}
		before := a.Put()
		x := &watched{s: a}
		got := query.Ask(x, q)
		if got != query.Ask(b, q) || !slices.Equal(before, a.Put()) {
			t.Fatal("hangs on more", q, got)
		}
		for _, s := range x.spans {
			if s != q.X {
				t.Fatal("asked for more", s)
			}
		}
		for _, k := range x.keys {
			if !foot.Reads(query.Foot(q), k) {
				t.Fatal("asked for more", k)
			}
		}
		if want := plain(a, q); got != want {
			t.Fatalf("%v: %q, not %q", q, got, want)
		}
	}
}

// plain answers counts and sums in the plainest way; else what is asked.
func plain(s *store.Store, q query.Question) string {
	n, sum := 0, 0
	for k := q.X.Lo; k <= q.X.Hi; k++ {
		v, ok := s.Get(api.Key{Table: q.X.Table, K: k})
		if ok && (!q.If || exec.Holds(v, q.Number, q.Relation)) {
			n++
			sum += v
		}
	}
	switch q.Verb {
	case query.Count:
		return strconv.Itoa(n)
	case query.Sum:
		return strconv.Itoa(sum)
	}
	return query.Ask(s, q)
}
