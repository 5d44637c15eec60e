package delta_test

import (
	"bytes"
	"errors"
	"math"
	"math/rand"
	"slices"
	"testing"

	"sluiceway/api"
	"sluiceway/delta"
	"sluiceway/store"
	"sluiceway/wire"
)

func key(t, k int) api.Key      { return api.Key{Table: t, K: k} }
func put(t, k, v int) api.Write { return api.Write{Key: key(t, k), V: v} }
func del(t, k int) api.Write    { return api.Write{Key: key(t, k), Dead: true} }
func is(v int) delta.Side       { return delta.Side{V: v, Live: true} }

var none = delta.Side{}

func change(t, k int, was, now delta.Side) delta.Change {
	return delta.Change{Key: key(t, k), Was: was, Is: now}
}

func of(list ...api.Write) *store.Store {
	s := store.New()
	s.Apply(1, list...)
	return s
}

// same tells whether stores show the same.
func same(a, b *store.Store) bool {
	x, y := a.From(key(0, math.MinInt), 9999), b.From(key(0, math.MinInt), 9999)
	return slices.EqualFunc(x, y, func(p, q store.Entry) bool { return p.Key == q.Key && p.V == q.V })
}

func fails(t *testing.T, what string, got, want error) {
	t.Helper()
	if !errors.Is(got, want) || (got == nil) != (want == nil) {
		t.Errorf("%s: %v, not %v", what, got, want)
	}
}

// P31.1
func TestGood(t *testing.T) {
	for i, d := range [][]delta.Change{nil, {}, {change(0, 1, none, is(0))}, {change(0, 1, is(1), none), change(0, 2, is(1), is(2)), change(3, math.MinInt, none, is(-1))}} {
		b, err := delta.Encode(d)
		if !delta.Good(d) || err != nil {
			t.Error("good", i, err)
		}
		if e, err := delta.Decode(b); err != nil || !slices.Equal(e, d) {
			t.Error("back", i, err)
		}
	}
	for i, d := range [][]delta.Change{
		{change(0, 1, none, none)}, {change(0, 1, is(1), is(1))}, {change(4, 1, none, is(1))}, {change(-1, 1, none, is(1))}, {change(0, 2, none, is(1)), change(0, 1, none, is(1))}, {change(0, 1, none, is(1)), change(0, 1, is(1), is(2))}, {change(1, 1, none, is(1)), change(0, 2, none, is(1))},
		{change(0, 1, delta.Side{V: 1}, is(1))}, {change(0, 1, is(1), delta.Side{V: 1})}, {change(0, 1, delta.Side{V: 1}, none)},
	} {
		b, err := delta.Encode(d)
		if delta.Good(d) || b != nil || !errors.Is(err, api.ErrForm) {
			t.Error("not good", i, err)
		}
		x, err := delta.Then(d, nil)
		fails(t, "then", err, api.ErrForm)
		y, err := delta.Then(nil, d)
		fails(t, "then", err, api.ErrForm)
		s, err := delta.Onto(nil, d)
		fails(t, "onto", err, api.ErrForm)
		if x != nil || y != nil || s != nil {
			t.Error("zero", i)
		}
	}
}

// P31.1
func TestBetween(t *testing.T) {
	five := of(put(1, 7, 5))
	if d := delta.Between(five, store.New()); !slices.Equal(d, []delta.Change{change(1, 7, is(5), none)}) {
		t.Error(d)
	}
	if d := delta.Between(nil, five); !slices.Equal(d, []delta.Change{change(1, 7, none, is(5))}) {
		t.Error(d)
	}
	if len(delta.Between(nil, nil)) != 0 || len(delta.Between(five, five)) != 0 || len(delta.Between(nil, of(del(0, 1)))) != 0 {
		t.Error("nothing")
	}
	a := of(put(0, 5, 1), put(0, 6, 2), put(2, -1, 0), put(3, 3, 3), del(1, 1))
	b := of(put(0, 6, 2), put(0, 4, 9), del(2, -1), put(3, 3, 4), put(1, 1, 0))
	want := []delta.Change{change(0, 4, none, is(9)), change(0, 5, is(1), none), change(1, 1, none, is(0)), change(2, -1, is(0), none), change(3, 3, is(3), is(4))}
	if d := delta.Between(a, b); !slices.Equal(d, want) || !slices.Equal(delta.Back(delta.Back(d)), d) || !slices.Equal(delta.Back(d), delta.Between(b, a)) {
		t.Error(d)
	}
	if d := delta.Back([]delta.Change{change(9, 1, none, none), change(0, 1, is(1), delta.Side{V: 7})}); !slices.Equal(d, []delta.Change{change(9, 1, none, none), change(0, 1, delta.Side{V: 7}, is(1))}) {
		t.Error("back of whatever", d)
	}
}

// P31.1
func TestOnto(t *testing.T) {
	s := of(put(0, 1, 5))
	s.Apply(7, del(0, 9))
	d := []delta.Change{change(0, 1, is(5), none), change(0, 2, none, is(8)), change(0, 9, none, is(1))}
	x, err := delta.Onto(s, d)
	if err != nil {
		t.Fatal(err)
	}
	if c, ok := x.Cell(key(0, 2)); !ok || c != (api.Cell{V: 8, Seq: 8}) || x.Last() != 8 {
		t.Error(c, x.Last())
	}
	if _, ok := x.Get(key(0, 1)); ok || s.Last() != 7 || s.Live() != 1 {
		t.Error("changed")
	}
	for i, d := range [][]delta.Change{{change(0, 1, is(4), none)}, {change(0, 1, none, is(4))}, {change(0, 1, is(5), is(6)), change(0, 3, is(1), none)}} {
		x, err := delta.Onto(s, d)
		if x != nil || !errors.Is(err, api.ErrState) {
			t.Error(i, err)
		}
	}
	_, err = delta.Onto(nil, nil)
	fails(t, "nil", err, api.ErrState)
	if x, err := delta.Onto(s, nil); err != nil || x == s || !same(x, s) {
		t.Error("nothing", err)
	}
	full := store.New()
	for k := range 4096 {
		full.Apply(k+1, put(0, k, 1))
	}
	if x, err := delta.Onto(full, []delta.Change{change(1, 1, none, is(1))}); err != nil || x.Live() != 4097 {
		t.Error("by force", err)
	}
}

// P31.1
func TestThen(t *testing.T) {
	a := []delta.Change{change(0, 1, none, is(1)), change(0, 2, is(2), none), change(1, 5, is(5), is(6))}
	for i, c := range []struct{ b, want []delta.Change }{
		{nil, a}, {[]delta.Change{change(0, 1, is(1), none)}, a[1:]}, {[]delta.Change{change(0, 1, is(1), is(3))}, []delta.Change{change(0, 1, none, is(3)), a[1], a[2]}}, {[]delta.Change{change(0, 0, is(7), none), change(3, 1, none, is(1))}, []delta.Change{change(0, 0, is(7), none), a[0], a[1], a[2], change(3, 1, none, is(1))}},
		{[]delta.Change{change(0, 2, none, is(2)), change(1, 5, is(6), is(5))}, a[:1]},
	} {
		if got, err := delta.Then(a, c.b); err != nil || !slices.Equal(got, c.want) {
			t.Error(i, got, err)
		}
	}
	for i, b := range [][]delta.Change{{change(0, 1, none, is(1))}, {change(0, 2, is(2), none)}, {change(1, 5, is(5), none)}, {change(0, 1, is(1), none), change(1, 5, is(7), none)}} {
		got, err := delta.Then(a, b)
		if got != nil || !errors.Is(err, api.ErrState) {
			t.Error(i, err)
		}
	}
	if got, err := delta.Then(nil, nil); err != nil || len(got) != 0 {
		t.Error("nothing", err)
	}
	_, err := delta.Then(a, []delta.Change{change(0, 1, none, is(1)), change(9, 1, none, is(1))})
	fails(t, "form first", err, api.ErrForm)
}

func some(r *rand.Rand) *store.Store {
	s := store.New()
	for i := range r.Intn(15) {
		w := put(r.Intn(4), r.Intn(5), r.Intn(3))
		if r.Intn(4) == 0 {
			w = del(w.Table, w.K)
		}
		s.Apply(i+1, w)
	}
	return s
}

// P31.2
func TestStores(t *testing.T) {
	r := rand.New(rand.NewSource(31))
	for range 2000 {
		a, b, c := some(r), some(r), some(r)
		texts := [][]byte{a.Put(), b.Put()}
		d, e := delta.Between(a, b), delta.Between(b, c)
		if !delta.Good(d) {
			t.Fatal("good", d)
		}
		x, err := delta.Onto(a, d)
		if err != nil || !same(x, b) || len(delta.Between(x, b)) != 0 {
			t.Fatal("onto", err)
		}
		y, err := delta.Onto(x, delta.Back(d))
		if err != nil || !same(y, a) {
			t.Fatal("back", err)
		}
		all, err := delta.Then(d, e)
		if err != nil || !slices.Equal(all, delta.Between(a, c)) {
			t.Fatal("then", all, err)
		}
		text, err := delta.Encode(d)
		if err != nil {
			t.Fatal(err)
		}
		if z, err := delta.Decode(text); err != nil || !slices.Equal(z, d) {
			t.Fatal("bytes", err)
		}
		q := bytes.Clone(text)
		q[r.Intn(len(q))] ^= 1 << r.Intn(8)
		if z, err := delta.Decode(q); err == nil {
			if again, err := delta.Encode(z); err != nil || !bytes.Equal(again, q) {
				t.Fatal("another text", q)
			}
		}
		if !bytes.Equal(texts[0], a.Put()) || !bytes.Equal(texts[1], b.Put()) {
			t.Fatal("changed")
		}
	}
}

// P31.1
func TestBytes(t *testing.T) {
	b, err := delta.Encode([]delta.Change{change(0, 1, none, is(-1)), change(3, -1, is(300), none)})
	if err != nil || !bytes.Equal(b, []byte{2, 0, 2, 0, 1, 1, 3, 1, 1, 0xd8, 4, 0, 68}) {
		t.Error(b, err)
	}
	var huge, wrap wire.Writer
	huge.Count(math.MaxUint64)
	wrap.Count(1)
	wrap.Count(math.MaxUint64)
	wrap.Num(1)
	wrap.Flag(false)
	wrap.Flag(true)
	wrap.Num(1)
	wrap.Byte(68)
	for i, b := range [][]byte{nil, {0}, {68}, {0, 67}, {0, 68, 0}, {1, 68}, {1, 0, 2, 0, 0, 68}, {1, 0, 2, 1, 2, 1, 2, 68}, {1, 4, 2, 0, 1, 2, 68}, {1, 0, 2, 2, 1, 2, 68}, {2, 0, 2, 0, 1, 2, 68}, {2, 0, 2, 0, 1, 2, 0, 2, 0, 1, 4, 68}, {0x80, 0, 68}, huge.Out(), append(huge.Out(), 68), wrap.Out()} {
		if d, err := delta.Decode(b); d != nil || !errors.Is(err, api.ErrForm) {
			t.Error(i, err)
		}
	}
	if d, err := delta.Decode([]byte{0, 68}); err != nil || len(d) != 0 {
		t.Error(err)
	}
}

// P31.3
func TestNothingKept(t *testing.T) {
	a := []delta.Change{change(0, 1, none, is(1)), change(0, 2, is(2), none), change(9, 9, none, none)}
	kept := slices.Clone(a)
	x, _ := delta.Then(a[:1], nil)
	y := delta.Back(a[:1])
	x[0], y[0] = delta.Change{}, delta.Change{}
	_ = append(x, delta.Change{})
	s, _ := delta.Onto(of(put(0, 2, 2)), a[:2])
	b, _ := delta.Encode(a[:2])
	d, _ := delta.Decode(b)
	clear(b)
	if !slices.Equal(a, kept) || !slices.Equal(d, a[:2]) || s.Live() != 1 {
		t.Error("kept, or changed")
	}
}
