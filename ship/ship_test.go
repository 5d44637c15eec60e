package ship_test

import (
	"bytes"
	"errors"
	"hash/crc32"
	"math"
	"math/rand"
	"slices"
	"testing"

	"sluiceway/api"
	"sluiceway/dev"
	"sluiceway/engine"
	"sluiceway/prog"
	"sluiceway/record"
	"sluiceway/ship"
	"sluiceway/store"
	"sluiceway/wire"
)

func set(a, n int) api.Code { return api.Code{Op: api.OpSet, A: a, N: n} }
func of(c ...api.Code) api.Program {
	return api.Program{Fuel: 50, Code: c}
}
func more(k int) api.Program {
	return of(set(1, k), api.Code{Op: api.OpGet, A: 2, B: 1}, set(3, 1), api.Code{Op: api.OpAdd, A: 2, B: 2, C: 3}, api.Code{Op: api.OpPut, A: 2, B: 1})
}
func put(k, v int) api.Program {
	return of(set(1, k), set(2, v), api.Code{Op: api.OpPut, A: 2, B: 1})
}
func del(k int) api.Program { return of(set(1, k), api.Code{Op: api.OpDel, B: 1}) }

func value(seq, k, v int) record.Record {
	return record.Record{Seq: seq, Value: true, Writes: []api.Write{{Key: api.Key{K: k}, V: v}}}
}

func text(seq int, keys ...int) []byte {
	s := store.New()
	for _, k := range keys {
		s.Apply(seq, api.Write{Key: api.Key{K: k}, V: k})
	}
	return s.Put()
}

func same(a, b ship.Parcel) bool {
	return a.Base == b.Base && bytes.Equal(a.Text, b.Text) && slices.EqualFunc(a.Records, b.Records, func(x, y record.Record) bool {
		return x.Seq == y.Seq && x.Value == y.Value && slices.Equal(x.Writes, y.Writes) && prog.Same(x.Program, y.Program)
	})
}

func is(t *testing.T, what string, got, want error) {
	t.Helper()
	if !errors.Is(got, want) || (got == nil) != (want == nil) {
		t.Errorf("%s: %v, not %v", what, got, want)
	}
}

func replica(t *testing.T, workers int) *ship.Replica {
	t.Helper()
	r, err := ship.New(workers)
	if err != nil || r == nil {
		t.Fatal(err)
	}
	return r
}

func formatted(t *testing.T, streams int, sizes ...int) *dev.Set {
	t.Helper()
	s, err := dev.New(sizes...)
	if err != nil {
		t.Fatal(err)
	}
	if err := engine.Format(s, streams); err != nil {
		t.Fatal(err)
	}
	return s
}

// P26.1
func TestGood(t *testing.T) {
	top := 1<<48 - 1
	for i, p := range []ship.Parcel{
		{Text: text(1)}, {Base: 1, Text: text(1, 5)}, {Base: 9, Text: text(4, 1, 2), Records: []record.Record{value(10, 1, 1), {Seq: 11, Program: more(1)}}}, {Base: top, Text: text(top, 1)}, {Base: top - 1, Text: text(1), Records: []record.Record{value(top, 1, 1)}},
	} {
		b, err := ship.Encode(p)
		if !ship.Good(p) || err != nil {
			t.Error("good", i, err)
		}
		if q, err := ship.Decode(b); err != nil || !same(p, q) {
			t.Error("back", i, err)
		}
	}
	for i, p := range []ship.Parcel{
		{}, {Text: []byte{0}}, {Base: -1, Text: text(1)}, {Base: top + 1, Text: text(1)}, {Base: math.MinInt, Text: text(1)}, {Base: 3, Text: text(4, 1)}, {Base: 3, Text: append(text(3, 1), 0)},
		{Text: text(1), Records: []record.Record{value(2, 1, 1)}}, {Text: text(1), Records: []record.Record{value(1, 1, 1), value(1, 1, 1)}}, {Text: text(1), Records: []record.Record{value(1, 1, 1), value(3, 1, 1)}}, {Text: text(1), Records: []record.Record{{Seq: 1}}}, {Base: top, Text: text(1), Records: []record.Record{value(top+1, 1, 1)}},
	} {
		b, err := ship.Encode(p)
		if ship.Good(p) || b != nil || !errors.Is(err, api.ErrForm) {
			t.Error("not good", i, err)
		}
		is(t, "take", replica(t, 1).Take(p, nil), api.ErrForm)
	}
}

func summed(b []byte) []byte {
	s := crc32.ChecksumIEEE(b)
	return append(slices.Clone(b), byte(s), byte(s>>8), byte(s>>16), byte(s>>24))
}

// P26.1
func TestBytes(t *testing.T) {
	b, err := ship.Encode(ship.Parcel{Base: 1, Text: text(1, 5), Records: []record.Record{{Seq: 2, Value: true}}})
	one, _ := record.Encode(record.Record{Seq: 2, Value: true})
	want := append([]byte{1, 6, 1, 0, 10, 10, 1, 83, 1, 7}, one...)
	if err != nil || !bytes.Equal(b, summed(want)) {
		t.Error(b, err)
	}
	var huge, wrap wire.Writer
	huge.Count(0)
	huge.Bytes([]byte{0, 83})
	huge.Count(math.MaxUint64)
	wrap.Count(math.MaxUint64)
	wrap.Bytes([]byte{0, 83})
	wrap.Count(0)
	for i, b := range [][]byte{
		nil, {0}, {0, 0, 0, 0}, {0, 2, 0, 83, 0, 0, 0, 0, 0}, summed(nil), summed([]byte{0, 2, 0, 83}), summed([]byte{0, 2, 0, 83, 1}), summed([]byte{0, 2, 0, 83, 0, 0}), summed([]byte{0, 2, 0, 82, 0}), summed([]byte{0x80, 0, 2, 0, 83, 0}),
		summed(huge.Out()), summed(wrap.Out()), summed(append([]byte{0, 6, 1, 0, 10, 10, 1, 83, 1, 7}, one...)), summed(append([]byte{1, 6, 1, 0, 10, 10, 1, 83, 2, 7}, one...)), summed(append([]byte{1, 6, 1, 0, 10, 10, 1, 83, 1, 6}, one[:6]...)), summed(want)[:len(want)+3], append(summed(want), 0),
	} {
		if p, err := ship.Decode(b); !errors.Is(err, api.ErrCorrupt) || !same(p, ship.Parcel{}) {
			t.Error(i, p, err)
		}
	}
	if p, err := ship.Decode(summed([]byte{0, 2, 0, 83, 0})); err != nil || p.Base != 0 || len(p.Records) != 0 {
		t.Error(p, err)
	}
	good := summed(want)
	for i := range good {
		c := bytes.Clone(good)
		c[i] ^= 0x10
		if _, err := ship.Decode(c); !errors.Is(err, api.ErrCorrupt) {
			t.Error("changed", i, err)
		}
	}
}

// P26.1
func TestNewAndNil(t *testing.T) {
	for _, n := range []int{0, -1, 65, math.MaxInt} {
		if r, err := ship.New(n); r != nil || !errors.Is(err, api.ErrRange) {
			t.Error(n, err)
		}
	}
	replica(t, 64)
	var r *ship.Replica
	is(t, "take", r.Take(ship.Parcel{}, nil), api.ErrState)
	if _, ok := r.Get(api.Key{}); ok || r.At() != 0 || r.Text() != nil {
		t.Error("nil")
	}
	r = replica(t, 1)
	if r.At() != 0 || !bytes.Equal(r.Text(), []byte{0, 83}) {
		t.Error("new")
	}
}

// P26.1
func TestOf(t *testing.T) {
	p, err := ship.Of(nil)
	is(t, "nil", err, api.ErrRange)
	if !same(p, ship.Parcel{}) {
		t.Error(p)
	}
	blank, _ := dev.New(9, 9)
	_, err = ship.Of(blank)
	is(t, "blank", err, api.ErrCorrupt)
	blank.Arm(0)
	blank.Flush(0)
	_, err = ship.Of(blank)
	is(t, "down", err, api.ErrDown)
	s := formatted(t, 1, 40, 40)
	p, err = ship.Of(s)
	if err != nil || !same(p, ship.Parcel{Text: []byte{0, 83}}) {
		t.Error(p, err)
	}
	r := replica(t, 1)
	is(t, "take", r.Take(p, nil), nil)
	if r.At() != 0 {
		t.Error("follows up to 0")
	}
	e, err := engine.Open(s, engine.Config{Workers: 1, Policy: api.Policy{PerWrite: 1}}, nil)
	if err != nil {
		t.Fatal(err)
	}
	e.Submit(put(1, 5))
	e.Begin()
	e.Submit(put(2, 6))
	e.Step(9)
	e.Submit(more(1))
	p, err = ship.Of(s)
	if err != nil || !same(p, ship.Parcel{Base: 1, Text: text1(1, 1, 5), Records: []record.Record{{Seq: 2, Program: put(2, 6)}, {Seq: 3, Program: more(1)}}}) || !ship.Good(p) {
		t.Error(p, err)
	}
	is(t, "take", r.Take(p, []int{0, 9, -1}), nil)
	if v, ok := r.Get(api.Key{K: 1}); v != 6 || !ok || r.At() != 3 || !bytes.Equal(r.Text(), e.Text()) {
		t.Error("follows", v, r.At())
	}
}

func text1(seq, k, v int) []byte {
	s := store.New()
	s.Apply(seq, api.Write{Key: api.Key{K: k}, V: v})
	return s.Put()
}

// P26.1, P26.2
func TestTake(t *testing.T) {
	r := replica(t, 2)
	is(t, "take", r.Take(ship.Parcel{Text: text(1), Records: []record.Record{value(1, 1, 1), value(2, 2, 2), {Seq: 3, Program: more(1)}}}, nil), nil)
	is(t, "some are followed", r.Take(ship.Parcel{Base: 1, Text: text(1, 99), Records: []record.Record{value(2, 2, 7), {Seq: 3, Program: more(1)}, {Seq: 4, Program: more(1)}}}, nil), nil)
	if v, _ := r.Get(api.Key{K: 1}); v != 3 || r.At() != 4 {
		t.Error(v, r.At())
	}
	if v, _ := r.Get(api.Key{K: 2}); v != 2 {
		t.Error("done again", v)
	}
	if _, ok := r.Get(api.Key{K: 99}); ok {
		t.Error("its base isn't above")
	}
	want := r.Text()
	for i, p := range []ship.Parcel{{Text: text(1)}, {Base: 4, Text: text(4, 8)}, {Base: 2, Text: text(2, 8), Records: []record.Record{value(3, 5, 5)}}, {Text: text(1), Records: []record.Record{value(1, 7, 7), value(2, 7, 7), value(3, 7, 7), value(4, 7, 7)}}} {
		is(t, "older", r.Take(p, nil), nil)
		if r.At() != 4 || !bytes.Equal(r.Text(), want) {
			t.Error("changed", i)
		}
	}
	abort := record.Record{Seq: 11, Program: of(api.Code{Op: api.OpAbort, N: api.IsSame})}
	for _, p := range []ship.Parcel{{Base: 10, Text: text(9, 8), Records: []record.Record{abort}}, {Base: 3, Text: text(1), Records: []record.Record{value(4, 1, 1), value(5, 1, 1), {Seq: 6, Program: abort.Program}}}} {
		is(t, "broken", r.Take(p, []int{1, 1, 1, 1}), api.ErrCorrupt)
		if r.At() != 4 || !bytes.Equal(r.Text(), want) {
			t.Error("it is as it was")
		}
	}
	is(t, "base above", r.Take(ship.Parcel{Base: 10, Text: text(9, 8), Records: []record.Record{value(11, 9, 9)}}, nil), nil)
	if _, ok := r.Get(api.Key{K: 1}); ok || r.At() != 11 {
		t.Error("another store")
	}
	is(t, "broken behind what is followed", r.Take(ship.Parcel{Base: 10, Text: text(9, 8), Records: []record.Record{abort}}, nil), nil)
	dead := record.Record{Seq: 12, Program: del(8)}
	is(t, "take", r.Take(ship.Parcel{Base: 11, Text: text(1), Records: []record.Record{dead}}, nil), nil)
	if _, ok := r.Get(api.Key{K: 8}); ok || !bytes.Equal(r.Text(), text1(11, 9, 9)) {
		t.Error("dead")
	}
}

// P26.2
func TestFollows(t *testing.T) {
	for seed := range int64(120) {
		r := rand.New(rand.NewSource(seed))
		s := formatted(t, 2, 60, 40, 40)
		follower, late := replica(t, 1+r.Intn(4)), replica(t, 1)
		texts := map[int][]byte{0: {0, 83}}
		var old []ship.Parcel
		for range 3 {
			e, err := engine.Open(s, engine.Config{Workers: 1 + r.Intn(3), Policy: api.Policy{PerCode: 1, PerWrite: 10 + r.Intn(10), Place: r.Intn(3)}}, nil)
			if err != nil {
				t.Fatal(err)
			}
			texts[e.State().Last] = e.Text()
			for range 40 {
				switch r.Intn(9) {
				case 0:
					e.Sync()
				case 1:
					e.Begin()
				case 2:
					e.Step(2)
				case 3:
					p, err := ship.Of(s)
					if err != nil || !ship.Good(p) {
						t.Fatal(err)
					}
					old = append(old, p)
					b, _ := ship.Encode(p)
					if p, err = ship.Decode(b); err != nil {
						t.Fatal(err)
					}
					is(t, "take", follower.Take(p, []int{1, 0, 2, 2, 1}), nil)
					if at := follower.At(); at != p.Base+len(p.Records) || !bytes.Equal(follower.Text(), texts[at]) {
						t.Fatal(seed, "another store", at)
					}
					x := old[r.Intn(len(old))]
					is(t, "older", follower.Take(x, nil), nil)
					if at := follower.At(); at != p.Base+len(p.Records) || !bytes.Equal(follower.Text(), texts[at]) {
						t.Fatal(seed, "an older one changes", at)
					}
				default:
					program := []api.Program{put(r.Intn(6), r.Intn(100)), more(r.Intn(6)), del(r.Intn(6))}[r.Intn(3)]
					if x, err := e.Submit(program); err == nil {
						texts[x.Seq] = e.Text()
					}
				}
			}
			e.Sync()
			s.Crash()
			p, _ := ship.Of(s)
			is(t, "late", late.Take(p, nil), nil)
			if !bytes.Equal(late.Text(), texts[late.At()]) || late.At() != e.State().Last {
				t.Fatal(seed, "late")
			}
		}
	}
}

// P26.3
func TestNothingKept(t *testing.T) {
	p := ship.Parcel{Base: 1, Text: text(1, 5), Records: []record.Record{value(2, 1, 1), {Seq: 3, Program: more(1)}}}
	b, _ := ship.Encode(p)
	r := replica(t, 1)
	is(t, "take", r.Take(p, nil), nil)
	c := bytes.Clone(b)
	q, _ := ship.Decode(c)
	clear(c)
	if d, err := ship.Encode(q); err != nil || !bytes.Equal(b, d) {
		t.Error("decode keeps", err)
	}
	want := r.Text()
	clear(p.Text)
	p.Records[0].Writes[0].V = 9
	p.Records[1].Program.Code[0] = set(1, 8)
	x := r.Text()
	clear(x)
	if !bytes.Equal(r.Text(), want) {
		t.Error("the replica keeps")
	}
}

// P6
func TestAnyBytes(t *testing.T) {
	s := formatted(t, 1, 12, 12)
	e, _ := engine.Open(s, engine.Config{Workers: 1, Policy: api.Policy{PerWrite: 1}}, nil)
	for k := range 6 {
		e.Submit(put(k, k))
	}
	e.Sync()
	for seed := range int64(800) {
		r := rand.New(rand.NewSource(seed))
		c := s.Copy()
		for range 1 + r.Intn(3) {
			d := r.Intn(2)
			i := r.Intn(12)
			x := c.Sure(d, i)
			x[r.Intn(64)] ^= byte(r.Intn(256))
			c.Write(d, i, x)
		}
		if p, err := ship.Of(c); err == nil && !ship.Good(p) || err != nil && !errors.Is(err, api.ErrCorrupt) {
			t.Fatal(err)
		}
	}
}
