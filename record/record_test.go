package record_test

import (
	"bytes"
	"errors"
	"hash/crc32"
	"math"
	"math/rand"
	"slices"
	"testing"

	"sluiceway/api"
	"sluiceway/exec"
	"sluiceway/foot"
	"sluiceway/prog"
	"sluiceway/record"
	"sluiceway/wire"
)

func key(t, k int) api.Key      { return api.Key{Table: t, K: k} }
func put(t, k, v int) api.Write { return api.Write{Key: key(t, k), V: v} }
func del(t, k int) api.Write    { return api.Write{Key: key(t, k), Dead: true} }

var small = api.Program{Fuel: 5, Code: []api.Code{{Op: api.OpOut, A: 1}}}

// summed is bytes and their sum behind them.
func summed(b []byte) []byte {
	s := crc32.ChecksumIEEE(b)
	return append(slices.Clone(b), byte(s), byte(s>>8), byte(s>>16), byte(s>>24))
}

func sameFoot(a, b api.Foot) bool {
	return slices.Equal(a.Reads, b.Reads) && slices.Equal(a.Spans, b.Spans) && slices.Equal(a.Writes, b.Writes)
}

func same(a, b record.Record) bool {
	return a.Seq == b.Seq && a.Value == b.Value && prog.Same(a.Program, b.Program) && sameFoot(a.Foot, b.Foot) && slices.Equal(a.Writes, b.Writes)
}

// P13.1
func TestGood(t *testing.T) {
	f := api.Foot{Reads: []api.Key{key(0, 1)}, Writes: []api.Key{key(1, 1)}}
	good := []record.Record{
		{Seq: 1, Program: small}, {Seq: 1<<48 - 1, Program: small, Foot: f}, {Seq: 1, Program: small, Writes: []api.Write{}},
		{Seq: 1, Value: true}, {Seq: 1<<48 - 1, Value: true, Writes: []api.Write{put(0, 1, 5), del(0, 2), put(3, -9, 0)}}, {Seq: 2, Value: true, Program: api.Program{Code: []api.Code{}}},
	}
	bad := []record.Record{
		{}, {Program: small}, {Seq: -1, Program: small}, {Seq: 1 << 48, Program: small}, {Seq: math.MinInt, Value: true}, {Value: true}, {Seq: 1 << 48, Value: true},
		{Seq: 1}, {Seq: 1, Program: api.Program{Fuel: 5, Code: []api.Code{{Op: 15, A: 8}}}}, {Seq: 1, Program: small, Writes: []api.Write{put(0, 1, 1)}},
		{Seq: 1, Program: small, Foot: api.Foot{Reads: []api.Key{key(0, 1), key(0, 1)}}}, {Seq: 1, Program: small, Foot: api.Foot{Writes: []api.Key{key(4, 1)}}},
		{Seq: 1, Value: true, Program: small}, {Seq: 1, Value: true, Program: api.Program{Fuel: 1}}, {Seq: 1, Value: true, Program: api.Program{Code: small.Code}},
		{Seq: 1, Value: true, Foot: f}, {Seq: 1, Value: true, Foot: api.Foot{Reads: f.Reads}}, {Seq: 1, Value: true, Foot: api.Foot{Spans: []api.Span{{Lo: 2}}}}, {Seq: 1, Value: true, Foot: api.Foot{Writes: []api.Key{key(0, 1)}}, Writes: []api.Write{put(0, 1, 1)}},
		{Seq: 1, Value: true, Writes: []api.Write{put(0, 1, 1), put(0, 1, 1)}}, {Seq: 1, Value: true, Writes: []api.Write{put(0, 2, 1), put(0, 1, 1)}}, {Seq: 1, Value: true, Writes: []api.Write{put(1, 2, 1), put(0, 3, 1)}},
		{Seq: 1, Value: true, Writes: []api.Write{put(4, 1, 1)}}, {Seq: 1, Value: true, Writes: []api.Write{put(-1, 1, 1)}}, {Seq: 1, Value: true, Writes: []api.Write{{Key: key(0, 1), V: 1, Dead: true}}},
	}
	for i, r := range good {
		b, err := record.Encode(r)
		if !record.Good(r) || err != nil {
			t.Error("good", i, err)
		}
		if x, err := record.Decode(b); err != nil || !same(x, r) {
			t.Error("back", i, err)
		}
	}
	for i, r := range bad {
		b, err := record.Encode(r)
		if record.Good(r) || !errors.Is(err, api.ErrForm) || b != nil {
			t.Error("bad", i, err)
		}
	}
}

// P13.1
func TestBytes(t *testing.T) {
	b, err := record.Encode(record.Record{Seq: 1, Value: true})
	if err != nil || !bytes.Equal(b, summed([]byte{1, 1, 0})) {
		t.Error(b, err)
	}
	b, err = record.Encode(record.Record{Seq: 300, Value: true, Writes: []api.Write{put(0, -1, 3), del(2, 5)}})
	if err != nil || !bytes.Equal(b, summed([]byte{0xac, 2, 1, 2, 0, 1, 0, 6, 2, 10, 1})) {
		t.Error(b, err)
	}
	b, err = record.Encode(record.Record{Seq: 7, Program: small, Foot: api.Foot{Reads: []api.Key{key(1, 1)}}})
	if err != nil || !bytes.Equal(b, summed([]byte{7, 0, 4, 5, 1, 15, 1, 5, 1, 1, 2, 0, 0})) {
		t.Error(b, err)
	}
}

// P13.1
func TestDecodeRefuses(t *testing.T) {
	var huge, wrap wire.Writer
	huge.Count(1)
	huge.Flag(true)
	huge.Count(math.MaxUint64)
	wrap.Count(math.MaxUint64)
	wrap.Flag(true)
	wrap.Count(0)
	for i, b := range [][]byte{
		nil, {1}, {0, 0, 0}, {0, 0, 0, 0}, {1, 1, 0, 0, 0, 0, 0}, {1, 1, 0}, summed(nil), summed([]byte{1}), summed([]byte{1, 1}), summed([]byte{0, 1, 0}), summed([]byte{1, 2, 0}), summed([]byte{1, 1, 0, 0}),
		summed([]byte{1, 1, 1}), summed([]byte{1, 1, 1, 0, 2, 2, 2}), summed([]byte{1, 1, 1, 4, 2, 0, 2}), summed([]byte{1, 1, 2, 0, 2, 0, 2, 0, 2, 0, 2}), summed([]byte{1, 1, 2, 0, 2, 1, 0, 0, 1}), summed([]byte{1, 1, 1, 0, 2, 1, 0}),
		summed([]byte{0x81, 0, 1, 0}), summed(huge.Out()), summed(wrap.Out()), summed([]byte{7, 0, 0, 0}), summed([]byte{7, 0, 4, 5, 1, 15, 1}), summed([]byte{7, 0, 4, 5, 1, 15, 8, 3, 0, 0, 0}), summed([]byte{7, 0, 4, 5, 1, 15, 1, 2, 0, 0}), summed([]byte{7, 0, 4, 5, 1, 15, 1, 3, 0, 0, 0, 0}),
		append(summed([]byte{1, 1, 0}), 0), summed([]byte{1, 1, 0})[1:],
	} {
		if r, err := record.Decode(b); !errors.Is(err, api.ErrCorrupt) || !same(r, record.Record{}) {
			t.Error(i, r, err)
		}
	}
	if r, err := record.Decode(summed([]byte{7, 0, 4, 5, 1, 15, 1, 3, 0, 0, 0})); err != nil || !same(r, record.Record{Seq: 7, Program: small}) {
		t.Error(r, err)
	}
}

func some(r *rand.Rand) record.Record {
	x := record.Record{Seq: 1 + r.Intn(1<<48-1)>>r.Intn(47)}
	if r.Intn(2) == 0 {
		x.Value = true
		k := 0
		for table := range 4 {
			for range r.Intn(4) {
				k += 1 + r.Intn(100)
				w := put(table, k-150, int(r.Uint64())>>r.Intn(64))
				if r.Intn(3) == 0 {
					w = del(table, k-150)
				}
				x.Writes = append(x.Writes, w)
			}
		}
		return x
	}
	x.Program = api.Program{Fuel: 1 + r.Intn(1000)}
	for range 1 + r.Intn(32) {
		x.Program.Code = append(x.Program.Code, api.Code{Op: api.OpSet, A: r.Intn(8), N: r.Intn(1000) - 500})
	}
	for range r.Intn(5) {
		x.Foot.Reads = append(x.Foot.Reads, key(r.Intn(4), r.Intn(9)))
		x.Foot.Writes = append(x.Foot.Writes, key(r.Intn(4), r.Intn(9)))
		x.Foot.Spans = append(x.Foot.Spans, api.Span{Table: r.Intn(4), Lo: r.Intn(9), Hi: r.Intn(30)})
	}
	x.Foot = foot.Join(x.Foot)
	return x
}

// P13.2
func TestThereAndBack(t *testing.T) {
	r := rand.New(rand.NewSource(13))
	for range 300 {
		x := some(r)
		b, err := record.Encode(x)
		if err != nil {
			t.Fatal(err, x)
		}
		y, err := record.Decode(b)
		if err != nil || !same(x, y) {
			t.Fatal(err, x, y)
		}
		for i := range b {
			c := bytes.Clone(b)
			c[i] ^= byte(1 + r.Intn(255))
			if y, err := record.Decode(c); !errors.Is(err, api.ErrCorrupt) || !same(y, record.Record{}) {
				t.Fatal("changed", i)
			}
			if i < len(b)-4 {
				c = summed(c[:len(c)-4])
				if y, err := record.Decode(c); err == nil {
					if d, err := record.Encode(y); err != nil || !bytes.Equal(c, d) {
						t.Fatal("another text", c, d)
					}
				}
			}
			if _, err := record.Decode(b[:i]); err == nil {
				t.Fatal("cut")
			}
		}
	}
}

// P13.1
func TestTouchAndOf(t *testing.T) {
	f := api.Foot{Reads: []api.Key{key(1, 2), key(0, 1)}, Spans: []api.Span{{Table: 1, Lo: 3, Hi: 4}, {Table: 1, Lo: 1, Hi: 2}}, Writes: []api.Key{key(3, 1), key(3, 1)}}
	if got := record.Touch(record.Record{Foot: f, Writes: []api.Write{put(2, 2, 2)}}); !sameFoot(got, foot.Join(f)) {
		t.Error(got)
	}
	if got := record.Touch(record.Record{Value: true, Foot: f, Writes: []api.Write{put(2, 2, 2), del(0, 2), put(2, 2, 3)}}); !sameFoot(got, api.Foot{Writes: []api.Key{key(0, 2), key(2, 2)}}) {
		t.Error(got)
	}
	x := exec.Result{Out: 5, Fuel: 6, Writes: []api.Write{put(3, 1, 5)}, Foot: foot.Join(f)}
	if got := record.Of(9, small, x, true); !same(got, record.Record{Seq: 9, Program: small, Foot: foot.Join(f)}) {
		t.Error(got)
	}
	if got := record.Of(-9, small, x, false); !same(got, record.Record{Seq: -9, Value: true, Writes: x.Writes}) {
		t.Error(got)
	}
}

// P13.3
func TestNothingKept(t *testing.T) {
	x := exec.Result{Writes: []api.Write{put(3, 1, 5)}, Foot: api.Foot{Reads: []api.Key{key(0, 1)}, Spans: []api.Span{{Hi: 3}}, Writes: []api.Key{key(3, 1)}}}
	p := api.Program{Fuel: 5, Code: []api.Code{{Op: api.OpOut, A: 1}}}
	a, b := record.Of(1, p, x, true), record.Of(1, p, x, false)
	touched := record.Touch(a)
	x.Writes[0], x.Foot.Reads[0], x.Foot.Spans[0], x.Foot.Writes[0], p.Code[0] = del(0, 0), key(9, 9), api.Span{}, key(9, 9), api.Code{}
	touched.Reads[0], touched.Spans[0], touched.Writes[0] = key(8, 8), api.Span{Lo: 9}, key(8, 8)
	if a.Program.Code[0] != small.Code[0] || a.Foot.Reads[0] != key(0, 1) || a.Foot.Spans[0] != (api.Span{Hi: 3}) || a.Foot.Writes[0] != key(3, 1) || b.Writes[0] != put(3, 1, 5) {
		t.Error("kept")
	}
	r := record.Record{Value: true, Writes: []api.Write{put(1, 2, 2), put(1, 1, 1)}}
	record.Touch(r)
	record.Encode(r)
	if r.Writes[0] != put(1, 2, 2) {
		t.Error("changed")
	}
	text := summed([]byte{1, 1, 1, 0, 2, 0, 2})
	kept := bytes.Clone(text)
	y, err := record.Decode(text)
	if err != nil || !bytes.Equal(text, kept) {
		t.Fatal(err)
	}
	clear(text)
	if y.Writes[0] != put(0, 1, 1) {
		t.Error("decode keeps")
	}
}
