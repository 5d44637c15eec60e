package dump_test

import (
	"bytes"
	"errors"
	"math"
	"math/rand"
	"slices"
	"testing"

	"sluiceway/api"
	"sluiceway/dev"
	"sluiceway/dump"
	"sluiceway/engine"
	"sluiceway/image"
	"sluiceway/multi"
	"sluiceway/record"
	"sluiceway/slab"
	"sluiceway/slot"
	"sluiceway/store"
	"sluiceway/stream"
)

func devices(t *testing.T, sizes ...int) *dev.Set {
	t.Helper()
	s, err := dev.New(sizes...)
	if err != nil {
		t.Fatal(err)
	}
	return s
}

func formatted(t *testing.T, streams int, sizes ...int) *dev.Set {
	t.Helper()
	s := devices(t, sizes...)
	if err := engine.Format(s, streams); err != nil {
		t.Fatal(err)
	}
	return s
}

func value(seq int, k ...int) record.Record {
	r := record.Record{Seq: seq, Value: true}
	for _, k := range k {
		r.Writes = append(r.Writes, api.Write{Key: api.Key{K: k}, V: 1})
	}
	return r
}

func command(seq int) record.Record {
	return record.Record{Seq: seq, Program: put(seq, seq)}
}

func put(k, v int) api.Program {
	return api.Program{Fuel: 50, Code: []api.Code{{Op: api.OpSet, A: 1, N: k}, {Op: api.OpSet, A: 2, N: v}, {Op: api.OpPut, A: 2, B: 1}}}
}

func same(a, b dump.Report) bool {
	return a.Gen == b.Gen && a.Epoch == b.Epoch && a.Base == b.Base && a.Area == b.Area && a.Len == b.Len && slices.Equal(a.Heads, b.Heads) &&
		a.Cells == b.Cells && a.Durable == b.Durable && a.Commands == b.Commands && a.Values == b.Values && a.Lost == b.Lost && slices.Equal(a.Streams, b.Streams)
}

func looked(t *testing.T, s *dev.Set) dump.Report {
	t.Helper()
	steps := s.Steps()
	r, err := dump.Look(s)
	if err != nil {
		t.Fatal(err)
	}
	if !dump.Sound(r) || s.Steps() != steps {
		t.Error("sound", r)
	}
	return r
}

// P25.1
func TestFormatted(t *testing.T) {
	s := formatted(t, 2, 9, 5, 5)
	r := looked(t, s)
	want := dump.Report{Manifest: slot.Manifest{Gen: 1, Epoch: 1, Len: 2, Heads: []int{0, 0}}, Streams: make([]dump.Stream, 2)}
	if !same(r, want) {
		t.Error(r)
	}
	if l := dump.Lines(r); !slices.Equal(l, []string{"gen 1 epoch 1 base 0", "cells 0 durable 0 lost 0", "commands 0 values 0", "stream 0 records 0 from 0 to 0 end 0", "stream 1 records 0 from 0 to 0 end 0"}) {
		t.Error(l)
	}
}

// install puts a manifest and its image on fresh devices.
func install(t *testing.T, m slot.Manifest, text []byte) *dev.Set {
	t.Helper()
	s := devices(t, 60, 30, 30)
	m.Len = len(text)
	if err := image.Save(s, m.Gen, m.Area, text); err != nil {
		t.Fatal(err)
	}
	if err := slot.Save(s, m); err != nil {
		t.Fatal(err)
	}
	return s
}

func like(change func(m *slot.Manifest)) slot.Manifest {
	m := slot.Manifest{Gen: 5, Epoch: 7, Base: 20, Area: 1, Heads: []int{3, 9}}
	change(&m)
	return m
}

func text(seq int) []byte {
	s := store.New()
	s.Apply(seq, api.Write{Key: api.Key{K: 1}, V: 5}, api.Write{Key: api.Key{K: 2}, V: 5})
	return s.Put()
}

// P25.1
func TestRecords(t *testing.T) {
	s := install(t, like(func(*slot.Manifest) {}), text(20))
	at := func(place int, list ...[]byte) {
		x, err := stream.New(s, place+1, 7, []int{3, 9}[place])
		if err != nil {
			t.Fatal(err)
		}
		for _, b := range list {
			if _, err := x.Append(b); err != nil {
				t.Fatal(err)
			}
		}
	}
	enc := func(r record.Record) []byte {
		b, err := record.Encode(r)
		if err != nil {
			t.Fatal(err)
		}
		return b
	}
	at(0, enc(value(19)), enc(command(21)), enc(value(22)), enc(value(25)), enc(command(26)), enc(command(26)), enc(command(28)))
	at(1, enc(command(23)), enc(command(27)), []byte{1, 2}, enc(command(29)))
	r := looked(t, s)
	want := dump.Report{Manifest: slot.Manifest{Gen: 5, Epoch: 7, Base: 20, Area: 1, Len: len(text(20)), Heads: []int{3, 9}}, Cells: 2, Durable: 23, Commands: 4, Values: 3, Lost: 3,
		Streams: []dump.Stream{{Records: 5, First: 19, Last: 26, End: 8}, {Records: 2, First: 23, Last: 27, End: 11}}}
	if !same(r, want) {
		t.Errorf("%+v", r)
	}
	if l := dump.Lines(r); !slices.Equal(l, []string{"gen 5 epoch 7 base 20", "cells 2 durable 23 lost 3", "commands 4 values 3", "stream 0 records 5 from 19 to 26 end 8", "stream 1 records 2 from 23 to 27 end 11"}) {
		t.Error(l)
	}
}

// P25.1
func TestRefused(t *testing.T) {
	plain := func(*slot.Manifest) {}
	down := formatted(t, 1, 9, 9)
	down.Arm(0)
	down.Flush(0)
	blank := devices(t, 9, 9)
	blankDown := blank.Copy()
	blankDown.Arm(0)
	blankDown.Flush(0)
	holed := install(t, like(plain), text(20))
	holed.Write(0, 2+29, api.Sector{})
	for i, c := range []struct {
		s   *dev.Set
		err error
	}{
		{nil, api.ErrRange}, {down, api.ErrDown}, {blankDown, api.ErrDown}, {blank, api.ErrCorrupt}, {holed, api.ErrCorrupt},
		{install(t, like(plain), text(21)), api.ErrCorrupt}, {install(t, like(plain), []byte{1, 2, 3}), api.ErrCorrupt}, {install(t, like(func(m *slot.Manifest) { m.Heads = []int{0, 0, 0} }), text(20)), api.ErrCorrupt}, {install(t, like(func(m *slot.Manifest) { m.Base = 1<<48 - 1 }), text(20)), api.ErrCorrupt},
	} {
		if r, err := dump.Look(c.s); !errors.Is(err, c.err) || !same(r, dump.Report{}) {
			t.Error(i, err)
		}
	}
}

// P25.1
func TestSound(t *testing.T) {
	with := func(change func(r *dump.Report)) dump.Report {
		r := dump.Report{Manifest: like(func(*slot.Manifest) {}), Durable: 21, Commands: 2, Values: 3, Streams: []dump.Stream{{Records: 5, First: 2, Last: 9, End: 4}, {End: 9}}}
		change(&r)
		return r
	}
	for i, r := range []dump.Report{
		with(func(r *dump.Report) {}), with(func(r *dump.Report) { r.Durable = 20 }), with(func(r *dump.Report) { r.Streams[0].End = 3 }), with(func(r *dump.Report) { r.Streams[0].First = 9 }), with(func(r *dump.Report) { r.Commands, r.Values = -5, 10 }),
		with(func(r *dump.Report) { r.Lost, r.Cells = -7, -9 }), with(func(r *dump.Report) {
			r.Commands, r.Values, r.Streams[0].Records, r.Streams[1].Records = math.MinInt, -2, math.MaxInt, math.MaxInt
			r.Values += math.MinInt
		}),
		with(func(r *dump.Report) { r.Streams[1].First, r.Streams[1].Last = -5, -4 }),
	} {
		if !dump.Sound(r) {
			t.Error("sound", i)
		}
	}
	for i, r := range []dump.Report{
		{}, with(func(r *dump.Report) { r.Gen = 0 }), with(func(r *dump.Report) { r.Area = 2 }), with(func(r *dump.Report) { r.Streams = r.Streams[:1] }), with(func(r *dump.Report) { r.Streams = nil }),
		with(func(r *dump.Report) { r.Durable = 19 }), with(func(r *dump.Report) { r.Values = 4 }), with(func(r *dump.Report) { r.Commands = 1 }), with(func(r *dump.Report) { r.Streams[0].Records, r.Streams[1].Records = 6, -1 }),
		with(func(r *dump.Report) { r.Streams[0].First = 10 }), with(func(r *dump.Report) { r.Streams[0].End = 2 }), with(func(r *dump.Report) { r.Streams[1].End = 8 }), with(func(r *dump.Report) { r.Streams[1].Last = -1 }),
	} {
		if dump.Sound(r) {
			t.Error("not sound", i)
		}
	}
	r := dump.Report{Manifest: slot.Manifest{Gen: -1, Epoch: math.MinInt, Base: math.MaxInt}, Cells: -2, Streams: []dump.Stream{{-1, -2, -3, -4}}}
	if l := dump.Lines(r); !slices.Equal(l, []string{"gen -1 epoch -9223372036854775808 base 9223372036854775807", "cells -2 durable 0 lost 0", "commands 0 values 0", "stream 0 records -1 from -2 to -3 end -4"}) {
		t.Error(l)
	}
}

// P25.2
func TestLikeAnEngine(t *testing.T) {
	for seed := range int64(150) {
		r := rand.New(rand.NewSource(seed))
		streams := 1 + r.Intn(4)
		s := formatted(t, streams, append([]int{60}, []int{20, 30, 25, 40}[:streams]...)...)
		for range 4 {
			e, err := engine.Open(s, engine.Config{Workers: 1 + r.Intn(3), Policy: api.Policy{PerCode: 1, PerWrite: 10 + r.Intn(10), Place: r.Intn(3)}}, nil)
			if err != nil {
				t.Fatal(err)
			}
			s.Arm(r.Intn(40))
			for !s.Down() {
				switch r.Intn(6) {
				case 0:
					e.Tick(r.Intn(streams))
				case 1:
					e.Begin()
				case 2:
					e.Step(3)
				default:
					e.Submit(put(r.Intn(9), r.Intn(1<<30)))
				}
				if e.State().ReadOnly {
					s.Arm(0)
					e.Sync()
				}
			}
			var keep []dev.Keep
			for d := range s.Many() {
				for n := range s.Waiting(d) {
					if r.Intn(4) > 0 {
						keep = append(keep, dev.Keep{Dev: d, N: n, Tear: r.Intn(2) * r.Intn(70)})
					}
				}
			}
			s.Crash(keep...)
			x := looked(t, s)
			all := 0
			for i := range x.Heads {
				list, err := stream.Scan(s, i+1, x.Epoch, x.Heads[i])
				if err != nil || len(list) < x.Streams[i].Records {
					t.Fatal(err)
				}
				all += x.Streams[i].Records
			}
			list, err := multi.Gather(s, x.Epoch, x.Heads, x.Base)
			if err != nil || x.Durable != x.Base+len(list) || all < len(list) || x.Commands+x.Values != all {
				t.Fatal(seed, x, err)
			}
			e, err = engine.Open(s.Copy(), engine.Config{Workers: 1}, nil)
			if err != nil || e.State().Last != x.Durable {
				t.Fatal(seed, "last", x.Durable, err)
			}
		}
	}
}

// P25.3
func TestAnswersAreNew(t *testing.T) {
	s := install(t, like(func(*slot.Manifest) {}), text(20))
	a := looked(t, s)
	a.Heads[0], a.Streams[0] = 99, dump.Stream{Records: 99}
	if b := looked(t, s); b.Heads[0] != 3 || b.Streams[0].Records != 0 {
		t.Error("shared")
	}
}

// opens opens whatever devices, and asks that nothing falls: they are refused, or opened; and what is told of them fits.
func opens(t *testing.T, s *dev.Set) bool {
	t.Helper()
	x, lookErr := dump.Look(s)
	if lookErr != nil && !errors.Is(lookErr, api.ErrCorrupt) {
		t.Fatal(lookErr)
	}
	if lookErr == nil && !dump.Sound(x) {
		t.Fatal("not sound", x)
	}
	e, err := engine.Open(s, engine.Config{Workers: 2}, []int{1, 0, 1})
	if err != nil {
		if e != nil || !errors.Is(err, api.ErrCorrupt) {
			t.Fatal(err)
		}
		return false
	}
	if lookErr != nil || e.State().Last != x.Durable {
		t.Fatal("opened, but not told", lookErr)
	}
	e.Submit(put(1, 1))
	e.Begin()
	e.Step(99)
	e.Sync()
	e.Read(api.Key{K: 1})
	e.Scan(api.Span{Lo: -9, Hi: 9}, 9)
	e.Text()
	return true
}

// P6
func TestAnyBytes(t *testing.T) {
	opened, refused := 0, 0
	for seed := range int64(3000) {
		r := rand.New(rand.NewSource(seed))
		s := formatted(t, 2, 12, 10, 10)
		e, err := engine.Open(s, engine.Config{Workers: 1, Policy: api.Policy{PerCode: 1, PerWrite: 10 + r.Intn(10)}}, nil)
		if err != nil {
			t.Fatal(err)
		}
		for range 8 {
			e.Submit(put(r.Intn(9), r.Intn(1<<30)))
		}
		e.Sync()
		for range 1 + r.Intn(4) {
			d := r.Intn(3)
			i := r.Intn(s.Size(d))
			x := s.Sure(d, i)
			switch r.Intn(5) {
			case 0:
				for k := range x {
					x[k] = byte(r.Intn(256))
				}
			case 1:
				x[r.Intn(64)] ^= 1 << r.Intn(8)
			case 2:
				x = s.Sure(r.Intn(3), r.Intn(12))
			default:
				y, err := slab.Open(x)
				if err != nil {
					y = slab.Slab{Stamp: []int{2<<32 + 1 + r.Intn(10), 2, 3*8192 + 1, 2*8192 + 1}[r.Intn(4)], Kind: 1 + r.Intn(4), Data: make([]byte, r.Intn(51))}
				}
				for k := range y.Data {
					if r.Intn(9) == 0 {
						y.Data[k] ^= byte(r.Intn(256)) >> r.Intn(8)
					}
				}
				if r.Intn(3) == 0 {
					y.Data = y.Data[:r.Intn(len(y.Data)+1)]
				}
				x, _ = slab.Seal(y)
			}
			s.Write(d, i, x)
			s.Flush(d)
		}
		if opens(t, s) {
			opened++
		} else {
			refused++
		}
	}
	if opened < 100 || refused < 100 {
		t.Error("one-sided", opened, refused)
	}
}

// P6: sectors of whatever manifests, images and records that are sealed well.
func TestAnySealedBytes(t *testing.T) {
	opened := 0
	for seed := range int64(1500) {
		r := rand.New(rand.NewSource(seed))
		s := devices(t, 4+r.Intn(20), 1+r.Intn(20), 1+r.Intn(20))
		m := slot.Manifest{Gen: 1 + r.Intn(9), Epoch: 1 + r.Intn(3), Base: r.Intn(4), Area: r.Intn(2), Heads: make([]int, 1+r.Intn(3))}
		if r.Intn(9) == 0 {
			m.Gen, m.Epoch, m.Base = 1<<34-1, 65535, 1<<48-2+r.Intn(2)
		}
		for i := range m.Heads {
			if m.Heads[i] = r.Intn(5); r.Intn(9) == 0 {
				m.Heads[i] = 1<<32 - 2 - r.Intn(3)
			}
		}
		x := store.New()
		for range r.Intn(4) {
			x.Apply(1+r.Intn(5), api.Write{Key: api.Key{K: r.Intn(5)}, V: math.MaxInt - r.Intn(2)})
		}
		b := x.Put()
		m.Len = len(b)
		image.Save(s, m.Gen, m.Area, b)
		slot.Save(s, m)
		seq := m.Base
		for range r.Intn(9) {
			seq++
			rec := value(seq, r.Intn(9), 10+r.Intn(9))
			if r.Intn(2) == 0 {
				// A program that reads what its foot doesn't tell.
				rec = record.Record{Seq: seq, Program: api.Program{Fuel: 1 + r.Intn(9), Code: []api.Code{{Op: api.OpSet, A: 1, N: r.Intn(5)}, {Op: api.OpGet, A: 2, B: 1}, {Op: api.OpAdd, A: 2, B: 2, C: 1}, {Op: api.OpPut, A: 2, B: 1}}}}
			}
			data, err := record.Encode(rec)
			if err != nil {
				continue
			}
			if r.Intn(20) == 0 {
				data[r.Intn(len(data))] ^= 4
			}
			if y, err := stream.New(s, 1+r.Intn(2), m.Epoch, m.Heads[0]); err == nil && len(m.Heads) == 1 {
				y.Append(data)
			} else if l, err := multi.New(s, m.Epoch, m.Heads, seq-1); err == nil {
				l.Append(rec, 0)
			}
		}
		if opens(t, s) {
			opened++
		}
	}
	if opened < 100 {
		t.Error("too few", opened)
	}
	s := formatted(t, 1, 9, 9)
	before := s.Sure(0, 1)
	if dump.Look(s); !bytes.Equal(before[:], func() []byte { x := s.Sure(0, 1); return x[:] }()) {
		t.Error("changed")
	}
}
