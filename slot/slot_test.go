package slot_test

import (
	"errors"
	"math"
	"math/rand"
	"slices"
	"testing"

	"sluiceway/api"
	"sluiceway/dev"
	"sluiceway/slab"
	"sluiceway/slot"
	"sluiceway/wire"
)

func like(gen int) slot.Manifest {
	return slot.Manifest{Gen: gen, Epoch: 1 + gen%9, Base: gen * 3, Area: gen % 2, Len: gen * 7, Heads: []int{gen, 300}}
}

func same(a, b slot.Manifest) bool {
	return a.Gen == b.Gen && a.Epoch == b.Epoch && a.Base == b.Base && a.Area == b.Area && a.Len == b.Len && slices.Equal(a.Heads, b.Heads)
}

func set(t *testing.T, sizes ...int) *dev.Set {
	t.Helper()
	s, err := dev.New(sizes...)
	if err != nil {
		t.Fatal(err)
	}
	return s
}

func is(t *testing.T, what string, got, want error) {
	t.Helper()
	if !errors.Is(got, want) || (got == nil) != (want == nil) {
		t.Errorf("%s: %v, not %v", what, got, want)
	}
}

func manifests() (good, bad []slot.Manifest) {
	with := func(change func(m *slot.Manifest)) slot.Manifest {
		m := like(5)
		change(&m)
		return m
	}
	for f, limits := range []struct{ least, most int }{{1, 1<<34 - 1}, {1, 65535}, {0, 1<<48 - 1}, {0, 1}, {0, 1 << 20}} {
		at := func(m *slot.Manifest) *int { return []*int{&m.Gen, &m.Epoch, &m.Base, &m.Area, &m.Len}[f] }
		good = append(good, with(func(m *slot.Manifest) { *at(m) = limits.least }), with(func(m *slot.Manifest) { *at(m) = limits.most }))
		for _, n := range []int{limits.least - 1, limits.most + 1, math.MinInt, math.MaxInt} {
			bad = append(bad, with(func(m *slot.Manifest) { *at(m) = n }))
		}
	}
	for n := range 8 {
		m := with(func(m *slot.Manifest) { m.Heads = make([]int, n) })
		if n >= 1 && n <= 4 {
			good = append(good, m)
		} else {
			bad = append(bad, m)
		}
	}
	for i := range 4 {
		for n, ok := range map[int]bool{0: true, 1<<32 - 2: true, -1: false, 1<<32 - 1: false, math.MaxInt: false} {
			m := with(func(m *slot.Manifest) { m.Heads = []int{1, 2, 3, 4}; m.Heads[i] = n })
			if ok {
				good = append(good, m)
			} else {
				bad = append(bad, m)
			}
		}
	}
	return good, append(bad, slot.Manifest{})
}

// P15.1
func TestGood(t *testing.T) {
	good, bad := manifests()
	top := slot.Manifest{Gen: 1<<34 - 1, Epoch: 65535, Base: 1<<48 - 1, Area: 1, Len: 1 << 20, Heads: []int{1<<32 - 2, 1<<32 - 2, 1<<32 - 2, 1<<32 - 2}}
	for _, m := range append(good, top) {
		x, err := slot.Seal(m)
		if !slot.Good(m) || err != nil {
			t.Error("good", m, err)
		}
		if n, err := slot.Open(x); err != nil || !same(m, n) {
			t.Error("back", m, n, err)
		}
	}
	s := set(t, 4)
	for _, m := range bad {
		x, err := slot.Seal(m)
		if slot.Good(m) || !errors.Is(err, api.ErrForm) || x != (api.Sector{}) {
			t.Error("bad", m, err)
		}
		is(t, "save", slot.Save(s, m), api.ErrForm)
		is(t, "form first", slot.Save(nil, m), api.ErrForm)
	}
	if s.Steps() != 0 {
		t.Error("steps")
	}
}

// P15.1
func TestLayout(t *testing.T) {
	x, err := slot.Seal(slot.Manifest{Gen: 9, Epoch: 300, Base: 5, Area: 1, Len: 2, Heads: []int{7, 0}})
	w, _ := slab.Seal(slab.Slab{Stamp: 9, Kind: 3, Data: []byte{0xac, 2, 5, 1, 2, 2, 7, 0, 77}})
	if err != nil || x != w {
		t.Error(x, err)
	}
}

// P15.1
func TestOpenRefuses(t *testing.T) {
	data := []byte{1, 5, 1, 2, 2, 7, 0, 77}
	ask := func(what string, stamp, kind int, b []byte) {
		t.Helper()
		x, err := slab.Seal(slab.Slab{Stamp: stamp, Kind: kind, Data: b})
		if err != nil {
			t.Fatal(err)
		}
		if m, err := slot.Open(x); !errors.Is(err, api.ErrCorrupt) || !same(m, slot.Manifest{}) {
			t.Error(what, m, err)
		}
	}
	ask("kind", 9, 4, data)
	ask("gen", 1<<34, 3, data)
	ask("no end", 9, 3, data[:7])
	ask("more", 9, 3, append(slices.Clone(data), 0))
	ask("end", 9, 3, []byte{1, 5, 1, 2, 2, 7, 0, 76})
	ask("epoch", 9, 3, []byte{0, 5, 1, 2, 2, 7, 0, 77})
	ask("area", 9, 3, []byte{1, 5, 2, 2, 2, 7, 0, 77})
	ask("no heads", 9, 3, []byte{1, 5, 1, 2, 0, 77})
	ask("five heads", 9, 3, []byte{1, 5, 1, 2, 5, 7, 0, 1, 2, 3, 77})
	ask("long count", 9, 3, []byte{0x81, 0, 5, 1, 2, 2, 7, 0, 77})
	var w wire.Writer
	w.Byte(1)
	w.Count(math.MaxUint64)
	ask("base", 9, 3, append(w.Out(), 1, 2, 2, 7, 0, 77))
	var h wire.Writer
	for _, n := range []uint64{1, 5, 1, 2, math.MaxUint64} {
		h.Count(n)
	}
	ask("heads", 9, 3, append(h.Out(), 7, 0, 77))
	ask("nothing", 9, 3, nil)
	if _, err := slot.Open(api.Sector{}); !errors.Is(err, api.ErrCorrupt) {
		t.Error(err)
	}
}

// P15.1
func TestSaveAndLoad(t *testing.T) {
	s := set(t, 2, 1)
	m, err := slot.Load(s)
	is(t, "none", err, api.ErrCorrupt)
	if !same(m, slot.Manifest{}) {
		t.Error(m)
	}
	for gen := 4; gen < 9; gen++ {
		is(t, "save", slot.Save(s, like(gen)), nil)
		if m, err := slot.Load(s); err != nil || !same(m, like(gen)) {
			t.Error(m, err)
		}
		if x, _ := slot.Seal(like(gen)); s.Sure(0, gen%2) != x {
			t.Error("where it belongs, and sure", gen)
		}
	}
	slot.Save(s, like(2))
	if m, _ := slot.Load(s); m.Gen != 7 {
		t.Error("the greater generation", m)
	}
	small := set(t, 1, 9)
	is(t, "small", slot.Save(small, like(5)), api.ErrRange)
	_, err = slot.Load(small)
	is(t, "small", err, api.ErrRange)
	is(t, "nil", slot.Save(nil, like(5)), api.ErrRange)
	_, err = slot.Load(nil)
	is(t, "nil", err, api.ErrRange)
	x, _ := slot.Seal(like(7))
	y, _ := slot.Seal(like(8))
	s = set(t, 3)
	s.Write(0, 0, x)
	s.Write(0, 1, y)
	s.Write(0, 2, y)
	_, err = slot.Load(s)
	is(t, "where they don't belong", err, api.ErrCorrupt)
	s.Write(0, 1, x)
	if m, err := slot.Load(s); err != nil || !same(m, like(7)) {
		t.Error("what waits counts", m, err)
	}
	s.Arm(0)
	s.Flush(0)
	_, err = slot.Load(s)
	is(t, "down", err, api.ErrDown)
	is(t, "down", slot.Save(s, like(9)), api.ErrDown)
	s = set(t, 3)
	s.Arm(1)
	is(t, "goes", slot.Save(s, like(9)), api.ErrDown)
	small.Arm(0)
	small.Flush(0)
	is(t, "range first", slot.Save(small, like(5)), api.ErrRange)
	_, err = slot.Load(small)
	is(t, "range first", err, api.ErrRange)
}

// P15.2
func TestCrashes(t *testing.T) {
	for seed := range int64(400) {
		r := rand.New(rand.NewSource(seed))
		s := set(t, 2)
		gen := 1 + r.Intn(600)
		is(t, "first", slot.Save(s, like(gen)), nil)
		for range 12 {
			next := like(gen + 1)
			next.Base, next.Len = r.Intn(1<<48), r.Intn(1<<20)
			next.Heads = make([]int, 1+r.Intn(4))
			s.Arm(r.Intn(3))
			err := slot.Save(s, next)
			s.Crash([]dev.Keep{{N: r.Intn(2), Tear: r.Intn(66)}}...)
			m, loadErr := slot.Load(s)
			if loadErr != nil || m.Gen != gen && !same(m, next) || err == nil && m.Gen != gen+1 {
				t.Fatal(seed, m, err, loadErr)
			}
			gen = m.Gen
		}
	}
}

// P15.3
func TestNothingKept(t *testing.T) {
	s := set(t, 2)
	m := like(5)
	heads := []int{1, 2, 3}
	m.Heads = heads[:2]
	slot.Save(s, m)
	if !slices.Equal(heads, []int{1, 2, 3}) {
		t.Error("changed")
	}
	heads[0] = 99
	a, _ := slot.Load(s)
	a.Heads[1] = 98
	b, _ := slot.Load(s)
	if !slices.Equal(b.Heads, []int{1, 2}) {
		t.Error("kept", b)
	}
}
