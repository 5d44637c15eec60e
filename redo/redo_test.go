package redo_test

import (
	"bytes"
	"errors"
	"math"
	"math/rand"
	"testing"

	"sluiceway/api"
	"sluiceway/elim"
	"sluiceway/exec"
	"sluiceway/foot"
	"sluiceway/record"
	"sluiceway/redo"
	"sluiceway/sched"
	"sluiceway/store"
)

func key(k int) api.Key        { return api.Key{K: k} }
func put(k, v int) api.Write   { return api.Write{Key: key(k), V: v} }
func set(a, n int) api.Code    { return api.Code{Op: api.OpSet, A: a, N: n} }
func get(a, b int) api.Code    { return api.Code{Op: api.OpGet, A: a, B: b} }
func write(b, a int) api.Code  { return api.Code{Op: api.OpPut, A: a, B: b} }
func add(a, b, c int) api.Code { return api.Code{Op: api.OpAdd, A: a, B: b, C: c} }

func value(seq int, w ...api.Write) record.Record {
	return record.Record{Seq: seq, Value: true, Writes: w}
}

// broken is a command that gives up, and touches what is told.
func broken(seq int, f api.Foot) record.Record {
	return record.Record{Seq: seq, Program: api.Program{Fuel: 5, Code: []api.Code{{Op: api.OpAbort, N: api.IsSame}}}, Foot: f}
}

func made(t *testing.T, s *store.Store, base int, list []record.Record, workers int) *redo.Redo {
	t.Helper()
	r, err := redo.New(s, base, list, workers)
	if err != nil || r == nil {
		t.Fatal(err)
	}
	return r
}

func is(t *testing.T, what string, got, want error) {
	t.Helper()
	if !errors.Is(got, want) || (got == nil) != (want == nil) {
		t.Errorf("%s: %v, not %v", what, got, want)
	}
}

// P22.1
func TestNewRefuses(t *testing.T) {
	s := store.New()
	for i, c := range []struct {
		s       *store.Store
		base    int
		list    []record.Record
		workers int
		err     error
	}{
		{nil, 0, nil, 1, api.ErrState}, {nil, 0, []record.Record{value(9)}, 0, api.ErrState},
		{s, 0, []record.Record{value(2)}, 1, api.ErrForm}, {s, 0, []record.Record{value(1), value(3)}, 1, api.ErrForm}, {s, 0, []record.Record{value(1), value(1)}, 1, api.ErrForm}, {s, 5, []record.Record{value(5)}, 1, api.ErrForm},
		{s, -1, []record.Record{value(0)}, 1, api.ErrForm}, {s, 0, []record.Record{{Seq: 1}}, 0, api.ErrForm}, {s, math.MaxInt, []record.Record{value(math.MinInt)}, 1, api.ErrForm},
		{s, 0, nil, 0, api.ErrRange}, {s, 0, []record.Record{value(1)}, 65, api.ErrRange}, {s, 0, nil, -1, api.ErrRange},
	} {
		if r, err := redo.New(c.s, c.base, c.list, c.workers); r != nil || !errors.Is(err, c.err) {
			t.Error(i, err)
		}
	}
	r := made(t, s, -77, nil, 64)
	if !r.Done() || r.Left() != 0 || r.Run([]int{0, 5}) != nil {
		t.Error("nothing to do")
	}
}

// P22.1
func TestNil(t *testing.T) {
	var r *redo.Redo
	e, err := r.Pick(0)
	is(t, "pick", err, api.ErrEnd)
	is(t, "run", r.Run([]int{1}), nil)
	if e != (sched.Event{}) || !r.Done() || r.Picks() != 0 || r.Left() != 0 || r.Store() != nil {
		t.Error("nil")
	}
	x, err := redo.Straight(nil, nil)
	is(t, "straight", err, api.ErrState)
	if x != nil {
		t.Error("straight")
	}
}

// P22.1
func TestExample(t *testing.T) {
	r := made(t, store.New(), 4, []record.Record{value(5, put(1, 1)), value(6, put(1, 2))}, 2)
	if r.Left() != 1 || r.Done() || r.Picks() != 0 {
		t.Error("beginning")
	}
	for i, c := range []struct {
		w    int
		want sched.Event
	}{{1, sched.Event{Kind: sched.Took, Task: 1, Worker: 1}}, {0, sched.Event{Kind: sched.Ran, Task: 1, Worker: 1}}, {0, sched.Event{Kind: sched.Ended, Task: 1, Worker: 1}}} {
		if _, ok := r.Store().Get(key(1)); ok != (i == 2) {
			t.Error("written when it is run", i)
		}
		if e, err := r.Pick(c.w); err != nil || e != c.want || r.Picks() != i+1 {
			t.Error(i, e, err)
		}
	}
	_, err := r.Pick(0)
	is(t, "end", err, api.ErrEnd)
	_, err = r.Pick(2)
	is(t, "no worker", err, api.ErrRange)
	if c, _ := r.Store().Cell(key(1)); c != (api.Cell{V: 2, Seq: 6}) || !r.Done() || r.Left() != 0 {
		t.Error(c)
	}
}

// P22.1
func TestBroken(t *testing.T) {
	list := []record.Record{value(1, put(1, 1)), broken(2, api.Foot{Reads: []api.Key{key(1)}}), value(3, put(2, 2))}
	r := made(t, store.New(), 0, list, 3)
	for i, w := range []int{0, 0, 0, 1} {
		if _, err := r.Pick(w); err != nil {
			t.Fatal(i, err)
		}
	}
	e, err := r.Pick(1)
	is(t, "it is now", err, api.ErrCorrupt)
	if e != (sched.Event{}) || r.Picks() != 5 || r.Done() || r.Left() != 2 {
		t.Error("counts, too", r.Picks(), r.Left())
	}
	_, err = r.Pick(9)
	is(t, "it was", err, api.ErrCorrupt)
	is(t, "run", r.Run(nil), api.ErrCorrupt)
	is(t, "run", r.Run([]int{-1, 9}), api.ErrCorrupt)
	if r.Picks() != 5 {
		t.Error("picks")
	}
	for _, picks := range [][]int{nil, {2, 2, 2, 2, 2, 2, 2, 2, 2, 2, 2}, {0, 1, 2, 0, 1, 2}} {
		is(t, "run", made(t, store.New(), 0, list, 3).Run(picks), api.ErrCorrupt)
	}
	last := []record.Record{value(1), broken(2, api.Foot{})}
	r = made(t, store.New(), 0, last, 1)
	is(t, "the last one", r.Run([]int{0, 0, 0, 0}), api.ErrCorrupt)
	x, err := redo.Straight(store.New(), list)
	is(t, "straight", err, api.ErrCorrupt)
	if x != nil {
		t.Error("straight")
	}
	_, err = redo.Straight(store.New(), []record.Record{{Seq: 5}})
	is(t, "straight of none", err, api.ErrCorrupt)
	_, err = redo.Straight(store.New(), []record.Record{value(0)})
	is(t, "straight of none", err, api.ErrCorrupt)
}

// P22.1: records of another store's, that run out of numbers here.
func TestStraight(t *testing.T) {
	s := store.New()
	s.Apply(3, put(1, math.MaxInt), put(2, 1))
	p := api.Program{Fuel: 9, Code: []api.Code{set(1, 1), get(2, 1), add(2, 2, 1), write(1, 2)}}
	command := record.Record{Seq: 9, Program: p}
	_, err := redo.Straight(s, []record.Record{command})
	is(t, "over", err, api.ErrCorrupt)
	x, err := redo.Straight(s, []record.Record{value(7, put(1, 5)), command, value(2, put(1, 0), put(2, 8)), value(9, put(3, 3))})
	if err != nil {
		t.Fatal(err)
	}
	for k, w := range map[int]api.Cell{1: {V: 6, Seq: 9}, 2: {V: 1, Seq: 3}, 3: {V: 3, Seq: 9}} {
		if c, _ := x.Cell(key(k)); c != w {
			t.Error(k, c)
		}
	}
	if v, _ := s.Get(key(1)); v != math.MaxInt {
		t.Error("changed")
	}
	for k := range 4096 {
		s.Force(10, put(k, k))
	}
	if x, err := redo.Straight(s, []record.Record{value(11, put(-1, 1))}); err != nil || x.Live() != 4097 {
		t.Error("by force", err)
	}
	r := made(t, s, 10, []record.Record{value(11, put(-1, 1))}, 1)
	if err := r.Run(nil); err != nil || r.Store().Live() != 4097 {
		t.Error("by force", err)
	}
}

func random(r *rand.Rand) api.Program {
	p := api.Program{Fuel: 100}
	for range 2 + r.Intn(6) {
		a, b, c := 1+r.Intn(3), 1+r.Intn(3), 1+r.Intn(3)
		switch r.Intn(9) {
		case 0, 1:
			p.Code = append(p.Code, set(a, r.Intn(6)))
		case 2:
			p.Code = append(p.Code, get(a, b))
		case 3:
			p.Code = append(p.Code, add(a, b, c))
		case 4:
			p.Code = append(p.Code, api.Code{Op: api.OpSum, A: a, B: b, C: c, N: 1 + r.Intn(3)})
		case 5:
			p.Code = append(p.Code, api.Code{Op: api.OpDel, B: b})
		case 6:
			p.Code = append(p.Code, api.Code{Op: api.OpHas, A: a, B: b})
		default:
			p.Code = append(p.Code, write(b, a))
		}
	}
	return p
}

// left is the records that programs leave, one behind the other, over a store.
func left(t *testing.T, r *rand.Rand, s *store.Store, base, many int) []record.Record {
	t.Helper()
	now := s.Copy()
	var list []record.Record
	for len(list) < many {
		p := random(r)
		x, err := exec.Run(now, p)
		if err != nil {
			continue
		}
		seq := base + 1 + len(list)
		list = append(list, record.Of(seq, p, x, r.Intn(2) == 0))
		if err := now.Apply(seq, x.Writes...); err != nil {
			t.Fatal(err)
		}
	}
	straight, err := redo.Straight(s, list)
	if err != nil || !bytes.Equal(straight.Put(), now.Put()) {
		t.Fatal("straight", err)
	}
	return list
}

// P22.2
func TestWhoeverWorks(t *testing.T) {
	for seed := range int64(400) {
		r := rand.New(rand.NewSource(seed))
		s := store.New()
		for k := range 6 {
			if r.Intn(2) == 0 {
				s.Apply(k+1, put(k, r.Intn(9)))
			}
		}
		s.Apply(10)
		before := s.Put()
		list := left(t, r, s, 10, r.Intn(14))
		straight, err := redo.Straight(s, list)
		if err != nil {
			t.Fatal(err)
		}
		busy := 0
		for _, idle := range elim.Idle(list) {
			if !idle {
				busy++
			}
		}
		for range 4 {
			workers := 1 + r.Intn(6)
			x := made(t, s, 10, list, workers)
			picks := make([]int, r.Intn(40))
			for i := range picks {
				picks[i] = r.Intn(workers+2) - 1
			}
			for range r.Intn(10) {
				x.Pick(r.Intn(workers))
			}
			if err := x.Run(picks); err != nil || !x.Done() || x.Left() != 0 || x.Picks() != 3*busy {
				t.Fatal(seed, err, x.Picks(), busy)
			}
			if !bytes.Equal(x.Store().Put(), straight.Put()) {
				t.Fatal(seed, "another store")
			}
		}
		if !bytes.Equal(before, s.Put()) {
			t.Fatal("the store was changed")
		}
	}
}

// P22.3
func TestNothingKept(t *testing.T) {
	s := store.New()
	list := []record.Record{value(1, put(1, 1)), {Seq: 2, Program: api.Program{Fuel: 9, Code: []api.Code{set(1, 7), write(1, 1)}}, Foot: foot.Join(api.Foot{Writes: []api.Key{key(7)}})}}
	r := made(t, s, 0, list, 1)
	list[0].Writes[0] = put(8, 8)
	list[1].Program.Code[0] = set(1, 6)
	list[0] = record.Record{}
	s.Apply(1, put(5, 5))
	x := r.Store()
	x.Apply(1, put(6, 6))
	if err := r.Run(nil); err != nil {
		t.Fatal(err)
	}
	got := r.Store()
	if got.Live() != 2 {
		t.Error(got.Live())
	}
	for k, v := range map[int]int{1: 1, 7: 7} {
		if n, ok := got.Get(key(k)); !ok || n != v {
			t.Error(k, n)
		}
	}
}
