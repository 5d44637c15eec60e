package sweep_test

import (
	"bytes"
	"errors"
	"math"
	"math/rand"
	"testing"

	"sluiceway/api"
	"sluiceway/store"
	"sluiceway/sweep"
)

func put(table, k, v int) api.Write { return api.Write{Key: api.Key{Table: table, K: k}, V: v} }
func del(table, k int) api.Write    { return api.Write{Key: api.Key{Table: table, K: k}, Dead: true} }

// told puts a transaction, and tells the sweep ahead.
func told(t *testing.T, s *store.Store, x *sweep.Sweep, seq int, list ...api.Write) {
	t.Helper()
	x.Before(list...)
	if err := s.Apply(seq, list...); err != nil {
		t.Fatal(err)
	}
}

func text(t *testing.T, x *sweep.Sweep, want []byte) {
	t.Helper()
	if b, err := x.Text(); err != nil || !bytes.Equal(b, want) {
		t.Errorf("%v, not %v: %v", b, want, err)
	}
}

// P18.1
func TestNil(t *testing.T) {
	var x *sweep.Sweep
	x.Before(put(0, 1, 1))
	if b, err := x.Text(); b != nil || !errors.Is(err, api.ErrState) || !x.Done() || !x.Step(1) || !x.Step(0) {
		t.Error("nil", err)
	}
	x = sweep.Begin(nil)
	if x.Done() {
		t.Error("done too early")
	}
	x.Before(put(0, 1, 1))
	if b, err := x.Text(); b != nil || !errors.Is(err, api.ErrState) {
		t.Error(err)
	}
	if x.Step(0) || x.Step(-1) || x.Step(math.MinInt) || x.Step(1) || !x.Step(1) || !x.Done() || !x.Step(-1) {
		t.Error("steps of a nil store's")
	}
	text(t, x, []byte{0, 83})
}

// P18.1
func TestSteps(t *testing.T) {
	s := store.New()
	s.Apply(1, put(0, 1, 1), put(0, 2, 2), put(1, -5, 3), put(3, math.MaxInt, 4), del(0, 0))
	want := s.Put()
	for n := 1; n < 8; n++ {
		x := sweep.Begin(s)
		steps := 1
		for !x.Step(n) {
			steps++
			if x.Done() {
				t.Error("done")
			}
			if _, err := x.Text(); !errors.Is(err, api.ErrState) {
				t.Error(err)
			}
		}
		if steps != 4/n+1 {
			t.Error(n, steps)
		}
		text(t, x, want)
	}
	x := sweep.Begin(s)
	if !x.Step(math.MaxInt) {
		t.Error("all")
	}
	text(t, x, want)
	told(t, s, x, 2, del(0, 1))
	text(t, x, want)
}

// P18.1
func TestExample(t *testing.T) {
	s := store.New()
	s.Apply(1, put(2, 7, 70))
	want := s.Put()
	x := sweep.Begin(s)
	told(t, s, x, 2, del(2, 7))
	if x.Step(1) || !x.Step(1) {
		t.Error("two steps")
	}
	text(t, x, want)
}

// P18.1: a note counts as a key, also one that says that there was none; what lies ahead of the cursor isn't noted.
func TestNotesCount(t *testing.T) {
	s := store.New()
	s.Apply(1, put(0, 5, 50), put(0, 9, 90))
	want := s.Put()
	x := sweep.Begin(s)
	if x.Step(1) {
		t.Fatal("5")
	}
	told(t, s, x, 2, put(0, 5, 51), put(0, 6, 60), del(0, 9), put(0, math.MinInt, 1), put(3, math.MaxInt, 7))
	told(t, s, x, 3, put(0, 6, 61), put(0, 9, 91))
	for i := range 3 {
		if x.Step(1) {
			t.Fatal("6, 9 and the last one", i)
		}
	}
	told(t, s, x, 4, put(0, 9, 92), put(3, math.MaxInt, 8), put(3, math.MaxInt-1, 8))
	if !x.Step(1) {
		t.Fatal("nothing is left")
	}
	text(t, x, want)
}

// P18.2, P18.3
func TestWhateverIsPut(t *testing.T) {
	for seed := range int64(300) {
		r := rand.New(rand.NewSource(seed))
		s := store.New()
		seq := 0
		random := func() []api.Write {
			var list []api.Write
			for range r.Intn(4) {
				k := r.Intn(12) - 4
				if r.Intn(15) == 0 {
					k = []int{math.MaxInt, math.MinInt}[r.Intn(2)]
				}
				if r.Intn(3) == 0 {
					list = append(list, del(r.Intn(4), k))
				} else {
					list = append(list, put(r.Intn(4), k, r.Intn(100)))
				}
			}
			return list
		}
		for range r.Intn(20) {
			seq++
			s.Apply(seq, random()...)
		}
		want := s.Put()
		x := sweep.Begin(s)
		for !x.Done() {
			if r.Intn(2) == 0 {
				seq++
				told(t, s, x, seq, random()...)
			} else {
				before := s.Put()
				x.Step(r.Intn(4))
				if !bytes.Equal(before, s.Put()) {
					t.Fatal("the store was changed")
				}
			}
			if r.Intn(10) == 0 {
				s.Purge()
			}
		}
		text(t, x, want)
		seq++
		told(t, s, x, seq, random()...)
		text(t, x, want)
	}
}

// P18.2: a store of more than 4096 cells has a text, too.
func TestMany(t *testing.T) {
	s := store.New()
	for k := range 4200 {
		s.Force(k+1, put(k%4, k, k))
	}
	want := s.Put()
	x := sweep.Begin(s)
	for !x.Step(1000) {
	}
	text(t, x, want)
}

// P18.3
func TestAnswersAreNew(t *testing.T) {
	s := store.New()
	s.Apply(1, put(0, 1, 1))
	x := sweep.Begin(s)
	list := []api.Write{put(0, 9, 9), put(0, 1, 5), put(0, 0, 0)}
	x.Before(list[:2]...)
	if list[0] != put(0, 9, 9) || list[1] != put(0, 1, 5) || list[2] != put(0, 0, 0) {
		t.Error("changed")
	}
	clear(list)
	x.Step(9)
	b, _ := x.Text()
	clear(b)
	text(t, x, s.Put())
}
