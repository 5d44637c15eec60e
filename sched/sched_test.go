package sched_test

import (
	"errors"
	"math"
	"math/rand"
	"slices"
	"testing"

	"sluiceway/api"
	"sluiceway/sched"
)

func made(t *testing.T, leans [][]int, idle []bool, workers int) *sched.Plan {
	t.Helper()
	p, err := sched.New(leans, idle, workers)
	if err != nil || p == nil {
		t.Fatal(err)
	}
	return p
}

// P21.1
func TestNewRefuses(t *testing.T) {
	for i, c := range []struct {
		leans   [][]int
		idle    []bool
		workers int
		err     error
	}{
		{[][]int{{0}}, []bool{false}, 1, api.ErrForm}, {[][]int{nil, {-1}}, []bool{false, false}, 1, api.ErrForm}, {[][]int{nil}, nil, 1, api.ErrForm}, {nil, []bool{true}, 1, api.ErrForm}, {[][]int{nil}, []bool{true, true}, 1, api.ErrForm},
		{[][]int{{0}}, []bool{false}, 0, api.ErrForm}, {nil, nil, 0, api.ErrRange}, {nil, nil, 65, api.ErrRange}, {nil, nil, -1, api.ErrRange}, {nil, nil, math.MaxInt, api.ErrRange},
	} {
		if p, err := sched.New(c.leans, c.idle, c.workers); p != nil || !errors.Is(err, c.err) {
			t.Error(i, err)
		}
	}
}

// P21.1
func TestNil(t *testing.T) {
	var p *sched.Plan
	for w := -1; w < 3; w++ {
		if e, err := p.Pick(w); e != (sched.Event{}) || !errors.Is(err, api.ErrEnd) || p.Has(w) != -1 {
			t.Error(w, err)
		}
	}
	if !p.Done() || p.Picks() != 0 || p.Left() != 0 || len(p.Ready()) != 0 {
		t.Error("nil")
	}
	p = made(t, nil, nil, 64)
	if _, err := p.Pick(63); !errors.Is(err, api.ErrEnd) || !p.Done() || p.Left() != 0 {
		t.Error("nothing", err)
	}
	if _, err := p.Pick(64); !errors.Is(err, api.ErrRange) {
		t.Error(err)
	}
}

// P21.1
func TestExample(t *testing.T) {
	p := made(t, [][]int{nil, {0}}, []bool{false, false}, 2)
	if !slices.Equal(p.Ready(), []int{0}) || p.Left() != 2 || p.Done() || p.Has(0) != -1 {
		t.Error("beginning")
	}
	for i, c := range []struct {
		w    int
		want sched.Event
		has  [2]int
	}{
		{0, sched.Event{Kind: sched.Took, Task: 0, Worker: 0}, [2]int{0, -1}},
		{1, sched.Event{Kind: sched.Ran, Task: 0, Worker: 0}, [2]int{0, -1}},
		{1, sched.Event{Kind: sched.Ended, Task: 0, Worker: 0}, [2]int{-1, -1}},
		{1, sched.Event{Kind: sched.Took, Task: 1, Worker: 1}, [2]int{-1, 1}},
		{1, sched.Event{Kind: sched.Ran, Task: 1, Worker: 1}, [2]int{-1, 1}},
		{0, sched.Event{Kind: sched.Ended, Task: 1, Worker: 1}, [2]int{-1, -1}},
	} {
		e, err := p.Pick(c.w)
		if err != nil || e != c.want || p.Has(0) != c.has[0] || p.Has(1) != c.has[1] || p.Picks() != i+1 {
			t.Error(i, e, err)
		}
	}
	if e, err := p.Pick(0); e != (sched.Event{}) || !errors.Is(err, api.ErrEnd) || p.Picks() != 6 || !p.Done() || p.Left() != 0 {
		t.Error("end", err)
	}
	for _, w := range []int{-1, 2, math.MinInt, math.MaxInt} {
		if e, err := p.Pick(w); e != (sched.Event{}) || !errors.Is(err, api.ErrRange) || p.Has(w) != -1 {
			t.Error(w, err)
		}
	}
}

// P21.1: idle ones count as ended, and nobody waits for them.
func TestIdle(t *testing.T) {
	p := made(t, [][]int{nil, {0}, {0, 1}, {1}}, []bool{true, false, true, false}, 3)
	if p.Left() != 2 || !slices.Equal(p.Ready(), []int{1}) {
		t.Error(p.Left(), p.Ready())
	}
	if e, _ := p.Pick(2); e != (sched.Event{Kind: sched.Took, Task: 1, Worker: 2}) || len(p.Ready()) != 0 {
		t.Error(e)
	}
	p = made(t, [][]int{nil, {0}}, []bool{true, true}, 1)
	if !p.Done() || p.Left() != 0 || len(p.Ready()) != 0 {
		t.Error("all idle")
	}
}

// model is a plan by the chapter's words.
type model struct {
	leans [][]int
	kind  []int
	owner []int
	many  int
}

func (m *model) ready(i int) bool {
	if m.kind[i] != 0 {
		return false
	}
	for _, j := range m.leans[i] {
		if m.kind[j] != sched.Ended {
			return false
		}
	}
	return true
}

func (m *model) pick(w int) (sched.Event, bool) {
	business := -1
	for i := range m.kind {
		if m.owner[i] == w {
			business = i
		}
	}
	if business < 0 {
		for i := range m.kind {
			if m.ready(i) {
				m.kind[i], m.owner[i] = sched.Took, w
				return sched.Event{Kind: sched.Took, Task: i, Worker: w}, true
			}
		}
		for i := range m.kind {
			if m.owner[i] >= 0 {
				business = i
				break
			}
		}
	}
	if business < 0 {
		return sched.Event{}, false
	}
	m.kind[business]++
	e := sched.Event{Kind: m.kind[business], Task: business, Worker: m.owner[business]}
	if e.Kind == sched.Ended {
		m.owner[business] = -1
	}
	return e, true
}

// P21.1, P21.2
func TestLikeTheModel(t *testing.T) {
	for seed := range int64(500) {
		r := rand.New(rand.NewSource(seed))
		n, workers := r.Intn(12), 1+r.Intn(5)
		m := &model{leans: make([][]int, n), kind: make([]int, n), owner: make([]int, n)}
		idle := make([]bool, n)
		busy := 0
		for i := range n {
			m.owner[i] = -1
			for j := range i {
				if r.Intn(4) == 0 {
					m.leans[i] = append(m.leans[i], j)
				}
			}
			if idle[i] = r.Intn(4) == 0; idle[i] {
				m.kind[i] = sched.Ended
			} else {
				busy++
			}
		}
		p := made(t, m.leans, idle, workers)
		counts := map[sched.Event]int{}
		picks := 0
		for !p.Done() {
			w := r.Intn(workers)
			if seed%5 == 0 {
				w = 0
			}
			want, ok := m.pick(w)
			e, err := p.Pick(w)
			if !ok || err != nil || e != want {
				t.Fatal(seed, e, want, err)
			}
			picks++
			counts[sched.Event{Kind: e.Kind, Task: e.Task}]++
			if e.Kind == sched.Took {
				for _, j := range m.leans[e.Task] {
					if !idle[j] && counts[sched.Event{Kind: sched.Ended, Task: j}] != 1 {
						t.Fatal("ahead of its time")
					}
				}
			}
			var ready []int
			left := 0
			for i := range n {
				if m.ready(i) {
					ready = append(ready, i)
				}
				if m.kind[i] != sched.Ended {
					left++
				}
			}
			if !slices.Equal(p.Ready(), ready) || p.Left() != left || p.Picks() != picks {
				t.Fatal("asked", seed)
			}
			for w := range workers {
				if p.Has(w) != slices.Index(m.owner, w) {
					t.Fatal("has", seed)
				}
			}
		}
		if picks != 3*busy || len(counts) != 3*busy {
			t.Fatal("three for each", picks, busy)
		}
		if _, err := p.Pick(0); !errors.Is(err, api.ErrEnd) {
			t.Fatal(err)
		}
	}
}

// P21.3
func TestNothingKept(t *testing.T) {
	leans, idle := [][]int{nil, {0}, nil}, []bool{false, false, false}
	p := made(t, leans, idle, 2)
	leans[1][0], leans[2], idle[0] = 99, []int{0, 1}, true
	ready := p.Ready()
	if !slices.Equal(ready, []int{0, 2}) {
		t.Error(ready)
	}
	ready[0] = 7
	p.Pick(0)
	if p.Has(0) != 0 || !slices.Equal(p.Ready(), []int{2}) || p.Left() != 3 {
		t.Error("kept")
	}
}
