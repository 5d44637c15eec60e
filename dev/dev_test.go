package dev_test

import (
	"errors"
	"math"
	"math/rand"
	"testing"

	"sluiceway/api"
	"sluiceway/dev"
)

func full(b byte) api.Sector {
	var x api.Sector
	for i := range x {
		x[i] = b
	}
	return x
}

func made(t *testing.T, sizes ...int) *dev.Set {
	t.Helper()
	s, err := dev.New(sizes...)
	if err != nil || s == nil {
		t.Fatal(err)
	}
	return s
}

func want(t *testing.T, what string, got, err error) {
	t.Helper()
	if !errors.Is(got, err) || (got == nil) != (err == nil) {
		t.Errorf("%s: %v, not %v", what, got, err)
	}
}

// P2.1
func TestNew(t *testing.T) {
	for _, sizes := range [][]int{{}, {0}, {-1}, {4097}, {1, 0}, {1, 1, 1, 1, 1, 1}, {1, math.MaxInt}, {math.MinInt}} {
		if s, err := dev.New(sizes...); s != nil || !errors.Is(err, api.ErrRange) {
			t.Error(sizes, err)
		}
	}
	sizes := []int{1, 4096, 3, 2, 5}
	s := made(t, sizes...)
	for d, n := range sizes {
		if s.Size(d) != n || s.Waiting(d) != 0 {
			t.Error(d)
		}
		if x, err := s.Read(d, n-1); err != nil || x != (api.Sector{}) || s.Sure(d, n-1) != x {
			t.Error("noughts", d)
		}
	}
	if s.Many() != 5 || s.Size(5) != 0 || s.Size(-1) != 0 || s.Waiting(9) != 0 || s.Waiting(-1) != 0 || s.Steps() != 0 || s.Down() {
		t.Error("numbers")
	}
}

// P2.1
func TestNil(t *testing.T) {
	var s *dev.Set
	want(t, "write", s.Write(0, 0, full(1)), api.ErrDown)
	want(t, "flush", s.Flush(-1), api.ErrDown)
	want(t, "arm", s.Arm(-1), api.ErrDown)
	_, err := s.Read(0, 0)
	want(t, "read", err, api.ErrDown)
	s.Crash(dev.Keep{})
	if s.Many() != 0 || s.Size(0) != 0 || s.Waiting(0) != 0 || s.Steps() != 0 || !s.Down() || s.Copy() != nil || s.Sure(0, 0) != (api.Sector{}) {
		t.Error("nil")
	}
}

// P2.1
func TestRanges(t *testing.T) {
	s := made(t, 2, 3)
	for _, at := range [][2]int{{-1, 0}, {2, 0}, {0, -1}, {0, 2}, {1, 3}, {math.MaxInt, 0}, {0, math.MinInt}} {
		want(t, "write", s.Write(at[0], at[1], full(1)), api.ErrRange)
		x, err := s.Read(at[0], at[1])
		want(t, "read", err, api.ErrRange)
		if x != (api.Sector{}) || s.Sure(at[0], at[1]) != x {
			t.Error("noughts")
		}
	}
	want(t, "flush", s.Flush(2), api.ErrRange)
	want(t, "flush", s.Flush(-1), api.ErrRange)
	want(t, "arm", s.Arm(-1), api.ErrRange)
	if s.Steps() != 0 || s.Waiting(0) != 0 {
		t.Error("a refused call is no step")
	}
}

// P2.1
func TestWaitingAndSure(t *testing.T) {
	s := made(t, 3)
	want(t, "write", s.Write(0, 1, full(1)), nil)
	want(t, "write", s.Write(0, 1, full(2)), nil)
	x, _ := s.Read(0, 1)
	if x != full(2) || s.Sure(0, 1) != (api.Sector{}) || s.Waiting(0) != 2 || s.Steps() != 2 {
		t.Error("waiting")
	}
	want(t, "flush", s.Flush(0), nil)
	if s.Sure(0, 1) != full(2) || s.Waiting(0) != 0 || s.Steps() != 3 {
		t.Error("sure")
	}
}

// P2.1
func TestPower(t *testing.T) {
	s := made(t, 3, 2)
	want(t, "arm", s.Arm(2), nil)
	want(t, "write", s.Write(0, 0, full(1)), nil)
	want(t, "flush", s.Flush(1), nil)
	if s.Down() {
		t.Error("too early")
	}
	want(t, "range comes first", s.Write(0, 7, full(1)), api.ErrRange)
	want(t, "write", s.Write(0, 1, full(2)), api.ErrDown)
	if !s.Down() || s.Steps() != 2 || s.Waiting(0) != 1 || s.Size(0) != 3 || s.Many() != 2 || s.Sure(0, 0) != (api.Sector{}) {
		t.Error("gone")
	}
	want(t, "flush", s.Flush(0), api.ErrDown)
	want(t, "flush", s.Flush(5), api.ErrRange)
	want(t, "write", s.Write(9, 0, full(2)), api.ErrRange)
	_, err := s.Read(9, 9)
	want(t, "read: the power comes first", err, api.ErrDown)
	want(t, "arm", s.Arm(5), nil)
	want(t, "write", s.Write(0, 1, full(2)), api.ErrDown)
	s.Crash()
	if s.Down() || s.Waiting(0) != 0 || s.Steps() != 2 {
		t.Error("crash")
	}
	for range 9 {
		want(t, "not armed", s.Write(0, 1, full(2)), nil)
	}
	want(t, "arm", s.Arm(0), nil)
	want(t, "flush", s.Flush(0), api.ErrDown)
}

// P2.2
func TestCrashKeeps(t *testing.T) {
	s := made(t, 2, 2)
	s.Write(0, 0, full(1))
	s.Flush(0)
	s.Write(0, 0, full(2))
	s.Crash(dev.Keep{Dev: 0, N: 0, Tear: 3}, dev.Keep{Dev: 0, N: 0})
	x, _ := s.Read(0, 0)
	w := full(1)
	w[0], w[1], w[2] = 2, 2, 2
	if x != w {
		t.Error("torn", x)
	}
	for _, tear := range []int{0, -1, 64, 65, math.MaxInt, math.MinInt} {
		s.Write(0, 1, full(5))
		s.Write(1, 1, full(6))
		s.Crash(dev.Keep{Dev: 1, N: 1}, dev.Keep{Dev: 7, N: 0}, dev.Keep{Dev: 0, N: -1}, dev.Keep{Dev: 1, N: 0, Tear: tear})
		if x, _ := s.Read(1, 1); x != full(6) {
			t.Error("whole", tear)
		}
		if x, _ := s.Read(0, 1); x != (api.Sector{}) {
			t.Error("lost", tear)
		}
		s.Write(1, 1, full(0))
		s.Flush(1)
	}
	for tear := 1; tear < 64; tear++ {
		s := made(t, 1)
		s.Write(0, 0, full(1))
		s.Write(0, 0, full(2))
		s.Write(0, 0, full(3))
		s.Crash(dev.Keep{N: 2, Tear: tear}, dev.Keep{N: 0, Tear: 40})
		w := api.Sector{}
		for i := range 40 {
			w[i] = 1
		}
		for i := range tear {
			w[i] = 3
		}
		if s.Sure(0, 0) != w {
			t.Error("in order", tear)
		}
	}
}

// model is a set by the chapter's words, in the plainest way.
type model struct {
	size         []int
	sure         [][]api.Sector
	waits        [][]at
	steps, armed int
	gone         bool
}

type at struct {
	i int
	x api.Sector
}

func (m *model) step() bool {
	if m.gone || m.armed == 0 {
		m.gone = true
		return false
	}
	m.armed--
	m.steps++
	return true
}

func (m *model) crash(keep []dev.Keep) {
	for d := range m.waits {
		for n, w := range m.waits[d] {
			for _, k := range keep {
				if k.Dev == d && k.N == n {
					many := k.Tear
					if many < 1 || many > 63 {
						many = 64
					}
					copy(m.sure[d][w.i][:many], w.x[:many])
					break
				}
			}
		}
		m.waits[d] = nil
	}
	m.gone, m.armed = false, -1
}

// P2.1, P2.2, P2.3
func TestLikeTheModel(t *testing.T) {
	for seed := range int64(60) {
		r := rand.New(rand.NewSource(seed))
		s := made(t, 3, 2, 4)
		m := &model{size: []int{3, 2, 4}, armed: -1}
		for _, n := range m.size {
			m.sure = append(m.sure, make([]api.Sector, n))
			m.waits = append(m.waits, nil)
		}
		for range 150 {
			d := r.Intn(3)
			switch r.Intn(12) {
			case 0:
				if (s.Flush(d) == nil) != m.step() {
					t.Fatal("flush")
				}
				if !m.gone {
					for _, w := range m.waits[d] {
						m.sure[d][w.i] = w.x
					}
					m.waits[d] = nil
				}
			case 1:
				var keep []dev.Keep
				for range r.Intn(8) {
					keep = append(keep, dev.Keep{Dev: r.Intn(4) - 1, N: r.Intn(7) - 1, Tear: r.Intn(90) - 10})
				}
				s.Crash(keep...)
				m.crash(keep)
			case 2:
				n := r.Intn(20)
				s.Arm(n)
				m.armed = n
			case 3:
				old := s
				s = s.Copy()
				old.Crash()
				old.Write(0, 0, full(250))
				old.Flush(0)
				old.Arm(0)
				old.Flush(0)
			default:
				i, x := r.Intn(m.size[d]), full(byte(r.Intn(250)))
				if (s.Write(d, i, x) == nil) != m.step() {
					t.Fatal("write")
				}
				if !m.gone {
					m.waits[d] = append(m.waits[d], at{i, x})
				}
			}
			same(t, s, m)
		}
	}
}

func same(t *testing.T, s *dev.Set, m *model) {
	t.Helper()
	if s.Down() != m.gone || s.Steps() != m.steps {
		t.Fatal("power", s.Steps(), m.steps)
	}
	for d, n := range m.size {
		if s.Waiting(d) != len(m.waits[d]) {
			t.Fatal("waiting")
		}
		for i := range n {
			x := m.sure[d][i]
			if s.Sure(d, i) != x {
				t.Fatal("sure")
			}
			for _, w := range m.waits[d] {
				if w.i == i {
					x = w.x
				}
			}
			if got, err := s.Read(d, i); m.gone != (err != nil) || !m.gone && got != x {
				t.Fatal("read")
			}
		}
	}
}

// P2.3
func TestApart(t *testing.T) {
	s := made(t, 2, 2)
	s.Write(0, 0, full(1))
	s.Write(1, 0, full(2))
	c := s.Copy()
	s.Flush(0)
	if s.Waiting(1) != 1 || c.Waiting(0) != 1 || c.Sure(0, 0) != (api.Sector{}) || c.Steps() != 2 {
		t.Error("flush of one device")
	}
	c.Flush(1)
	c.Write(1, 1, full(9))
	if s.Waiting(1) != 1 || s.Sure(1, 0) != (api.Sector{}) {
		t.Error("copy")
	}
	s.Arm(0)
	s.Flush(0)
	if d := s.Copy(); !d.Down() || c.Down() {
		t.Error("a copy of one that is down")
	}
}

// P2.3: what waits in a copy is its own, also what comes to it later.
func TestCopiesWait(t *testing.T) {
	s := made(t, 9)
	for n := range 20 {
		s.Write(0, n%9, full(byte(n)))
		c := s.Copy()
		s.Write(0, 8, full(100))
		c.Write(0, 8, full(200))
		x, _ := s.Read(0, 8)
		y, _ := c.Read(0, 8)
		if x != full(100) || y != full(200) || s.Waiting(0) != c.Waiting(0) {
			t.Fatal("shared", n)
		}
	}
}

// P2.1
func TestOneSector(t *testing.T) {
	s := made(t, 1)
	want(t, "write", s.Write(0, 0, full(1)), nil)
	if s.Waiting(0) != 1 || s.Size(0) != 1 {
		t.Error("one waits")
	}
	want(t, "flush", s.Flush(0), nil)
	if s.Sure(0, 0) != full(1) {
		t.Error("sure")
	}
}
