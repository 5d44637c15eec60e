package image_test

import (
	"bytes"
	"errors"
	"math"
	"math/rand"
	"testing"

	"sluiceway/api"
	"sluiceway/dev"
	"sluiceway/image"
	"sluiceway/slab"
)

func text(n, salt int) []byte {
	b := make([]byte, n)
	for i := range b {
		b[i] = byte(i*5 + salt)
	}
	return b
}

func set(t *testing.T, sizes ...int) *dev.Set {
	t.Helper()
	s, err := dev.New(sizes...)
	if err != nil {
		t.Fatal(err)
	}
	return s
}

func is(t *testing.T, what string, got, want error) {
	t.Helper()
	if !errors.Is(got, want) || (got == nil) != (want == nil) {
		t.Errorf("%s: %v, not %v", what, got, want)
	}
}

// P16.1
func TestAreaAndFits(t *testing.T) {
	for size, w := range map[int]int{1: 0, 2: 0, 3: 0, 4: 1, 5: 1, 6: 2, 9: 3, 10: 4, 4096: 2047} {
		s := set(t, size, 4096)
		if image.Area(s) != w {
			t.Error(size, image.Area(s))
		}
		for n := 1; n < 500; n++ {
			if image.Fits(s, n) != (n <= w*50) {
				t.Error(size, n)
			}
		}
		if image.Fits(s, -1) || image.Fits(s, math.MinInt) || image.Fits(s, math.MaxInt) {
			t.Error("fits")
		}
	}
	if image.Area(nil) != 0 || image.Fits(nil, 1) || image.Fits(nil, -1) {
		t.Error("nil")
	}
}

// P16.1
func TestRefused(t *testing.T) {
	s := set(t, 9, 100)
	long := text(151, 1)
	for _, c := range [][2]int{{0, 0}, {-1, 0}, {1 << 34, 0}, {1, -1}, {1, 2}, {math.MaxInt, 1}, {1, math.MinInt}} {
		is(t, "save", image.Save(s, c[0], c[1], long), api.ErrRange)
		_, err := image.Load(s, c[0], c[1], 1)
		is(t, "load", err, api.ErrRange)
	}
	is(t, "nil", image.Save(nil, 1, 0, nil), api.ErrRange)
	_, err := image.Load(nil, 1, 0, 0)
	is(t, "nil", err, api.ErrRange)
	_, err = image.Load(s, 1, 0, -1)
	is(t, "below 0", err, api.ErrRange)
	is(t, "full", image.Save(s, 1, 0, long), api.ErrFull)
	if s.Steps() != 0 {
		t.Error("steps")
	}
	for _, n := range []int{151, math.MaxInt, 1} {
		b, err := image.Load(s, 1, 0, n)
		if b != nil || !errors.Is(err, api.ErrCorrupt) {
			t.Error(n, err)
		}
	}
	s.Arm(0)
	is(t, "goes", image.Save(s, 1, 0, nil), api.ErrDown)
	is(t, "gone", image.Save(s, 1, 1, text(9, 1)), api.ErrDown)
	is(t, "full first", image.Save(s, 1, 1, long), api.ErrFull)
	_, err = image.Load(s, 1, 0, 0)
	is(t, "gone", err, api.ErrDown)
	_, err = image.Load(s, 1, 0, 999)
	is(t, "gone", err, api.ErrDown)
	_, err = image.Load(s, 0, 0, 999)
	is(t, "range first", err, api.ErrRange)
	s = set(t, 9)
	s.Arm(2)
	is(t, "goes within", image.Save(s, 1, 0, text(150, 1)), api.ErrDown)
}

// P16.1
func TestLayout(t *testing.T) {
	s := set(t, 9, 1)
	is(t, "save", image.Save(s, 3, 0, text(150, 1)), nil)
	is(t, "save", image.Save(s, 1<<34-1, 1, text(60, 2)), nil)
	sealed := func(stamp int, b []byte) api.Sector {
		x, err := slab.Seal(slab.Slab{Stamp: stamp, Kind: 4, Data: b})
		if err != nil {
			t.Fatal(err)
		}
		return x
	}
	top := (1<<34 - 1) * 8192
	want := []api.Sector{{}, {}, sealed(3*8192+1, text(150, 1)[:50]), sealed(3*8192+2, text(150, 1)[50:100]), sealed(3*8192+3, text(150, 1)[100:]), sealed(top+1, text(60, 2)[:50]), sealed(top+2, text(60, 2)[50:]), {}, {}}
	for i, w := range want {
		if s.Sure(0, i) != w {
			t.Error("sector", i)
		}
	}
	if s.Steps() != 7 || s.Waiting(0) != 0 {
		t.Error("steps", s.Steps())
	}
}

// P16.1
func TestLoad(t *testing.T) {
	for _, n := range []int{0, 1, 49, 50, 51, 100, 101, 149, 150} {
		for area := range 2 {
			s := set(t, 8)
			is(t, "save", image.Save(s, 7, area, text(n, 1)), nil)
			if b, err := image.Load(s, 7, area, n); err != nil || !bytes.Equal(b, text(n, 1)) {
				t.Error(n, err)
			}
			for _, c := range [][3]int{{8, area, n}, {6, area, n}, {7, 1 - area, n}, {7, area, n + 1}, {7, area, n - 1}} {
				if c[2] < 1 || c[2] < n && c[2]%50 == 0 {
					// Whole slabs ahead of the last one are an image, too.
					continue
				}
				if b, err := image.Load(s, c[0], c[1], c[2]); b != nil || !errors.Is(err, api.ErrCorrupt) {
					t.Error("another one", c, err)
				}
			}
		}
	}
	s := set(t, 8)
	image.Save(s, 7, 0, text(120, 1))
	for i := range 3 {
		c := s.Copy()
		x := c.Sure(0, 2+i)
		bad, _ := slab.Open(x)
		bad.Kind = 5
		y, _ := slab.Seal(bad)
		c.Write(0, 2+i, y)
		if _, err := image.Load(c, 7, 0, 120); !errors.Is(err, api.ErrCorrupt) {
			t.Error("kind", i, err)
		}
		bad.Kind, bad.Data = 4, bad.Data[1:]
		y, _ = slab.Seal(bad)
		c.Write(0, 2+i, y)
		if _, err := image.Load(c, 7, 0, 120); !errors.Is(err, api.ErrCorrupt) {
			t.Error("many", i, err)
		}
		c.Write(0, 2+i, x)
		if b, err := image.Load(c, 7, 0, 120); err != nil || !bytes.Equal(b, text(120, 1)) {
			t.Error("what waits is read", i, err)
		}
	}
}

// P16.2
func TestCrashes(t *testing.T) {
	for seed := range int64(200) {
		r := rand.New(rand.NewSource(seed))
		s := set(t, 4+r.Intn(9))
		most := image.Area(s)*50 + 1
		gen, area, want := 1, 0, text(r.Intn(most), 3)
		is(t, "save", image.Save(s, gen, area, want), nil)
		for range 10 {
			next := text(r.Intn(most), r.Intn(200))
			s.Arm(r.Intn(12))
			err := image.Save(s, gen+1, 1-area, next)
			var keep []dev.Keep
			for n := range s.Waiting(0) {
				keep = append(keep, dev.Keep{N: n, Tear: r.Intn(100)})
			}
			s.Crash(keep...)
			if b, loadErr := image.Load(s, gen, area, len(want)); loadErr != nil || !bytes.Equal(b, want) {
				t.Fatal(seed, "the other area", loadErr)
			}
			if err == nil {
				gen, area, want = gen+1, 1-area, next
			}
			if b, loadErr := image.Load(s, gen, area, len(want)); loadErr != nil || !bytes.Equal(b, want) {
				t.Fatal(seed, "saved", loadErr)
			}
		}
	}
}

// P16.3
func TestNothingKept(t *testing.T) {
	s := set(t, 8)
	b := text(100, 1)
	image.Save(s, 1, 0, b[:70])
	if !bytes.Equal(b, text(100, 1)) {
		t.Error("changed")
	}
	clear(b)
	x, _ := image.Load(s, 1, 0, 70)
	clear(x)
	if y, _ := image.Load(s, 1, 0, 70); !bytes.Equal(y, text(70, 1)) {
		t.Error("kept")
	}
}
