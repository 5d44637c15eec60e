package slab_test

import (
	"bytes"
	"errors"
	"math"
	"math/rand"
	"testing"

	"sluiceway/api"
	"sluiceway/slab"
)

func text(n int) []byte {
	b := make([]byte, n)
	for i := range b {
		b[i] = byte(i*5 + 1)
	}
	return b
}

func sealed(t *testing.T, stamp, kind int, data []byte) api.Sector {
	t.Helper()
	s, err := slab.Seal(slab.Slab{Stamp: stamp, Kind: kind, Data: data})
	if err != nil {
		t.Fatal(err)
	}
	return s
}

// P4.1
func TestLayout(t *testing.T) {
	s := sealed(t, 0x060504030201, 9, []byte{0xaa, 0xbb})
	w := api.Sector{1, 2, 3, 4, 5, 6, 9, 2, 0xaa, 0xbb}
	copy(w[58:], []byte{1, 2, 3, 4, 5, 6})
	if s != w {
		t.Error(s)
	}
	s = sealed(t, 1, 255, text(50))
	w = api.Sector{1, 0, 0, 0, 0, 0, 255, 50}
	copy(w[8:58], text(50))
	w[58] = 1
	if s != w {
		t.Error(s)
	}
}

// P4.1
func TestSealRefuses(t *testing.T) {
	for _, c := range []struct {
		stamp, kind, n int
		err            error
	}{
		{0, 1, 0, api.ErrRange}, {-1, 1, 0, api.ErrRange}, {1 << 48, 1, 0, api.ErrRange}, {math.MinInt, 1, 0, api.ErrRange},
		{1, 0, 0, api.ErrRange}, {1, 256, 0, api.ErrRange}, {1, -1, 0, api.ErrRange}, {0, 1, 51, api.ErrRange}, {1, 256, 51, api.ErrRange},
		{1, 1, 51, api.ErrForm}, {1, 1, 300, api.ErrForm}, {1<<48 - 1, 255, 50, nil}, {1, 1, 0, nil},
	} {
		s, err := slab.Seal(slab.Slab{Stamp: c.stamp, Kind: c.kind, Data: text(c.n)})
		if !errors.Is(err, c.err) || (err == nil) != (c.err == nil) {
			t.Error(c, err)
		}
		if err != nil && s != (api.Sector{}) {
			t.Error("not zero", c)
		}
	}
}

// P4.1
func TestOpenRefuses(t *testing.T) {
	good := sealed(t, 0x0102030405, 7, text(10))
	bad := func(what string, s api.Sector) {
		t.Helper()
		x, err := slab.Open(s)
		if !errors.Is(err, api.ErrCorrupt) || x.Stamp != 0 || x.Kind != 0 || len(x.Data) != 0 {
			t.Error(what, x, err)
		}
		if b, ok := slab.Is(s, 0x0102030405, 7); ok || len(b) != 0 {
			t.Error(what, "Is")
		}
	}
	bad("noughts", api.Sector{})
	for i := range 6 {
		s := good
		s[i] ^= 1
		bad("stamp ahead", s)
		s = good
		s[58+i] ^= 0x80
		bad("stamp behind", s)
	}
	s := good
	s[6] = 0
	bad("kind", s)
	for n := 51; n < 256; n++ {
		s = good
		s[7] = byte(n)
		bad("many", s)
	}
	for i := 18; i < 58; i++ {
		s = good
		s[i] = 1
		bad("no noughts", s)
	}
	s = good
	s[7] = 9
	bad("data behind its end", s)
	s = api.Sector{}
	s[6] = 1
	bad("stamp 0", s)
}

// P4.1
func TestIs(t *testing.T) {
	s := sealed(t, 5, 6, text(3))
	if b, ok := slab.Is(s, 5, 6); !ok || !bytes.Equal(b, text(3)) {
		t.Error("is")
	}
	for _, x := range [][2]int{{4, 6}, {5, 5}, {6, 5}, {5 + 1<<48, 6}, {5, 6 + 256}, {-5, 6}} {
		if b, ok := slab.Is(s, x[0], x[1]); ok || b != nil {
			t.Error(x)
		}
	}
	if b, ok := slab.Is(sealed(t, 5, 6, nil), 5, 6); !ok || len(b) != 0 {
		t.Error("no data")
	}
}

// P4.1
func TestNeedAndParts(t *testing.T) {
	for n, w := range map[int]int{0: 0, -1: 0, math.MinInt: 0, 1: 1, 49: 1, 50: 1, 51: 2, 100: 2, 101: 3, math.MaxInt: math.MaxInt/50 + 1} {
		if slab.Need(n) != w {
			t.Error(n, slab.Need(n))
		}
	}
	for n := range 260 {
		b, k := text(n), 0
		var all []byte
		for i, p := range slab.Parts(b) {
			if i != k || len(p) > 50 || len(p) == 0 || len(p) < 50 && i != slab.Need(n)-1 {
				t.Error(n, i)
			}
			k++
			all = append(all, p...)
		}
		if k != slab.Need(n) || !bytes.Equal(all, b) {
			t.Error("parts", n)
		}
	}
	k := 0
	for i := range slab.Parts(text(500)) {
		k++
		if i == 3 {
			break
		}
	}
	if k != 4 {
		t.Error("left", k)
	}
}

// P4.2
func TestThereAndBack(t *testing.T) {
	r := rand.New(rand.NewSource(1))
	for range 3000 {
		x := slab.Slab{Stamp: 1 + r.Intn(1<<48-1)>>r.Intn(48), Kind: 1 + r.Intn(255), Data: make([]byte, r.Intn(51))}
		x.Stamp = max(x.Stamp, 1)
		r.Read(x.Data)
		s := sealed(t, x.Stamp, x.Kind, x.Data)
		y, err := slab.Open(s)
		if err != nil || y.Stamp != x.Stamp || y.Kind != x.Kind || !bytes.Equal(y.Data, x.Data) {
			t.Fatal(x, y, err)
		}
		s[r.Intn(64)] = byte(r.Intn(3))
		if y, err = slab.Open(s); err == nil && sealed(t, y.Stamp, y.Kind, y.Data) != s {
			t.Fatal("another sector", s)
		}
	}
}

// P4.3
func TestTorn(t *testing.T) {
	r := rand.New(rand.NewSource(2))
	stamps := []int{1, 2, 255, 256, 257, 1 << 16, 1<<32 + 1, 2<<32 + 1, 1 << 47, 1<<48 - 1, 0x010101010101, 0x010101010102, 0x020101010101}
	for _, old := range append(stamps, 0) {
		for _, young := range stamps {
			if old == young {
				continue
			}
			a := api.Sector{}
			if old > 0 {
				a = sealed(t, old, 1+r.Intn(4), text(r.Intn(51)))
			}
			b := sealed(t, young, 1+r.Intn(4), text(r.Intn(51)))
			for tear := range 65 {
				s := a
				copy(s[:tear], b[:tear])
				if _, err := slab.Open(s); err == nil && s != a && s != b {
					t.Fatal(old, young, tear)
				}
			}
		}
	}
}

// P4.4
func TestNothingKept(t *testing.T) {
	b := text(120)
	parts := slab.Parts(b[:110])
	clear(b)
	for range 2 {
		var all []byte
		for _, p := range parts {
			all = append(all, p...)
			clear(p)
			_ = append(p, 77, 77)
		}
		if !bytes.Equal(all, text(110)) {
			t.Error("parts are kept, or share")
		}
	}
	d := text(60)
	s := sealed(t, 3, 3, d[:20])
	x, _ := slab.Open(s)
	y, _ := slab.Open(s)
	clear(x.Data)
	if !bytes.Equal(y.Data, text(20)) || !bytes.Equal(d, text(60)) {
		t.Error("open shares")
	}
}
