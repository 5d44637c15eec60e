package wire_test

import (
	"bytes"
	"encoding/binary"
	"errors"
	"math"
	"math/rand"
	"testing"

	"sluiceway/api"
	"sluiceway/wire"
)

func count(n uint64) []byte {
	var w wire.Writer
	w.Count(n)
	return w.Out()
}

func counts() []uint64 {
	out := []uint64{0, 1, 2, 3, 5, 127, 128, 129, 300, math.MaxUint64, math.MaxUint64 - 1, math.MaxInt64, 1 << 63}
	for i := range 64 {
		out = append(out, 1<<i, 1<<i-1, 1<<i+1)
	}
	return out
}

// P3.1
func TestCounts(t *testing.T) {
	if !bytes.Equal(count(300), []byte{0xac, 2}) || !bytes.Equal(count(0), []byte{0}) || !bytes.Equal(count(127), []byte{127}) {
		t.Error("examples")
	}
	for _, n := range counts() {
		b := count(n)
		if !bytes.Equal(b, binary.AppendUvarint(nil, n)) || wire.Size(n) != len(b) {
			t.Error(n, b)
		}
		r := wire.NewReader(b)
		if r.Count() != n || r.End() != nil || r.Left() != 0 {
			t.Error("back", n)
		}
	}
}

// P3.1
func TestNumbers(t *testing.T) {
	for n, c := range map[int]uint64{0: 0, -1: 1, 1: 2, -2: 3, -3: 5, math.MaxInt: math.MaxUint64 - 1, math.MinInt: math.MaxUint64, 64: 128, -64: 127} {
		var w wire.Writer
		w.Num(n)
		if !bytes.Equal(w.Out(), count(c)) {
			t.Error(n, w.Out())
		}
		r := wire.NewReader(w.Out())
		if r.Num() != n || r.End() != nil {
			t.Error("back", n)
		}
	}
}

// P3.1
func TestOthers(t *testing.T) {
	var w wire.Writer
	if len(w.Out()) != 0 {
		t.Error("zero")
	}
	w.Byte(0xfe)
	w.Flag(true)
	w.Flag(false)
	w.Bytes([]byte{9, 8})
	w.Bytes(nil)
	w.Text("ab")
	w.Text("")
	if !bytes.Equal(w.Out(), []byte{0xfe, 1, 0, 2, 9, 8, 0, 2, 'a', 'b', 0}) {
		t.Error(w.Out())
	}
	r := wire.NewReader(w.Out())
	if r.Left() != 11 || r.Byte() != 0xfe || !r.Flag() || r.Flag() || r.Left() != 8 || !bytes.Equal(r.Bytes(), []byte{9, 8}) {
		t.Error("read")
	}
	if r.End() == nil {
		t.Error("some is left")
	}
	if len(r.Bytes()) != 0 || r.Text() != "ab" || r.Text() != "" || r.End() != nil || r.Left() != 0 {
		t.Error("read on")
	}
}

// P3.1
func TestBad(t *testing.T) {
	ten := func(last byte) []byte { return append(bytes.Repeat([]byte{0xff}, 9), last) }
	for _, b := range [][]byte{nil, {0x80}, {0x80, 0}, {0xff, 0x80, 0}, {0xac}, ten(2), ten(0x81), ten(0), append(ten(0x80), 1), append(bytes.Repeat([]byte{0x80}, 9), 0)} {
		r := wire.NewReader(b)
		if r.Count() != 0 || !isBad(r) {
			t.Error("count", b)
		}
		r = wire.NewReader(b)
		if r.Num() != 0 || !isBad(r) {
			t.Error("num", b)
		}
	}
	for x := 2; x < 256; x++ {
		r := wire.NewReader([]byte{byte(x), 1, 1, 1})
		if r.Flag() || !isBad(r) {
			t.Error("flag", x)
		}
	}
	for _, b := range [][]byte{nil, {1}, {3, 1, 2}, {0x81, 0, 5}, append(ten(1), 7, 7, 7), {0x80, 1, 5, 5}} {
		r := wire.NewReader(b)
		if r.Bytes() != nil || !isBad(r) {
			t.Error("bytes", b)
		}
		r = wire.NewReader(b)
		if r.Text() != "" || !isBad(r) {
			t.Error("text", b)
		}
	}
	r := wire.NewReader(nil)
	if r.End() != nil || r.Byte() != 0 || !isBad(r) {
		t.Error("byte")
	}
	if r = wire.NewReader(nil); r.Flag() || !isBad(r) {
		t.Error("no flag")
	}
}

// isBad asks all that a bad one answers.
func isBad(r *wire.Reader) bool {
	return r.Left() == 0 && errors.Is(r.End(), api.ErrForm) && r.Byte() == 0 && r.Count() == 0 && r.Num() == 0 && !r.Flag() && len(r.Bytes()) == 0 && r.Text() == "" && r.Left() == 0 && errors.Is(r.End(), api.ErrForm)
}

// P3.1: what is bad stays bad, though there would be bytes to read.
func TestBadForEver(t *testing.T) {
	r := wire.NewReader([]byte{1, 7, 5, 1, 1, 1, 1, 1, 1})
	if r.Byte() != 1 || r.Flag() || !isBad(r) {
		t.Error("flag")
	}
	r = wire.NewReader([]byte{0x80, 0, 1, 1, 1, 1})
	if r.Count() != 0 || !isBad(r) {
		t.Error("count")
	}
	r = wire.NewReader([]byte{9, 1, 1, 1, 1})
	if len(r.Bytes()) != 0 || !isBad(r) {
		t.Error("bytes")
	}
}

// P3.1
func TestNil(t *testing.T) {
	var w *wire.Writer
	w.Count(1)
	w.Num(1)
	w.Byte(1)
	w.Flag(true)
	w.Bytes([]byte{1})
	w.Text("a")
	var r *wire.Reader
	if len(w.Out()) != 0 || !isBad(r) {
		t.Error("nil")
	}
}

type value struct {
	kind int
	n    uint64
	b    []byte
}

func (v value) put(w *wire.Writer) {
	switch v.kind {
	case 0:
		w.Count(v.n)
	case 1:
		w.Num(int(v.n))
	case 2:
		w.Byte(byte(v.n))
	case 3:
		w.Flag(v.n&1 == 1)
	case 4:
		w.Bytes(v.b)
	case 5:
		w.Text(string(v.b))
	}
}

func (v value) back(r *wire.Reader) bool {
	switch v.kind {
	case 0:
		return r.Count() == v.n
	case 1:
		return r.Num() == int(v.n)
	case 2:
		return r.Byte() == byte(v.n)
	case 3:
		return r.Flag() == (v.n&1 == 1)
	case 4:
		return bytes.Equal(r.Bytes(), v.b)
	}
	return r.Text() == string(v.b)
}

// P3.2
func TestRows(t *testing.T) {
	for seed := range int64(200) {
		rnd := rand.New(rand.NewSource(seed))
		var w wire.Writer
		var row []value
		for range rnd.Intn(30) {
			v := value{rnd.Intn(6), rnd.Uint64() >> rnd.Intn(64), make([]byte, rnd.Intn(200))}
			rnd.Read(v.b)
			row = append(row, v)
			v.put(&w)
		}
		b := w.Out()
		r := wire.NewReader(b)
		for i, v := range row {
			if !v.back(r) {
				t.Fatal(seed, i)
			}
		}
		if r.End() != nil {
			t.Fatal("end")
		}
		if len(b) > 0 {
			r = wire.NewReader(b[:len(b)-1])
			for _, v := range row {
				v.back(r)
			}
			if r.End() == nil {
				t.Fatal("cut", seed)
			}
		}
	}
}

// P3.2: whatever can be read is what would be written.
func TestOnlyOneForm(t *testing.T) {
	for x := range 1 << 16 {
		b := []byte{byte(x), byte(x >> 8)}
		r := wire.NewReader(b)
		n := r.Count()
		if r.End() == nil && !bytes.Equal(count(n), b) {
			t.Fatal(b)
		}
	}
}

// P3.3
func TestNothingKept(t *testing.T) {
	b := []byte{3, 1, 2, 3, 3, 1, 2, 3}
	r := wire.NewReader(b)
	clear(b)
	got := r.Bytes()
	if !bytes.Equal(got, []byte{1, 2, 3}) {
		t.Fatal("kept by the reader")
	}
	for i := range cap(got) {
		got[:cap(got)][i] = 9
	}
	if !bytes.Equal(r.Bytes(), []byte{1, 2, 3}) {
		t.Error("answers share")
	}
	var w wire.Writer
	c := []byte{5, 6, 7}
	w.Bytes(c[:2])
	c[0] = 0
	out := w.Out()
	if !bytes.Equal(out, []byte{2, 5, 6}) || c[2] != 7 {
		t.Error("kept by the writer")
	}
	out[0] = 99
	w.Byte(1)
	again := w.Out()
	if !bytes.Equal(again, []byte{2, 5, 6, 1}) {
		t.Error("out shares")
	}
	w.Byte(2)
	if _ = append(out, 7); !bytes.Equal(w.Out(), []byte{2, 5, 6, 1, 2}) {
		t.Error("spare room shared")
	}
}
