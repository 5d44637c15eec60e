package prog_test

import (
	"bytes"
	"errors"
	"math"
	"math/rand"
	"testing"

	"sluiceway/api"
	"sluiceway/prog"
	"sluiceway/wire"
)

var shapes = []string{"an", "ab", "abc", "abc", "abc", "abc", "abc", "atb", "atb", "tba", "tb", "atbck", "atbck", "sbjc", "bjc", "a"}

func at(c *api.Code, letter byte) *int {
	switch letter {
	case 'a', 's':
		return &c.A
	case 'b':
		return &c.B
	case 'c':
		return &c.C
	case 't':
		return &c.T
	}
	return &c.N
}

// limits is the least and the greatest of a field of an instruction with one behind it.
var limits = map[byte][2]int{'a': {0, 7}, 'b': {0, 7}, 'c': {0, 7}, 't': {0, 3}, 'j': {0, 3}, 'k': {1, 64}, 's': {1, 1}, 'n': {math.MinInt, math.MaxInt}}

// least is an instruction whose fields are the least ones.
func least(op int) api.Code {
	c := api.Code{Op: op}
	for _, x := range []byte(shapes[op]) {
		*at(&c, x) = limits[x][0]
	}
	return c
}

var out = api.Code{Op: api.OpOut}

func fault(t *testing.T, what string, err error, place int) {
	t.Helper()
	var f *api.Fault
	if !errors.As(err, &f) || f.At != place || !errors.Is(err, api.ErrProgram) {
		t.Error(what, err)
	}
}

// P6.1
func TestShape(t *testing.T) {
	for op, w := range shapes {
		if s, ok := prog.Shape(op); !ok || s != w {
			t.Error(op, s)
		}
	}
	for _, op := range []int{-1, 16, 17, 256, math.MaxInt, math.MinInt} {
		if s, ok := prog.Shape(op); ok || s != "" {
			t.Error(op, s)
		}
	}
}

// P6.1
func TestCheckWhole(t *testing.T) {
	code := func(n int) []api.Code { return make([]api.Code, n) }
	for _, p := range []api.Program{{}, {Fuel: 1}, {Fuel: 0, Code: code(1)}, {Fuel: -1, Code: code(1)}, {Fuel: 1001, Code: code(1)}, {Fuel: 5, Code: code(33)}, {Fuel: 0, Code: []api.Code{{Op: 99}}}} {
		fault(t, "whole", prog.Check(p), -1)
		b, err := prog.Encode(p)
		fault(t, "encode", err, -1)
		if len(b) != 0 {
			t.Error("bytes")
		}
	}
	for _, p := range []api.Program{{Fuel: 1, Code: code(1)}, {Fuel: 1000, Code: code(32)}} {
		if err := prog.Check(p); err != nil {
			t.Error(err)
		}
	}
}

// P6.1
func TestCheckFields(t *testing.T) {
	for op, shape := range shapes {
		ask := func(c api.Code, good bool) {
			t.Helper()
			p := api.Program{Fuel: 9, Code: []api.Code{out, c, out}}
			err := prog.Check(p)
			if good && err != nil {
				t.Error(c, err)
			}
			if !good {
				fault(t, "field", err, 1)
			}
		}
		ask(least(op), true)
		for _, x := range []byte(shape) {
			c := least(op)
			*at(&c, x) = limits[x][1]
			ask(c, true)
			if x == 'n' {
				continue
			}
			for _, v := range []int{limits[x][1] + 1, limits[x][0] - 1, math.MinInt, math.MaxInt} {
				*at(&c, x) = v
				ask(c, false)
			}
		}
		used := map[*int]bool{}
		c := least(op)
		for _, x := range []byte(shape) {
			used[at(&c, x)] = true
		}
		for _, f := range []*int{&c.A, &c.B, &c.C, &c.T, &c.N} {
			if !used[f] {
				*f = 1
				ask(c, false)
				*f = -1
				ask(c, false)
				*f = 0
			}
		}
	}
	for _, op := range []int{-1, 16, 256, math.MinInt} {
		fault(t, "op", prog.Check(api.Program{Fuel: 1, Code: []api.Code{out, out, {Op: op}, {Op: op}}}), 2)
	}
}

// P6.1
func TestSkips(t *testing.T) {
	for n := 1; n <= 32; n++ {
		for i := range n {
			for a := 0; a <= n+1; a++ {
				p := api.Program{Fuel: 9, Code: make([]api.Code, n)}
				p.Code[i] = api.Code{Op: api.OpSkip, A: a}
				err := prog.Check(p)
				if good := a >= 1 && a <= n-1-i; good != (err == nil) {
					t.Fatal(n, i, a)
				}
				if err != nil {
					fault(t, "skip", err, i)
				}
			}
		}
	}
}

// P6.1
func TestBytesAsTold(t *testing.T) {
	b, err := prog.Encode(api.Program{Fuel: 5, Code: []api.Code{{Op: api.OpOut, A: 1}}})
	if err != nil || !bytes.Equal(b, []byte{5, 1, 15, 1}) {
		t.Error(b, err)
	}
	p := api.Program{Fuel: 300, Code: []api.Code{
		{Op: api.OpSet, A: 7, N: -3}, {Op: api.OpPut, T: 3, B: 2, A: 1}, {Op: api.OpSum, A: 1, T: 2, B: 3, C: 4, N: 64},
		{Op: api.OpSkip, A: 1, B: 5, C: 6, N: 3}, {Op: api.OpAbort, B: 1, C: 2, N: 1}, {Op: api.OpDel, T: 1, B: 7},
	}}
	b, err = prog.Encode(p)
	if w := []byte{0xac, 2, 6, 0, 7, 5, 9, 3, 2, 1, 11, 1, 2, 3, 4, 64, 13, 1, 5, 3, 6, 14, 1, 1, 2, 10, 1, 7}; err != nil || !bytes.Equal(b, w) {
		t.Error(b, err)
	}
}

func some(r *rand.Rand) api.Program {
	p := api.Program{Fuel: 1 + r.Intn(1000), Code: make([]api.Code, 1+r.Intn(32))}
	for i := range p.Code {
		behind := len(p.Code) - 1 - i
		op := r.Intn(16)
		if op == api.OpSkip && behind == 0 {
			op = api.OpOut
		}
		p.Code[i].Op = op
		for _, x := range []byte(shapes[op]) {
			l := limits[x]
			switch x {
			case 'n':
				p.Code[i].N = int(r.Uint64()) >> r.Intn(64)
			case 's':
				p.Code[i].A = 1 + r.Intn(behind)
			default:
				*at(&p.Code[i], x) = l[0] + r.Intn(l[1]-l[0]+1)
			}
		}
	}
	return p
}

// P6.2, P6.3
func TestThereAndBack(t *testing.T) {
	r := rand.New(rand.NewSource(3))
	for range 2000 {
		p := some(r)
		b, err := prog.Encode(p)
		if err != nil {
			t.Fatal(err)
		}
		q, err := prog.Decode(b)
		if err != nil || !prog.Same(p, q) || q.Fuel != p.Fuel || len(q.Code) != len(p.Code) {
			t.Fatal(p, q, err)
		}
		for i := range p.Code {
			if p.Code[i] != q.Code[i] {
				t.Fatal(i)
			}
		}
		for range 20 {
			c := bytes.Clone(b)
			c[r.Intn(len(c))] ^= 1 << r.Intn(8)
			if r.Intn(4) == 0 {
				c = c[:r.Intn(len(c))]
			}
			if r.Intn(4) == 0 {
				c = append(c, 0)
			}
			before := bytes.Clone(c)
			q, err := prog.Decode(c)
			if !bytes.Equal(before, c) {
				t.Fatal("changed")
			}
			if err != nil {
				if !errors.Is(err, api.ErrForm) || q.Fuel != 0 || q.Code != nil {
					t.Fatal(err)
				}
			} else if d, err := prog.Encode(q); err != nil || !bytes.Equal(c, d) {
				t.Fatal("another text", c, d)
			}
		}
	}
}

// P6.1
func TestDecodeRefuses(t *testing.T) {
	var huge, wrap wire.Writer
	huge.Count(5)
	huge.Count(math.MaxUint64)
	wrap.Count(5)
	wrap.Count(1)
	wrap.Byte(15)
	wrap.Count(1 << 63)
	for _, b := range [][]byte{nil, {5}, {5, 0}, {0, 1, 15, 1}, {5, 1, 15}, {5, 1, 15, 8}, {5, 1, 16}, {5, 1, 15, 1, 0}, {5, 2, 15, 1}, {5, 1, 15, 0x81, 0}, {0xe9, 7, 1, 15, 1}, huge.Out(), wrap.Out(), append([]byte{5, 33}, make([]byte, 33*3)...), {5, 1, 13, 1, 0, 0, 0}} {
		p, err := prog.Decode(b)
		if !errors.Is(err, api.ErrForm) || p.Fuel != 0 || len(p.Code) != 0 {
			t.Error(b, err)
		}
	}
	if p, err := prog.Decode([]byte{0xe8, 7, 1, 15, 7}); err != nil || p.Fuel != 1000 {
		t.Error(p, err)
	}
}

// P6.1
func TestSame(t *testing.T) {
	p := api.Program{Fuel: 3, Code: []api.Code{{A: 1}, {B: 2}}}
	for _, q := range []api.Program{{}, {Fuel: 4, Code: p.Code}, {Fuel: 3}, {Fuel: 3, Code: p.Code[:1]}, {Fuel: 3, Code: []api.Code{{A: 1}, {B: 2, N: 1}}}, {Fuel: 3, Code: []api.Code{{A: 1}, {B: 2}, {}}}} {
		if prog.Same(p, q) || prog.Same(q, p) {
			t.Error(q)
		}
	}
	if !prog.Same(p, api.Program{Fuel: 3, Code: []api.Code{{A: 1}, {B: 2}}}) || !prog.Same(api.Program{}, api.Program{Code: []api.Code{}}) {
		t.Error("same")
	}
}

// P6.3
func TestArgumentsStay(t *testing.T) {
	p := some(rand.New(rand.NewSource(9)))
	q := api.Program{Fuel: p.Fuel, Code: append([]api.Code{}, p.Code...)}
	b, _ := prog.Encode(p)
	prog.Check(p)
	if !prog.Same(p, q) {
		t.Error("changed")
	}
	c := bytes.Clone(b)
	x, _ := prog.Decode(c)
	clear(c)
	clear(b)
	if d, _ := prog.Encode(p); bytes.Equal(d, b) || !prog.Same(x, p) {
		t.Error("kept")
	}
}
