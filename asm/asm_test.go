package asm_test

import (
	"errors"
	"math"
	"math/rand"
	"strings"
	"testing"

	"sluiceway/api"
	"sluiceway/asm"
	"sluiceway/prog"
)

var words = []string{"set", "move", "add", "sub", "mul", "div", "mod", "get", "has", "put", "del", "sum", "count", "skip", "abort", "out"}

// lines is each operation with fields that tell which is which.
var lines = map[string]api.Code{
	"set r1 -5": {Op: 0, A: 1, N: -5}, "move r1 r2": {Op: 1, A: 1, B: 2}, "add r1 r2 r3": {Op: 2, A: 1, B: 2, C: 3},
	"sub r1 r2 r3": {Op: 3, A: 1, B: 2, C: 3}, "mul r1 r2 r3": {Op: 4, A: 1, B: 2, C: 3}, "div r1 r2 r3": {Op: 5, A: 1, B: 2, C: 3},
	"mod r1 r2 r3": {Op: 6, A: 1, B: 2, C: 3}, "get r1 t3 r2": {Op: 7, A: 1, B: 2, T: 3}, "has r1 t3 r2": {Op: 8, A: 1, B: 2, T: 3},
	"put t3 r2 r1": {Op: 9, A: 1, B: 2, T: 3}, "del t3 r2": {Op: 10, B: 2, T: 3}, "sum r1 t3 r2 r4 64": {Op: 11, A: 1, B: 2, C: 4, T: 3, N: 64},
	"count r1 t3 r2 r4 1": {Op: 12, A: 1, B: 2, C: 4, T: 3, N: 1}, "skip 1 r2 <> r3": {Op: 13, A: 1, B: 2, C: 3, N: 3},
	"abort r2 < r3": {Op: 14, B: 2, C: 3}, "abort r2 = r3": {Op: 14, B: 2, C: 3, N: 1}, "abort r2 > r3": {Op: 14, B: 2, C: 3, N: 2}, "out r7": {Op: 15, A: 7},
}

func fault(t *testing.T, what string, err error, place int, is error) {
	t.Helper()
	var f *api.Fault
	if !errors.As(err, &f) || f.At != place || !errors.Is(err, is) {
		t.Errorf("%q: %v %+v", what, err, f)
	}
}

// P7.1
func TestWord(t *testing.T) {
	for op, w := range words {
		if got, ok := asm.Word(op); !ok || got != w {
			t.Error(op, got)
		}
	}
	for _, op := range []int{-1, 16, math.MaxInt, math.MinInt} {
		if got, ok := asm.Word(op); ok || got != "" {
			t.Error(op, got)
		}
		s, err := asm.Line(api.Code{Op: op})
		fault(t, s, err, 0, api.ErrProgram)
		if s != "" {
			t.Error(s)
		}
	}
}

// P7.1
func TestLines(t *testing.T) {
	for l, c := range lines {
		if got, err := asm.Line(c); err != nil || got != l {
			t.Error(got, l, err)
		}
		p, err := asm.Parse("fuel 7\n" + l + "\nout r1\n")
		if err != nil || p.Fuel != 7 || len(p.Code) != 2 || p.Code[0] != c {
			t.Error(l, p, err)
		}
	}
	for l, c := range map[string]api.Code{
		"out r9": {Op: 15, A: 9}, "out r-1": {Op: 15, A: -1, N: 5}, "abort r2 ? r3": {Op: 14, B: 2, C: 3, N: 4}, "abort r0 ? r0": {Op: 14, N: -1},
		"skip -3 r0 < r8": {Op: 13, A: -3, C: 8}, "del t7 r0": {Op: 10, T: 7, A: 1, C: 1}, "sum r0 t0 r0 r0 0": {Op: 11}, "set r0 -9223372036854775808": {Op: 0, N: math.MinInt},
	} {
		if got, err := asm.Line(c); err != nil || got != l {
			t.Error(got, l, err)
		}
	}
}

// P7.1
func TestExample(t *testing.T) {
	p := api.Program{Fuel: 5, Code: []api.Code{{Op: api.OpOut, A: 1}}}
	if s, err := asm.Print(p); err != nil || s != "fuel 5\nout r1\n" {
		t.Error(s, err)
	}
	for place, p := range map[int]api.Program{-1: {Fuel: 0, Code: p.Code}, 0: {Fuel: 1, Code: []api.Code{{Op: 15, A: 8}}}, 1: {Fuel: 1, Code: []api.Code{{}, {Op: 16}}}} {
		s, err := asm.Print(p)
		fault(t, s, err, place, api.ErrProgram)
		if s != "" {
			t.Error(s)
		}
	}
}

// P7.1
func TestNoLine(t *testing.T) {
	for text, place := range map[string]int{
		"": 0, "\n": 0, "fuel 5": 0, "fuel\n": 0, "fuel 5 \n": 0, " fuel 5\n": 0, "fuel  5\n": 0, "fuel 05\n": 0, "fuel +5\n": 0, "fuel -0\n": 0, "fuel x\n": 0, "fuel 9223372036854775808\n": 0, "Fuel 5\n": 0, "fuel 5\r\n": 0, "fuel 5 5\n": 0, "out r1\n": 0, "fuel 1_0\n": 0, "fuel \n": 0, "fuel ٣\n": 0,
		"fuel 5\nout r1": 1, "fuel 5\n\n": 1, "fuel 5\nfuel 5\n": 1, "fuel 5\nout\n": 1, "fuel 5\nout 1\n": 1, "fuel 5\nout r\n": 1, "fuel 5\nout r01\n": 1, "fuel 5\nout R1\n": 1, "fuel 5\nout r1 r2\n": 1, "fuel 5\nout r1 \n": 1, "fuel 5\nout t1\n": 1, "fuel 5\nset r1 r2\n": 1, "fuel 5\nset r1\n": 1, "fuel 5\njump r1\n": 1, "fuel 5\n x": 1,
		"fuel 5\nout r1\nabort r1 ? r2\n": 2, "fuel 5\nout r1\nabort r1 <= r2\n": 2, "fuel 5\nout r1\nabort r1 == r2\n": 2, "fuel 5\nout r1\nabort r1  r2\n": 2, "fuel 5\nout r1\nget r1 r3 r2\n": 2, "fuel 5\nout r1\nskip r1 r1 < r2\n": 2, "fuel 5\nout r1\nsum r1 t1 r1 r1 k1\n": 2, "fuel 5\nout r1\n\nout r1\n": 2,
		"fuel 0\nout r99\nout": 2, "fuel 5\nout r1\nout r1\nout r1": 3,
	} {
		p, err := asm.Parse(text)
		fault(t, text, err, place, api.ErrForm)
		if p.Fuel != 0 || p.Code != nil {
			t.Error(text, p)
		}
	}
}

// P7.1: lines that are lines, of programs that aren't good.
func TestNotGood(t *testing.T) {
	for text, place := range map[string]int{
		"fuel 5\n": -1, "fuel 0\nout r1\n": -1, "fuel -1\nout r1\n": -1, "fuel 1001\nout r1\n": -1, "fuel 5\n" + strings.Repeat("out r1\n", 33): -1,
		"fuel 5\nout r8\n": 0, "fuel 5\nout r-1\n": 0, "fuel 5\nout r1\ndel t4 r1\n": 1, "fuel 5\nout r1\ndel t-9223372036854775808 r1\n": 1, "fuel 5\nskip 1 r1 < r1\n": 0, "fuel 5\nskip 0 r1 < r1\nout r1\n": 0, "fuel 5\nsum r1 t1 r1 r1 65\n": 0, "fuel 5\nsum r1 t1 r1 r1 0\n": 0,
	} {
		p, err := asm.Parse(text)
		fault(t, text, err, place, api.ErrProgram)
		if p.Fuel != 0 || p.Code != nil {
			t.Error(text, p)
		}
	}
	if p, err := asm.Parse("fuel 1000\n" + strings.Repeat("out r1\n", 32)); err != nil || len(p.Code) != 32 {
		t.Error(err)
	}
}

// P7.2
func TestThereAndBack(t *testing.T) {
	var all []api.Code
	for _, c := range lines {
		if c.Op != api.OpSkip {
			all = append(all, c)
		}
	}
	r := rand.New(rand.NewSource(4))
	for range 500 {
		p := api.Program{Fuel: 1 + r.Intn(1000)}
		for range 1 + r.Intn(32) {
			p.Code = append(p.Code, all[r.Intn(len(all))])
		}
		if n := len(p.Code); n > 1 {
			i := r.Intn(n - 1)
			p.Code[i] = api.Code{Op: api.OpSkip, A: 1 + r.Intn(n-1-i), B: r.Intn(8), C: r.Intn(8), N: r.Intn(4)}
		}
		s, err := asm.Print(p)
		if err != nil {
			t.Fatal(err)
		}
		q, err := asm.Parse(s)
		if err != nil || !prog.Same(p, q) {
			t.Fatal(s, err)
		}
		for range 10 {
			b := []byte(s)
			b[r.Intn(len(b))] = " \n0123r-t<=>?af"[r.Intn(15)]
			if q, err := asm.Parse(string(b)); err == nil {
				if again, err := asm.Print(q); err != nil || again != string(b) {
					t.Fatal(string(b), again)
				}
			}
		}
	}
}
