package arith_test

import (
	"errors"
	"math"
	"math/big"
	"math/rand"
	"testing"

	"sluiceway/api"
	"sluiceway/arith"
)

func numbers() []int {
	out := []int{0, 1, -1, 2, -2, 3, -3, 7, -7, 10, 1 << 31, 1 << 32, -1 << 32, 3037000499, 3037000500, -3037000500, math.MaxInt, math.MaxInt - 1, math.MinInt, math.MinInt + 1, 1 << 62, -1 << 62, math.MaxInt / 2, math.MinInt / 2, math.MaxInt / 3}
	r := rand.New(rand.NewSource(5))
	for range 15 {
		out = append(out, int(r.Uint64())>>r.Intn(64))
	}
	return out
}

// same holds an answer against the exact number; nil is none.
func same(t *testing.T, what string, n int, err error, exact *big.Int, args ...int) {
	t.Helper()
	if exact == nil || !exact.IsInt64() {
		if n != 0 || !errors.Is(err, api.ErrOver) {
			t.Error(what, args, n, err)
		}
	} else if err != nil || int64(n) != exact.Int64() {
		t.Error(what, args, n, err, exact)
	}
}

func wide(n int) *big.Int { return big.NewInt(int64(n)) }

// P5.1
func TestTwo(t *testing.T) {
	for _, a := range numbers() {
		for _, b := range numbers() {
			x, y := wide(a), wide(b)
			n, err := arith.Add(a, b)
			same(t, "add", n, err, new(big.Int).Add(x, y), a, b)
			n, err = arith.Sub(a, b)
			same(t, "sub", n, err, new(big.Int).Sub(x, y), a, b)
			n, err = arith.Mul(a, b)
			same(t, "mul", n, err, new(big.Int).Mul(x, y), a, b)
			var div, mod *big.Int
			if b != 0 {
				div, mod = new(big.Int).Quo(x, y), new(big.Int).Rem(x, y)
			}
			n, err = arith.Div(a, b)
			same(t, "div", n, err, div, a, b)
			n, err = arith.Mod(a, b)
			same(t, "mod", n, err, mod, a, b)
			if arith.Compare(a, b) != map[int]int{-1: api.IsLess, 0: api.IsSame, 1: api.IsMore}[x.Cmp(y)] {
				t.Error("compare", a, b)
			}
		}
	}
}

// P5.1
func TestScale(t *testing.T) {
	if n, err := arith.Scale(1<<62, 6, 8); n != 3<<60 || err != nil {
		t.Error(n, err)
	}
	for _, a := range numbers() {
		for _, b := range numbers() {
			for _, c := range numbers() {
				var exact *big.Int
				if c != 0 {
					exact = new(big.Int).Quo(new(big.Int).Mul(wide(a), wide(b)), wide(c))
				}
				n, err := arith.Scale(a, b, c)
				same(t, "scale", n, err, exact, a, b, c)
			}
		}
	}
}

// P5.1, P5.2
func TestTotal(t *testing.T) {
	if n, err := arith.Total(math.MaxInt, 1, -1); n != math.MaxInt || err != nil {
		t.Error(n, err)
	}
	if n, err := arith.Total(); n != 0 || err != nil {
		t.Error("nothing")
	}
	r := rand.New(rand.NewSource(6))
	all := numbers()
	for range 2000 {
		list := make([]int, r.Intn(9))
		exact := new(big.Int)
		for i := range list {
			list[i] = all[r.Intn(len(all))]
			exact.Add(exact, wide(list[i]))
		}
		kept := append([]int{}, list...)
		n, err := arith.Total(list...)
		same(t, "total", n, err, exact, list...)
		for i := range list {
			if list[i] != kept[i] {
				t.Fatal("changed")
			}
		}
		r.Shuffle(len(list), func(i, j int) { list[i], list[j] = list[j], list[i] })
		m, err2 := arith.Total(list...)
		if m != n || (err == nil) != (err2 == nil) {
			t.Error("order", list)
		}
	}
	many := make([]int, 5000)
	for i := range many {
		many[i] = math.MaxInt
		if i >= 2500 {
			many[i] = math.MinInt
		}
	}
	if n, err := arith.Total(many...); n != -2500 || err != nil {
		t.Error("many", n, err)
	}
}

// P5.2
func TestDivAndMod(t *testing.T) {
	for _, a := range numbers() {
		for _, b := range numbers() {
			d, err := arith.Div(a, b)
			if err != nil {
				continue
			}
			m, err := arith.Mod(a, b)
			if err != nil || b*d+m != a || m != 0 && (m < 0) != (a < 0) {
				t.Error(a, b)
			}
		}
	}
	if m, err := arith.Mod(math.MinInt, -1); m != 0 || err != nil {
		t.Error("least by -1")
	}
}
