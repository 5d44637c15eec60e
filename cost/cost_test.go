package cost_test

import (
	"errors"
	"math"
	"math/big"
	"math/rand"
	"slices"
	"testing"

	"sluiceway/api"
	"sluiceway/cost"
)

// exact is what both cost; nil, if one is beyond.
func exact(p api.Policy, bytes, fuel, writes int) (command, values *big.Int) {
	part := func(a, b int) *big.Int {
		n := new(big.Int).Mul(big.NewInt(int64(a)), big.NewInt(int64(b)))
		if !n.IsInt64() {
			return nil
		}
		return n
	}
	values = part(p.PerWrite, writes)
	if x, y := part(p.PerCode, bytes), part(p.PerFuel, fuel); x != nil && y != nil {
		command = x.Add(x, y).Add(x, big.NewInt(int64(p.Base)))
		if !command.IsInt64() {
			command = nil
		}
	}
	return
}

func check(t *testing.T, p api.Policy, bytes, fuel, writes int) {
	t.Helper()
	c, v := exact(p, bytes, fuel, writes)
	command, values, err := cost.Costs(p, bytes, fuel, writes)
	if c == nil || v == nil {
		if !errors.Is(err, api.ErrOver) || command != 0 || values != 0 {
			t.Error("beyond", p, bytes, fuel, writes, command, values, err)
		}
	} else if err != nil || int64(command) != c.Int64() || int64(values) != v.Int64() {
		t.Error("costs", p, bytes, fuel, writes, command, values, err)
	}
	want := c == nil && v == nil || c != nil && (v == nil || c.Cmp(v) <= 0)
	if cost.Command(p, bytes, fuel, writes) != want {
		t.Error("command", p, bytes, fuel, writes)
	}
}

// P12.1
func TestCosts(t *testing.T) {
	p := api.Policy{PerCode: 1, PerWrite: 10}
	if !cost.Command(p, 30, 99, 3) || cost.Command(p, 31, 99, 3) {
		t.Error("example")
	}
	if c, v, err := cost.Costs(api.Policy{Base: 7, PerCode: 2, PerFuel: 3, PerWrite: 5}, 11, 13, 17); c != 7+22+39 || v != 85 || err != nil {
		t.Error(c, v, err)
	}
	all := []int{0, 1, -1, 2, 3, 10, -10, 1 << 31, 1 << 32, 1 << 62, math.MaxInt, math.MinInt, math.MaxInt / 2}
	r := rand.New(rand.NewSource(12))
	pick := func() int { return all[r.Intn(len(all))] }
	for range 50000 {
		check(t, api.Policy{Base: pick(), PerCode: pick(), PerFuel: pick(), PerWrite: pick(), Place: r.Intn(5)}, pick(), pick(), pick())
	}
	check(t, api.Policy{Base: math.MaxInt, PerCode: 1, PerFuel: -1}, 1, 1, 1)
	check(t, api.Policy{PerCode: math.MaxInt}, 2, 0, 1)
	check(t, api.Policy{PerWrite: math.MaxInt}, 1, 1, 2)
	check(t, api.Policy{PerWrite: math.MaxInt, PerFuel: math.MaxInt}, 1, 2, 2)
}

// P12.1
func TestGood(t *testing.T) {
	for place := -3; place < 6; place++ {
		if cost.Good(api.Policy{Base: -5, Place: place}) != (place >= 0 && place <= 2) {
			t.Error(place)
		}
	}
}

// P12.1
func TestPlaceRefuses(t *testing.T) {
	room := []int{1, 2, 3, 4, 5}
	for i, err := range []error{
		one(cost.Place(api.Policy{Place: 3}, 1, nil, room[:2])), one(cost.Place(api.Policy{Place: -1}, 1, nil, room[:2])),
		one(cost.Place(api.Policy{}, 0, nil, room[:2])), one(cost.Place(api.Policy{}, math.MinInt, nil, room[:2])),
		one(cost.Place(api.Policy{}, 1, nil, nil)), one(cost.Place(api.Policy{}, 1, nil, room)), one(cost.Place(api.Policy{Place: 2}, 1, nil, room)), one(cost.Place(api.Policy{Place: 1}, 1, nil, nil)),
	} {
		if !errors.Is(err, api.ErrRange) {
			t.Error(i, err)
		}
	}
}

func one(n int, err error) error {
	if n != 0 {
		return nil
	}
	return err
}

// P12.1
func TestPlace(t *testing.T) {
	ask := func(want int, p api.Policy, seq int, w []api.Write, room ...int) {
		t.Helper()
		if n, err := cost.Place(p, seq, w, room); n != want || err != nil {
			t.Error(n, want, err)
		}
	}
	for seq := 1; seq < 10; seq++ {
		ask((seq-1)%3, api.Policy{}, seq, nil, 0, 0, 0)
		ask(0, api.Policy{}, seq, nil, 9)
	}
	ask((math.MaxInt-1)%4, api.Policy{}, math.MaxInt, nil, 1, 2, 3, 4)
	byKey := api.Policy{Place: api.PlaceKey}
	at := func(table, k int) []api.Write {
		return []api.Write{{Key: api.Key{Table: table, K: k}}, {Key: api.Key{Table: 1, K: 1}}}
	}
	ask(0, byKey, 5, nil, 1, 2, 3)
	ask(2, byKey, 5, at(2, 3), 1, 2, 3)
	ask(int((uint64(math.MaxUint64))%3), byKey, 5, at(0, -1), 1, 2, 3)
	ask(0, byKey, 5, at(1, -1), 1, 2, 3)
	ask(int((uint64(math.MaxUint64)-4)%3), byKey, 5, at(0, -5), 1, 2, 3)
	ask(int((uint64(1)<<63)%3), byKey, 5, at(0, math.MinInt), 1, 2, 3)
	ask(int((uint64(1)<<63+2)%3), byKey, 5, at(3, math.MaxInt), 1, 2, 3)
	byRoom := api.Policy{Place: api.PlaceRoom}
	ask(1, byRoom, 5, at(0, 0), 1, 7, 7, 3)
	ask(0, byRoom, 5, nil, 0, 0)
	ask(3, byRoom, 5, nil, -4, -3, -9, -1)
	ask(0, byRoom, 1, nil, math.MinInt)
}

// P12.2
func TestArgumentsStay(t *testing.T) {
	w := []api.Write{{V: 2}, {V: 1}}
	room := []int{3, 1, 2}
	for place := range 3 {
		cost.Place(api.Policy{Place: place}, 3, w, room)
	}
	if !slices.Equal(room, []int{3, 1, 2}) || w[0].V != 2 || w[1].V != 1 {
		t.Error("changed")
	}
}
