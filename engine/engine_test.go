package engine_test

import (
	"bytes"
	"errors"
	"math"
	"math/rand"
	"slices"
	"testing"

	"sluiceway/api"
	"sluiceway/dev"
	"sluiceway/engine"
	"sluiceway/exec"
	"sluiceway/image"
	"sluiceway/multi"
	"sluiceway/record"
	"sluiceway/slot"
	"sluiceway/store"
)

func set(a, n int) api.Code      { return api.Code{Op: api.OpSet, A: a, N: n} }
func get(a, t, b int) api.Code   { return api.Code{Op: api.OpGet, A: a, T: t, B: b} }
func write(t, b, a int) api.Code { return api.Code{Op: api.OpPut, A: a, T: t, B: b} }
func del(t, b int) api.Code      { return api.Code{Op: api.OpDel, T: t, B: b} }
func add(a, b, c int) api.Code   { return api.Code{Op: api.OpAdd, A: a, B: b, C: c} }
func out(a int) api.Code         { return api.Code{Op: api.OpOut, A: a} }
func of(c ...api.Code) api.Program {
	return api.Program{Fuel: 200, Code: c}
}

// put writes a value; more adds 1 to one.
func put(t, k, v int) api.Program { return of(set(1, k), set(2, v), write(t, 1, 2), out(2)) }
func more(t, k int) api.Program {
	return of(set(1, k), get(2, t, 1), set(3, 1), add(2, 2, 3), write(t, 1, 2), out(2))
}

// many writes n values.
func many(t, from, n int) api.Program {
	c := []api.Code{set(1, from), set(2, 1)}
	for range n {
		c = append(c, write(t, 1, 1), add(1, 1, 2))
	}
	return of(c...)
}

var (
	commands = engine.Config{Workers: 1, Policy: api.Policy{PerWrite: 1}}
	values   = engine.Config{Workers: 3, Policy: api.Policy{Base: 1, Place: api.PlaceKey}}
)

func devices(t *testing.T, sizes ...int) *dev.Set {
	t.Helper()
	s, err := dev.New(sizes...)
	if err != nil {
		t.Fatal(err)
	}
	return s
}

func formatted(t *testing.T, streams int, sizes ...int) *dev.Set {
	t.Helper()
	s := devices(t, sizes...)
	if err := engine.Format(s, streams); err != nil {
		t.Fatal(err)
	}
	return s
}

func opened(t *testing.T, s *dev.Set, c engine.Config, picks ...int) *engine.Engine {
	t.Helper()
	e, err := engine.Open(s, c, picks)
	if err != nil || e == nil {
		t.Fatal(err)
	}
	return e
}

func is(t *testing.T, what string, got, want error) {
	t.Helper()
	if !errors.Is(got, want) || (got == nil) != (want == nil) {
		t.Errorf("%s: %v, not %v", what, got, want)
	}
}

func same(a, b engine.State) bool {
	return a.Acked == b.Acked && a.Last == b.Last && a.Gen == b.Gen && a.Epoch == b.Epoch && a.ReadOnly == b.ReadOnly && a.Sweeping == b.Sweeping && slices.Equal(a.Room, b.Room)
}

func state(t *testing.T, e *engine.Engine, want engine.State) {
	t.Helper()
	if got := e.State(); !same(got, want) {
		t.Errorf("state %+v, not %+v", got, want)
	}
}

func did(t *testing.T, e *engine.Engine, p api.Program, want engine.Reply) {
	t.Helper()
	if got, err := e.Submit(p); err != nil || got != want {
		t.Errorf("submit %+v, not %+v: %v", got, want, err)
	}
}

func refused(t *testing.T, e *engine.Engine, p api.Program, want error) {
	t.Helper()
	got, err := e.Submit(p)
	is(t, "submit", err, want)
	if got != (engine.Reply{}) {
		t.Error(got)
	}
}

// P23.1
func TestFormat(t *testing.T) {
	for _, c := range []struct {
		s       *dev.Set
		streams int
		err     error
	}{
		{nil, 1, api.ErrRange}, {devices(t, 9, 9), 0, api.ErrRange}, {devices(t, 9, 9, 9, 9, 9), 5, api.ErrRange}, {devices(t, 9, 9), -1, api.ErrRange}, {devices(t, 9, 9), 2, api.ErrRange}, {devices(t, 9), 1, api.ErrRange}, {nil, 9, api.ErrRange},
		{devices(t, 1, 9), 1, api.ErrFull}, {devices(t, 3, 9), 1, api.ErrFull}, {devices(t, 4, 1), 1, nil}, {devices(t, 4, 1, 1, 1, 1), 4, nil}, {devices(t, 4, 1, 1, 1, 1), 2, nil}, {formatted(t, 1, 4, 1), 1, api.ErrState}, {formatted(t, 1, 4, 1), 2, api.ErrRange},
	} {
		is(t, "format", engine.Format(c.s, c.streams), c.err)
	}
	s := devices(t, 9, 5, 5)
	is(t, "format", engine.Format(s, 2), nil)
	m, err := slot.Load(s)
	if err != nil || m.Gen != 1 || m.Epoch != 1 || m.Base != 0 || m.Area != 0 || m.Len != 2 || !slices.Equal(m.Heads, []int{0, 0}) {
		t.Error(m, err)
	}
	if b, err := image.Load(s, 1, 0, 2); err != nil || !bytes.Equal(b, []byte{0, 83}) {
		t.Error(b, err)
	}
	for steps := range 4 {
		s := devices(t, 9, 5)
		s.Arm(steps)
		is(t, "power", engine.Format(s, 1), api.ErrDown)
	}
}

// P23.1
func TestOpenRefuses(t *testing.T) {
	s := formatted(t, 1, 9, 9)
	for i, c := range []engine.Config{{}, {Workers: 65}, {Workers: -1}, {Workers: 1, Policy: api.Policy{Place: 3}}, {Workers: 1, Policy: api.Policy{Place: -1}}} {
		e, err := engine.Open(s, c, nil)
		if e != nil || !errors.Is(err, api.ErrRange) {
			t.Error(i, err)
		}
	}
	ask := func(s *dev.Set, want error) {
		t.Helper()
		e, err := engine.Open(s, commands, []int{0, 9, -1})
		if e != nil || !errors.Is(err, want) {
			t.Error(err, want)
		}
	}
	ask(nil, api.ErrRange)
	ask(devices(t, 9, 9), api.ErrCorrupt)
	for steps := range 4 {
		c := s.Copy()
		c.Arm(steps)
		ask(c, api.ErrDown)
		ask(c, api.ErrDown)
		if _, err := engine.Open(c, engine.Config{}, nil); !errors.Is(err, api.ErrRange) {
			t.Error("range first")
		}
	}
	c := s.Copy()
	c.Arm(4)
	opened(t, c, commands)
}

// install puts a manifest, the text and some records of a stream on fresh devices.
func install(t *testing.T, m slot.Manifest, text []byte, records ...record.Record) *dev.Set {
	t.Helper()
	s := devices(t, 300, 60, 60)
	m.Len = len(text)
	if err := image.Save(s, m.Gen, m.Area, text); err != nil {
		t.Fatal(err)
	}
	if err := slot.Save(s, m); err != nil {
		t.Fatal(err)
	}
	if l, err := multi.New(s, m.Epoch, m.Heads, m.Base); err == nil {
		for _, r := range records {
			if err := l.Append(r, 0); err != nil {
				t.Fatal(err)
			}
		}
		l.Sync()
	}
	return s
}

func like(change func(m *slot.Manifest)) slot.Manifest {
	m := slot.Manifest{Gen: 5, Epoch: 7, Base: 20, Area: 1, Heads: []int{3, 9}}
	change(&m)
	return m
}

func text(t *testing.T, seq, many int) []byte {
	t.Helper()
	s := store.New()
	for k := range many {
		if err := s.Apply(seq, api.Write{Key: api.Key{Table: k % 2, K: k}, V: k}); err != nil {
			t.Fatal(err)
		}
	}
	return s.Put()
}

// P23.1: what can't be read, is broken, or is too much, is corrupt.
func TestCorrupt(t *testing.T) {
	plain := func(*slot.Manifest) {}
	value := func(seq int, k ...int) record.Record {
		r := record.Record{Seq: seq, Value: true}
		for _, k := range k {
			r.Writes = append(r.Writes, api.Write{Key: api.Key{K: k}, V: 1})
		}
		return r
	}
	broken := record.Record{Seq: 22, Program: of(api.Code{Op: api.OpAbort, N: api.IsSame})}
	e := opened(t, install(t, like(plain), text(t, 20, 3), value(21, 9), value(22, 8)), commands)
	state(t, e, engine.State{Acked: 22, Last: 22, Gen: 6, Epoch: 8, Room: []int{60, 60}})
	if v, ok, _ := e.Read(api.Key{K: 8}); v != 1 || !ok {
		t.Error("read")
	}
	full := func() []byte {
		s := store.New()
		for k := range 4096 {
			s.Apply(1, api.Write{Key: api.Key{Table: 1, K: k}})
		}
		return s.Put()
	}
	for name, s := range map[string]*dev.Set{
		"broken":            install(t, like(plain), text(t, 20, 3), value(21), broken),
		"above base":        install(t, like(plain), text(t, 21, 3)),
		"no text":           install(t, like(plain), []byte{1, 2, 3}),
		"no device":         install(t, like(func(m *slot.Manifest) { m.Heads = []int{0, 0, 0} }), text(t, 20, 3)),
		"base without next": install(t, like(func(m *slot.Manifest) { m.Base = 1<<48 - 1 }), text(t, 20, 3)),
		"no image": func() *dev.Set {
			s := install(t, like(plain), text(t, 20, 3))
			s.Write(0, 2+149, api.Sector{})
			return s
		}(),
	} {
		if e, err := engine.Open(s, commands, nil); e != nil || !errors.Is(err, api.ErrCorrupt) {
			t.Error(name, err)
		}
	}
	s := devices(t, 4096, 60, 60)
	m := like(func(m *slot.Manifest) { m.Len = len(full()) })
	image.Save(s, m.Gen, m.Area, full())
	slot.Save(s, m)
	if e, err := engine.Open(s.Copy(), commands, nil); err != nil || e.State().ReadOnly {
		t.Error("4096 cells", err)
	}
	l, _ := multi.New(s, m.Epoch, m.Heads, m.Base)
	l.Append(value(21, 1), 1)
	if e, err := engine.Open(s, commands, nil); e != nil || !errors.Is(err, api.ErrCorrupt) {
		t.Error("4097 cells", err)
	}
}

// P23.1: where nothing can be installed, the engine is read-only, and has no log.
func TestReadOnlyFromTheBeginning(t *testing.T) {
	for name, m := range map[string]slot.Manifest{
		"gen":   like(func(m *slot.Manifest) { m.Gen = 1<<34 - 1 }),
		"epoch": like(func(m *slot.Manifest) { m.Epoch = 65535 }),
		"last":  like(func(m *slot.Manifest) { m.Base = 1<<48 - 2 }),
	} {
		r := record.Record{Seq: m.Base + 1, Value: true, Writes: []api.Write{{Key: api.Key{K: 77}, V: 7}}}
		s := install(t, m, text(t, 20, 3), r)
		before := s.Copy()
		e := opened(t, s, values)
		want := engine.State{Acked: m.Base + 1, Last: m.Base + 1, Gen: m.Gen, Epoch: m.Epoch, ReadOnly: true}
		state(t, e, want)
		refused(t, e, put(0, 1, 1), api.ErrReadOnly)
		refused(t, e, api.Program{}, api.ErrReadOnly)
		is(t, "begin", e.Begin(), api.ErrReadOnly)
		_, err := e.Step(1)
		is(t, "step", err, api.ErrState)
		is(t, "tick", e.Tick(0), nil)
		is(t, "tick", e.Tick(1), nil)
		is(t, "sync", e.Sync(), nil)
		if v, ok, err := e.Read(api.Key{K: 77}); v != 7 || !ok || err != nil {
			t.Error(name, v)
		}
		if s.Steps() != before.Steps() {
			t.Error(name, "something was written")
		}
		state(t, e, want)
		is(t, "close", e.Close(), nil)
	}
	s := devices(t, 5, 60)
	engine.Format(s, 1)
	e := opened(t, s, commands)
	did(t, e, many(0, 100000, 12), engine.Reply{Seq: 1})
	did(t, e, put(0, 1, 2), engine.Reply{Out: 2, Seq: 2})
	e.Sync()
	want := e.Text()
	e = opened(t, s, commands)
	if x := e.State(); !x.ReadOnly || x.Last != 2 || x.Room != nil || !bytes.Equal(e.Text(), want) {
		t.Error("no room for the image", x)
	}
	last := install(t, like(func(m *slot.Manifest) { m.Base = 1<<48 - 3 }), text(t, 20, 3), record.Record{Seq: 1<<48 - 2, Value: true})
	e = opened(t, last, commands)
	did(t, e, put(0, 1, 5), engine.Reply{Out: 5, Seq: 1<<48 - 1})
}

// P23.1
func TestNilAndClosed(t *testing.T) {
	e := opened(t, formatted(t, 1, 9, 9), commands)
	did(t, e, put(0, 1, 5), engine.Reply{Out: 5, Seq: 1})
	is(t, "close", e.Close(), nil)
	for _, e := range []*engine.Engine{nil, e} {
		refused(t, e, put(0, 1, 1), api.ErrState)
		is(t, "tick", e.Tick(9), api.ErrState)
		is(t, "sync", e.Sync(), api.ErrState)
		_, ok, err := e.Read(api.Key{K: 1})
		is(t, "read", err, api.ErrState)
		list, err := e.Scan(api.Span{Hi: 9}, 9)
		is(t, "scan", err, api.ErrState)
		is(t, "begin", e.Begin(), api.ErrState)
		done, err := e.Step(1)
		is(t, "step", err, api.ErrState)
		is(t, "close", e.Close(), api.ErrState)
		state(t, e, engine.State{})
		if ok || list != nil || done || e.Text() != nil {
			t.Error("closed")
		}
	}
}

// P23.1
func TestSubmit(t *testing.T) {
	e := opened(t, formatted(t, 2, 40, 20, 20), commands)
	state(t, e, engine.State{Gen: 2, Epoch: 2, Room: []int{20, 20}})
	for i := range 3 {
		did(t, e, more(1, 5), engine.Reply{Out: i + 1, Seq: i + 1})
	}
	did(t, e, of(set(1, 5), get(2, 1, 1), out(2)), engine.Reply{Out: 3})
	for want, p := range map[error]api.Program{
		api.ErrProgram: {}, api.ErrOver: of(set(1, 7), write(0, 1, 1), api.Code{Op: api.OpDiv, A: 1, B: 1}), api.ErrAbort: of(write(0, 1, 1), api.Code{Op: api.OpAbort, N: api.IsSame}), api.ErrFuel: {Fuel: 1, Code: []api.Code{write(0, 1, 1), write(0, 1, 1)}},
	} {
		refused(t, e, p, want)
		var f *api.Fault
		if _, err := e.Submit(p); !errors.As(err, &f) {
			t.Error("no fault", err)
		}
	}
	did(t, e, of(set(1, 5), del(1, 1)), engine.Reply{Seq: 4})
	did(t, e, of(set(1, -5), del(1, 1)), engine.Reply{Seq: 5})
	state(t, e, engine.State{Last: 5, Gen: 2, Epoch: 2, Room: []int{17, 18}})
	if v, ok, err := e.Read(api.Key{Table: 1, K: 5}); v != 0 || ok || err != nil {
		t.Error("read")
	}
	if _, ok, err := e.Read(api.Key{Table: 9, K: 5}); ok || err != nil {
		t.Error("no table")
	}
	is(t, "tick", e.Tick(2), api.ErrRange)
	is(t, "tick", e.Tick(-1), api.ErrRange)
	is(t, "tick", e.Tick(0), nil)
	if a := e.State().Acked; a != 1 {
		t.Error("2 is behind", a)
	}
	is(t, "tick", e.Tick(1), nil)
	if a := e.State().Acked; a != 5 {
		t.Error("all", a)
	}
}

// P23.1
func TestScan(t *testing.T) {
	e := opened(t, formatted(t, 1, 40, 40), values)
	e.Submit(of(set(1, math.MinInt), write(2, 1, 1), set(1, 5), write(2, 1, 1), set(1, math.MaxInt), write(2, 1, 1), set(1, 7), write(2, 1, 1), set(1, 6), write(1, 1, 1)))
	e.Submit(of(set(1, 7), del(2, 1)))
	all := []engine.Pair{{K: math.MinInt, V: math.MinInt}, {K: 5, V: 5}, {K: math.MaxInt, V: math.MaxInt}}
	for n := -2; n < 6; n++ {
		list, err := e.Scan(api.Span{Table: 2, Lo: math.MinInt, Hi: math.MaxInt}, n)
		if err != nil || !slices.Equal(list, all[:max(0, min(n, 3))]) {
			t.Error(n, list, err)
		}
	}
	for _, x := range []api.Span{{Table: 2, Lo: 6, Hi: 7}, {Table: 2, Lo: 5, Hi: 4}, {Table: 4, Lo: 0, Hi: 9}, {Table: -1, Hi: 9}} {
		if list, err := e.Scan(x, math.MaxInt); err != nil || len(list) != 0 {
			t.Error(x, list, err)
		}
	}
}

// P23.1
func TestFullStore(t *testing.T) {
	e := opened(t, formatted(t, 1, 4096, 4096), commands)
	for k := 0; k < 4095; k += 15 {
		if _, err := e.Submit(many(0, k, 15)); err != nil {
			t.Fatal(err)
		}
	}
	before := e.State()
	refused(t, e, many(1, 0, 2), api.ErrFull)
	state(t, e, before)
	did(t, e, put(1, 0, 7), engine.Reply{Out: 7, Seq: 274})
	refused(t, e, put(1, 1, 7), api.ErrFull)
	did(t, e, of(set(1, 1), write(1, 1, 1), set(2, 3), del(0, 2)), engine.Reply{Seq: 275})
	if e.State().ReadOnly {
		t.Error("read-only")
	}
}

// P23.1
func TestFullStream(t *testing.T) {
	s := formatted(t, 1, 40, 2)
	e := opened(t, s, commands)
	did(t, e, put(0, 1, 1), engine.Reply{Out: 1, Seq: 1})
	did(t, e, put(0, 1, 2), engine.Reply{Out: 2, Seq: 2})
	is(t, "begin", e.Begin(), nil)
	want := e.Text()
	refused(t, e, put(0, 1, 3), api.ErrFull)
	state(t, e, engine.State{Last: 2, Gen: 2, Epoch: 2, ReadOnly: true, Sweeping: true, Room: []int{0}})
	refused(t, e, put(0, 1, 3), api.ErrReadOnly)
	refused(t, e, of(out(1)), api.ErrReadOnly)
	is(t, "begin", e.Begin(), api.ErrReadOnly)
	if v, ok, _ := e.Read(api.Key{K: 1}); v != 2 || !ok || !bytes.Equal(e.Text(), want) {
		t.Error("shown as before", v)
	}
	is(t, "tick", e.Tick(0), nil)
	if e.State().Acked != 2 {
		t.Error("acked")
	}
	if done, err := e.Step(9); !done || err != nil {
		t.Error("a checkpoint that was under way goes on", err)
	}
	state(t, e, engine.State{Acked: 2, Last: 2, Gen: 3, Epoch: 2, ReadOnly: true, Room: []int{2}})
	is(t, "close", e.Close(), nil)
	e = opened(t, s, commands)
	if !bytes.Equal(e.Text(), want) || e.State().ReadOnly {
		t.Error("opened again")
	}
}

// P23.1
func TestCheckpoint(t *testing.T) {
	s := formatted(t, 2, 40, 10, 10)
	e := opened(t, s, values)
	_, err := e.Step(1)
	is(t, "none", err, api.ErrState)
	for k := range 4 {
		did(t, e, put(0, k, k), engine.Reply{Out: k, Seq: k + 1})
	}
	at := e.Text()
	is(t, "begin", e.Begin(), nil)
	is(t, "again", e.Begin(), api.ErrState)
	for _, n := range []int{0, -1, math.MinInt, 2} {
		if done, err := e.Step(n); done || err != nil {
			t.Error(n, done, err)
		}
	}
	did(t, e, put(0, 3, 33), engine.Reply{Out: 33, Seq: 5})
	did(t, e, of(set(1, 2), del(0, 1)), engine.Reply{Seq: 6})
	did(t, e, put(0, 9, 99), engine.Reply{Out: 99, Seq: 7})
	state(t, e, engine.State{Last: 7, Gen: 2, Epoch: 2, Sweeping: true, Room: []int{7, 6}})
	steps := 0
	for {
		done, err := e.Step(1)
		if err != nil {
			t.Fatal(err)
		}
		if steps++; done {
			break
		}
	}
	if steps != 4 {
		t.Error("2, 3, 9, and the end", steps)
	}
	state(t, e, engine.State{Acked: 7, Last: 7, Gen: 3, Epoch: 2, Room: []int{9, 8}})
	m, err := slot.Load(s)
	if err != nil || m.Gen != 3 || m.Epoch != 2 || m.Base != 4 || m.Area != 0 || !slices.Equal(m.Heads, []int{2, 2}) {
		t.Error(m, err)
	}
	if b, err := image.Load(s, m.Gen, m.Area, m.Len); err != nil || !bytes.Equal(b, at) {
		t.Error("what there was at the beginning", err)
	}
	want := e.Text()
	s.Crash()
	if e := opened(t, s, commands); !bytes.Equal(e.Text(), want) || e.State().Last != 7 || e.State().Gen != 4 || e.State().Epoch != 3 {
		t.Error("opened again", e.State())
	}
}

// P23.1: an image without room.
func TestFullImage(t *testing.T) {
	s := formatted(t, 1, 5, 40)
	e := opened(t, s, commands)
	did(t, e, many(0, 100000, 12), engine.Reply{Seq: 1})
	want := e.Text()
	is(t, "begin", e.Begin(), nil)
	done, err := e.Step(99)
	is(t, "step", err, api.ErrFull)
	if done || !bytes.Equal(e.Text(), want) {
		t.Error("done")
	}
	if x := e.State(); !x.ReadOnly || x.Sweeping || x.Last != 1 || x.Gen != 2 {
		t.Error(x)
	}
	refused(t, e, put(0, 1, 1), api.ErrReadOnly)
	_, err = e.Step(1)
	is(t, "none", err, api.ErrState)
	last := install(t, like(func(m *slot.Manifest) { m.Gen = 1<<34 - 2 }), text(t, 20, 3))
	e = opened(t, last, commands)
	is(t, "begin", e.Begin(), nil)
	_, err = e.Step(99)
	is(t, "no further generation", err, api.ErrFull)
	if x := e.State(); !x.ReadOnly || x.Sweeping || x.Gen != 1<<34-1 {
		t.Error(x)
	}
}

// P23.1
func TestDead(t *testing.T) {
	for name, dies := range map[string]func(e *engine.Engine) error{
		"submit": func(e *engine.Engine) error { _, err := e.Submit(put(0, 2, 2)); return err },
		"tick":   func(e *engine.Engine) error { return e.Tick(0) },
		"sync":   func(e *engine.Engine) error { return e.Sync() },
		"close":  func(e *engine.Engine) error { return e.Close() },
		"step":   func(e *engine.Engine) error { e.Begin(); _, err := e.Step(9); return err },
	} {
		s := formatted(t, 1, 9, 9)
		e := opened(t, s, commands)
		did(t, e, put(0, 1, 5), engine.Reply{Out: 5, Seq: 1})
		s.Arm(0)
		is(t, name, dies(e), api.ErrDown)
		s.Crash()
		refused(t, e, put(0, 2, 2), api.ErrDown)
		is(t, name, e.Tick(7), api.ErrDown)
		is(t, name, e.Sync(), api.ErrDown)
		is(t, name, e.Begin(), api.ErrDown)
		is(t, name, e.Close(), api.ErrDown)
		_, err := e.Step(1)
		is(t, name, err, api.ErrDown)
		if v, ok, err := e.Read(api.Key{K: 1}); v != 5 || !ok || err != nil {
			t.Error(name, "read", err)
		}
		if l, err := e.Scan(api.Span{Hi: 9}, 9); len(l) != 1 || err != nil {
			t.Error(name, "scan", err)
		}
		state(t, e, engine.State{Last: 1, Gen: 2, Epoch: 2, Room: []int{8}})
	}
}

// P23.1: the power goes at each step of a checkpoint's end.
func TestDeadWithinACheckpoint(t *testing.T) {
	for steps := range 8 {
		s := formatted(t, 2, 9, 9, 9)
		e := opened(t, s, commands)
		did(t, e, put(0, 1, 5), engine.Reply{Out: 5, Seq: 1})
		is(t, "begin", e.Begin(), nil)
		s.Arm(steps)
		done, err := e.Step(9)
		if steps >= 6 {
			if !done || err != nil {
				t.Error("done", steps, err)
			}
			continue
		}
		is(t, "step", err, api.ErrDown)
		if x := e.State(); done || x.Sweeping || x.Gen != 2 || !s.Down() {
			t.Error(steps, x)
		}
		s.Crash()
		_, err = e.Step(1)
		is(t, "dead", err, api.ErrDown)
		want := 1
		if steps == 0 {
			want = 0
		}
		if e := opened(t, s, commands); e.State().Last != want {
			t.Error("opened", steps, e.State())
		}
	}
}

// P23.1
func TestMostWorkers(t *testing.T) {
	e := opened(t, formatted(t, 1, 9, 9), engine.Config{Workers: 64, Policy: api.Policy{Place: api.PlaceRoom}}, 63, 64)
	did(t, e, put(0, 1, 5), engine.Reply{Out: 5, Seq: 1})
}

func random(r *rand.Rand) api.Program {
	var c []api.Code
	for range 1 + r.Intn(7) {
		a, b, d, table := 1+r.Intn(3), 1+r.Intn(3), 1+r.Intn(3), r.Intn(2)
		switch r.Intn(10) {
		case 0, 1, 2:
			c = append(c, set(a, r.Intn(8)))
		case 3:
			c = append(c, get(a, table, b))
		case 4:
			c = append(c, add(a, b, d))
		case 5:
			c = append(c, api.Code{Op: api.OpSum, A: a, B: b, C: d, T: table, N: 1 + r.Intn(3)})
		case 6:
			c = append(c, del(table, b))
		default:
			c = append(c, write(table, b, a))
		}
	}
	return of(append(c, out(1))...)
}

func config(r *rand.Rand) engine.Config {
	return engine.Config{Workers: 1 + r.Intn(5), Policy: api.Policy{Base: r.Intn(20) - 5, PerCode: r.Intn(2), PerFuel: r.Intn(2), PerWrite: r.Intn(20), Place: r.Intn(3)}}
}

// P23.2, P23.3
func TestCrashes(t *testing.T) {
	for seed := range int64(250) {
		r := rand.New(rand.NewSource(seed))
		streams := 1 + r.Intn(4)
		sizes := []int{8 + r.Intn(40)}
		for range streams {
			sizes = append(sizes, 6+r.Intn(30))
		}
		s := formatted(t, streams, sizes...)
		model := store.New()
		texts := map[int][]byte{0: model.Put()}
		acked, last := 0, 0
		for range 8 {
			// Whoever works, and however often it is cut: the same.
			var e *engine.Engine
			for e == nil {
				if r.Intn(3) == 0 {
					s.Arm(r.Intn(12))
				}
				picks := make([]int, r.Intn(30))
				for i := range picks {
					picks[i] = r.Intn(8) - 1
				}
				other := s.Copy()
				x, err := engine.Open(s, config(r), picks)
				other.Crash(keepAll(other)...)
				y, err2 := engine.Open(other, config(r), nil)
				if err2 != nil || err == nil && (!bytes.Equal(x.Text(), y.Text()) || x.State().Last != y.State().Last) {
					t.Fatal(seed, "another one", err2)
				}
				if err != nil {
					is(t, "open", err, api.ErrDown)
					s.Crash(keeps(r, s)...)
					continue
				}
				e = x
				s.Arm(math.MaxInt)
			}
			x := e.State()
			if x.Last < acked || x.Last > last || !x.ReadOnly && x.Acked != x.Last {
				t.Fatal(seed, x, acked, last)
			}
			if !bytes.Equal(e.Text(), texts[x.Last]) {
				t.Fatal(seed, "another store", x.Last)
			}
			last = x.Last
			model, _ = store.Take(texts[last])
			s.Arm(r.Intn(80))
			acked, last = live(t, r, e, model, texts, last)
			s.Crash(keeps(r, s)...)
		}
	}
}

// live lets an engine work till its power goes, or nothing is left to do.
func live(t *testing.T, r *rand.Rand, e *engine.Engine, model *store.Store, texts map[int][]byte, last int) (int, int) {
	t.Helper()
	acked := e.State().Acked
	for range 60 {
		var err error
		switch r.Intn(9) {
		case 0:
			err = e.Tick(r.Intn(len(e.State().Room) + 1))
			if errors.Is(err, api.ErrRange) {
				err = nil
			}
		case 1:
			err = e.Sync()
			if err == nil && e.State().Acked != last {
				t.Fatal("a sync acknowledges all")
			}
		case 2:
			e.Begin()
		case 3, 4:
			_, err = e.Step(r.Intn(5))
		default:
			p := random(r)
			want, wantErr := exec.Run(model, p)
			var got engine.Reply
			got, err = e.Submit(p)
			if err == nil {
				if wantErr != nil || got.Out != want.Out || (got.Seq == 0) != (len(want.Writes) == 0) {
					t.Fatal("another answer", got, want, wantErr)
				}
				if got.Seq > 0 {
					last++
					if got.Seq != last || model.Apply(last, want.Writes...) != nil {
						t.Fatal("number", got.Seq, last)
					}
					texts[last] = model.Put()
				}
			} else if errors.Is(err, api.ErrDown) && wantErr == nil && len(want.Writes) > 0 {
				// It was submitted, and may be there.
				model.Apply(last+1, want.Writes...)
				texts[last+1] = model.Put()
				return acked, last + 1
			}
		}
		if errors.Is(err, api.ErrDown) {
			break
		}
		if !bytes.Equal(e.Text(), texts[last]) || e.State().Last != last {
			t.Fatal("shown otherwise")
		}
		acked = max(acked, e.State().Acked)
	}
	return max(acked, e.State().Acked), last
}

func keeps(r *rand.Rand, s *dev.Set) []dev.Keep {
	var keep []dev.Keep
	mode := r.Intn(4)
	for d := range s.Many() {
		for n := range s.Waiting(d) {
			if mode == 0 || mode == 1 && r.Intn(2) == 0 || mode == 2 && r.Intn(6) > 0 {
				keep = append(keep, dev.Keep{Dev: d, N: n, Tear: r.Intn(2) * r.Intn(70)})
			}
		}
	}
	return keep
}

func keepAll(s *dev.Set) []dev.Keep {
	var keep []dev.Keep
	for d := range s.Many() {
		for n := range s.Waiting(d) {
			keep = append(keep, dev.Keep{Dev: d, N: n})
		}
	}
	return keep
}

// P23.3
func TestPoliciesDontShow(t *testing.T) {
	for seed := range int64(40) {
		r := rand.New(rand.NewSource(seed))
		var programs []api.Program
		for range 60 {
			programs = append(programs, random(r))
		}
		var want []engine.Reply
		var text []byte
		for i := range 6 {
			s := formatted(t, 3, 60, 300, 300, 300)
			e := opened(t, s, config(r))
			var got []engine.Reply
			for _, p := range programs {
				x, _ := e.Submit(p)
				got = append(got, x)
			}
			if i == 0 {
				want, text = got, e.Text()
			}
			if !slices.Equal(want, got) || !bytes.Equal(text, e.Text()) {
				t.Fatal(seed, "another answer")
			}
			e.Sync()
			if e = opened(t, s, config(r), 1, 0, 0, 2, 2); !bytes.Equal(text, e.Text()) {
				t.Fatal(seed, "another store")
			}
		}
	}
}

// P23.1: as a command, or as values, and where.
func TestHowItIsLogged(t *testing.T) {
	for _, c := range []struct {
		p       api.Policy
		command bool
		place   []int
	}{
		{api.Policy{PerWrite: 1}, true, []int{0, 1, 0}}, {api.Policy{Base: 1}, false, []int{0, 1, 0}}, {api.Policy{PerCode: 1, PerWrite: 15}, true, []int{0, 1, 0}}, {api.Policy{PerCode: 1, PerWrite: 14}, false, []int{0, 1, 0}},
		{api.Policy{PerFuel: 1, PerWrite: 4}, true, []int{0, 1, 0}}, {api.Policy{PerFuel: 1, PerWrite: 3}, false, []int{0, 1, 0}}, {api.Policy{Place: api.PlaceKey}, true, []int{1, 1, 0}}, {api.Policy{Place: api.PlaceRoom}, true, []int{1, 1, 1}},
	} {
		s := formatted(t, 2, 40, 10, 20)
		e := opened(t, s, engine.Config{Workers: 1, Policy: c.p})
		for _, k := range []int{5, 7, 8} {
			if _, err := e.Submit(put(0, k, 1)); err != nil {
				t.Fatal(err)
			}
		}
		e.Sync()
		list, err := multi.Gather(s, 2, []int{0, 0}, 0)
		if err != nil || len(list) != 3 {
			t.Fatal(list, err)
		}
		for i, r := range list {
			if r.Value == c.command || c.command && (r.Program.Fuel != 200 || len(r.Foot.Writes) != 1) {
				t.Error("how", c, r)
			}
			one, _ := multi.Gather(s, 2, [][]int{{0, 30}, {30, 0}}[c.place[i]], i)
			if len(one) == 0 || one[0].Seq != i+1 {
				t.Error("where", c.p, i)
			}
		}
	}
}

// P23.4
func TestNothingKept(t *testing.T) {
	s := formatted(t, 1, 40, 40)
	e := opened(t, s, commands)
	p := put(0, 1, 5)
	did(t, e, p, engine.Reply{Out: 5, Seq: 1})
	p.Code[0], p.Code[1] = set(1, 9), set(2, 9)
	room, text := e.State(), e.Text()
	list, _ := e.Scan(api.Span{Hi: 9}, 1)
	room.Room[0] = 99
	clear(text)
	clear(list)
	if v, _, _ := e.Read(api.Key{K: 1}); v != 5 || e.State().Room[0] != 39 || bytes.Equal(text, e.Text()) {
		t.Error("kept")
	}
	picks := []int{0, 5, -1}
	e.Sync()
	e = opened(t, s, commands, picks...)
	if v, _, _ := e.Read(api.Key{K: 1}); v != 5 || !slices.Equal(picks, []int{0, 5, -1}) {
		t.Error("kept")
	}
}
