package hall_test

import (
	"bytes"
	"errors"
	"math"
	"math/rand"
	"slices"
	"testing"

	"sluiceway/api"
	"sluiceway/dev"
	"sluiceway/engine"
	"sluiceway/exec"
	"sluiceway/hall"
	"sluiceway/image"
	"sluiceway/multi"
	"sluiceway/redo"
	"sluiceway/slot"
	"sluiceway/store"
)

func set(a, n int) api.Code      { return api.Code{Op: api.OpSet, A: a, N: n} }
func get(a, t, b int) api.Code   { return api.Code{Op: api.OpGet, A: a, T: t, B: b} }
func write(t, b, a int) api.Code { return api.Code{Op: api.OpPut, A: a, T: t, B: b} }
func del(t, b int) api.Code      { return api.Code{Op: api.OpDel, T: t, B: b} }
func add(a, b, c int) api.Code   { return api.Code{Op: api.OpAdd, A: a, B: b, C: c} }
func out(a int) api.Code         { return api.Code{Op: api.OpOut, A: a} }
func of(c ...api.Code) api.Program {
	return api.Program{Fuel: 200, Code: c}
}
func put(k, v int) api.Program { return of(set(1, k), set(2, v), write(0, 1, 2), out(2)) }
func more(k int) api.Program {
	return of(set(1, k), get(2, 0, 1), set(3, 1), add(2, 2, 3), write(0, 1, 2), out(2))
}

var good = engine.Config{Workers: 2, Policy: api.Policy{PerWrite: 1}}

func made(t *testing.T, x hall.Setup) *hall.Hall {
	t.Helper()
	h, err := hall.New(x)
	if err != nil || h == nil || h.Engine() == nil {
		t.Fatal(err)
	}
	return h
}

func is(t *testing.T, what string, got, want error) {
	t.Helper()
	if !errors.Is(got, want) || (got == nil) != (want == nil) {
		t.Errorf("%s: %v, not %v", what, got, want)
	}
}

// P24.1
func TestNew(t *testing.T) {
	for i, c := range []struct {
		x   hall.Setup
		err error
	}{
		{hall.Setup{Image: 9, Stream: 9, Streams: 0, Config: good}, api.ErrRange}, {hall.Setup{Image: 9, Stream: 9, Streams: 5, Config: good}, api.ErrRange}, {hall.Setup{Image: 9, Stream: 9, Streams: math.MaxInt, Config: good}, api.ErrRange}, {hall.Setup{Image: 9, Stream: 9, Streams: -1, Config: good}, api.ErrRange},
		{hall.Setup{Image: 0, Stream: 9, Streams: 1, Config: good}, api.ErrRange}, {hall.Setup{Image: 4097, Stream: 9, Streams: 1, Config: good}, api.ErrRange}, {hall.Setup{Image: 9, Stream: 0, Streams: 1, Config: good}, api.ErrRange}, {hall.Setup{Image: 9, Stream: 4097, Streams: 4, Config: good}, api.ErrRange},
		{hall.Setup{Image: 3, Stream: 9, Streams: 1, Config: good}, api.ErrFull}, {hall.Setup{Image: 3, Stream: 9, Streams: 1}, api.ErrFull}, {hall.Setup{Image: 9, Stream: 9, Streams: 1}, api.ErrRange}, {hall.Setup{Image: 9, Stream: 9, Streams: 1, Config: engine.Config{Workers: 1, Policy: api.Policy{Place: 7}}}, api.ErrRange},
	} {
		if h, err := hall.New(c.x); h != nil || !errors.Is(err, c.err) {
			t.Error(i, err)
		}
	}
	for streams := 1; streams < 5; streams++ {
		h := made(t, hall.Setup{Image: 9, Stream: 7, Streams: streams, Config: good})
		d := h.Devices()
		if d.Many() != streams+1 || d.Size(0) != 9 || d.Size(1) != 7 || d.Size(streams) != 7 || len(h.Engine().State().Room) != streams {
			t.Error(streams)
		}
	}
}

// P24.1
func TestNil(t *testing.T) {
	var h *hall.Hall
	h.Crash()
	is(t, "config", h.Config(engine.Config{}), api.ErrState)
	is(t, "arm", h.Arm(-1), api.ErrState)
	is(t, "open", h.Open(nil), api.ErrState)
	list, err := h.Run(put(1, 1))
	is(t, "run", err, api.ErrState)
	if list != nil || h.Engine() != nil || h.Devices() != nil {
		t.Error("nil")
	}
}

// P24.1
func TestCalls(t *testing.T) {
	h := made(t, hall.Setup{Image: 40, Stream: 20, Streams: 2, Config: good})
	list, err := h.Run(more(1), of(set(1, 4), out(1)), more(1))
	if err != nil || !slices.Equal(list, []engine.Reply{{Out: 1, Seq: 1}, {Out: 4}, {Out: 2, Seq: 2}}) || h.Engine().State().Acked != 2 {
		t.Error(list, err)
	}
	list, err = h.Run(put(2, 5), of(api.Code{Op: api.OpAbort, N: api.IsSame}), put(2, 6))
	is(t, "abort", err, api.ErrAbort)
	if !slices.Equal(list, []engine.Reply{{Out: 5, Seq: 3}}) || h.Engine().State().Acked != 2 {
		t.Error("the replies ahead of it", list)
	}
	h.Crash()
	if h.Engine() != nil {
		t.Error("open")
	}
	list, err = h.Run()
	is(t, "not open", err, api.ErrState)
	if list != nil {
		t.Error(list)
	}
	is(t, "open", h.Open([]int{1, 1, 7}), nil)
	if x := h.Engine().State(); x.Last != 2 || x.Epoch != 3 {
		t.Error(x)
	}
	first := h.Engine()
	is(t, "open again", h.Open(nil), nil)
	if h.Engine() == first || h.Engine().State().Epoch != 4 {
		t.Error("another engine")
	}
	is(t, "arm", h.Arm(-1), api.ErrRange)
	is(t, "arm", h.Arm(1), nil)
	list, err = h.Run(put(2, 5), put(2, 6))
	is(t, "power", err, api.ErrDown)
	if !slices.Equal(list, []engine.Reply{{Out: 5, Seq: 3}}) {
		t.Error(list)
	}
	is(t, "down", h.Open(nil), api.ErrDown)
	if h.Engine() != nil || !h.Devices().Down() {
		t.Error("it isn't open")
	}
	h.Crash(dev.Keep{Dev: 1, N: 0})
	is(t, "open", h.Open(nil), nil)
	if h.Engine().State().Last != 3 {
		t.Error("kept")
	}
	is(t, "arm", h.Arm(1), nil)
	list, err = h.Run(put(9, 9))
	is(t, "sync", err, api.ErrDown)
	if len(list) != 1 {
		t.Error("all replies, and sync's error", list)
	}
}

// P24.1
func TestConfig(t *testing.T) {
	h := made(t, hall.Setup{Image: 40, Stream: 20, Streams: 2, Config: good})
	for _, c := range []engine.Config{{}, {Workers: 65}, {Workers: -3}, {Workers: 1, Policy: api.Policy{Place: 3}}} {
		is(t, "config", h.Config(c), api.ErrRange)
	}
	commands := func() (n int) {
		m, _ := slot.Load(h.Devices())
		list, err := multi.Gather(h.Devices(), m.Epoch, m.Heads, m.Base)
		if err != nil {
			t.Fatal(err)
		}
		for _, r := range list {
			if !r.Value {
				n++
			}
		}
		return n
	}
	is(t, "config", h.Config(engine.Config{Workers: 64, Policy: api.Policy{Place: api.PlaceRoom}}), nil)
	is(t, "config", h.Config(engine.Config{Workers: 1, Policy: api.Policy{Base: 5}}), nil)
	h.Run(put(1, 1))
	if commands() != 1 {
		t.Error("only from the next open on")
	}
	h.Open(nil)
	h.Run(put(1, 1))
	if commands() != 0 {
		t.Error("from now on")
	}
}

// P24.2
func TestDevicesAreACopy(t *testing.T) {
	h := made(t, hall.Setup{Image: 40, Stream: 20, Streams: 1, Config: good})
	h.Run(put(1, 1))
	d := h.Devices()
	d.Write(0, 0, api.Sector{1})
	d.Write(0, 1, api.Sector{1})
	d.Flush(0)
	d.Arm(0)
	d.Flush(0)
	programs := []api.Program{put(2, 2)}
	h.Run(programs...)
	programs[0].Code[0] = set(7, 7)
	h.Crash()
	is(t, "open", h.Open(nil), nil)
	if v, ok, _ := h.Engine().Read(api.Key{K: 2}); v != 2 || !ok || h.Engine().State().Last != 2 {
		t.Error("shared")
	}
}

func random(r *rand.Rand) api.Program {
	var c []api.Code
	for range 1 + r.Intn(7) {
		a, b, d, table := 1+r.Intn(3), 1+r.Intn(3), 1+r.Intn(3), r.Intn(2)
		switch r.Intn(10) {
		case 0, 1, 2:
			c = append(c, set(a, r.Intn(8)))
		case 3:
			c = append(c, get(a, table, b))
		case 4:
			c = append(c, add(a, b, d))
		case 5:
			c = append(c, api.Code{Op: api.OpCount, A: a, B: b, C: d, T: table, N: 1 + r.Intn(3)})
		case 6:
			c = append(c, del(table, b))
		case 7:
			c = append(c, api.Code{Op: api.OpDiv, A: a, B: b, C: d})
		default:
			c = append(c, write(table, b, a))
		}
	}
	return of(append(c, out(1))...)
}

func config(r *rand.Rand) engine.Config {
	return engine.Config{Workers: 1 + r.Intn(6), Policy: api.Policy{Base: r.Intn(9), PerCode: r.Intn(2), PerWrite: r.Intn(30), Place: r.Intn(3)}}
}

func fault(err error) (int, error) {
	var f *api.Fault
	if errors.As(err, &f) {
		return f.At, f.Err
	}
	return -2, err
}

// shows holds what an engine shows against a store.
func shows(t *testing.T, e *engine.Engine, want *store.Store) {
	t.Helper()
	if !bytes.Equal(e.Text(), want.Put()) {
		t.Fatal("text")
	}
	for table := -1; table < 5; table++ {
		var pairs []engine.Pair
		for k, v := range want.Range(api.Span{Table: table, Lo: 1, Hi: 6}) {
			pairs = append(pairs, engine.Pair{K: k, V: v})
		}
		if got, err := e.Scan(api.Span{Table: table, Lo: 1, Hi: 6}, 64); err != nil || !slices.Equal(got, pairs) {
			t.Fatal("scan", got, pairs)
		}
		for k := -1; k < 9; k++ {
			v, ok := want.Get(api.Key{Table: table, K: k})
			if got, has, err := e.Read(api.Key{Table: table, K: k}); got != v || has != ok || err != nil {
				t.Fatal("read")
			}
		}
	}
}

// P1: without crashes, whatever is flushed and checkpointed between, by any policy.
func TestOneBehindTheOther(t *testing.T) {
	for seed := range int64(60) {
		r := rand.New(rand.NewSource(seed))
		h := made(t, hall.Setup{Image: 100, Stream: 300, Streams: 1 + r.Intn(4), Config: config(r)})
		e, model, last := h.Engine(), store.New(), 0
		for range 120 {
			switch r.Intn(8) {
			case 0:
				e.Tick(r.Intn(4))
			case 1:
				e.Sync()
			case 2:
				e.Begin()
			case 3:
				e.Step(r.Intn(4))
			default:
				p := random(r)
				x, wantErr := exec.Run(model, p)
				got, err := e.Submit(p)
				at, errno := fault(err)
				wantAt, wantErrno := fault(wantErr)
				if at != wantAt || errno != wantErrno || got.Out != x.Out {
					t.Fatal("answer", got, err, wantErr)
				}
				if len(x.Writes) > 0 {
					last++
					model.Apply(last, x.Writes...)
				}
				if err == nil && len(x.Writes) > 0 && got.Seq != last || err != nil && got.Seq != 0 {
					t.Fatal("number", got, last)
				}
			}
			shows(t, e, model)
		}
	}
}

// P2, P3: behind any crash, also within recovery and checkpoints; whoever works.
func TestCrashes(t *testing.T) {
	for seed := range int64(120) {
		r := rand.New(rand.NewSource(seed))
		h := made(t, hall.Setup{Image: 12 + r.Intn(40), Stream: 8 + r.Intn(40), Streams: 1 + r.Intn(4), Config: config(r)})
		model := store.New()
		history := []*store.Store{model.Copy()}
		acked := 0
		for range 6 {
			h.Arm(r.Intn(60))
			for e := h.Engine(); !h.Devices().Down(); acked = max(acked, e.State().Acked) {
				switch r.Intn(9) {
				case 0:
					e.Tick(0)
				case 1:
					if e.Sync() == nil && e.State().Acked != e.State().Last {
						t.Fatal("sync acknowledges all")
					}
				case 2:
					e.Begin()
				case 3, 4:
					e.Step(1 + r.Intn(4))
				default:
					p := random(r)
					x, _ := exec.Run(model, p)
					_, err := e.Submit(p)
					if len(x.Writes) > 0 && (err == nil || errors.Is(err, api.ErrDown)) {
						model.Apply(len(history), x.Writes...)
						history = append(history, model.Copy())
					}
				}
				if e.State().ReadOnly && r.Intn(9) == 0 {
					break
				}
			}
			acked = max(acked, h.Engine().State().Acked)
			for again := true; again; {
				h.Crash(keeps(r, h.Devices())...)
				h.Config(config(r))
				want := recovered(t, h.Devices())
				h.Arm(r.Intn(20))
				picks := make([]int, r.Intn(20))
				for i := range picks {
					picks[i] = r.Intn(9) - 1
				}
				err := h.Open(picks)
				if again = err != nil; again {
					is(t, "open", err, api.ErrDown)
				} else if !bytes.Equal(h.Engine().Text(), want.Put()) {
					t.Fatal(seed, "not what all records make")
				}
			}
			last := h.Engine().State().Last
			if last < acked || last >= len(history) {
				t.Fatal(seed, "acknowledged", acked, last, len(history)-1)
			}
			shows(t, h.Engine(), history[last])
			history = history[:last+1]
			model = history[last].Copy()
			acked = max(acked, last)
		}
	}
}

// recovered is what all records, one behind the other and none left out, make.
func recovered(t *testing.T, s *dev.Set) *store.Store {
	t.Helper()
	m, err := slot.Load(s)
	if err != nil {
		t.Fatal(err)
	}
	b, err := image.Load(s, m.Gen, m.Area, m.Len)
	if err != nil {
		t.Fatal(err)
	}
	base, err := store.Take(b)
	if err != nil {
		t.Fatal(err)
	}
	list, err := multi.Gather(s, m.Epoch, m.Heads, m.Base)
	if err != nil {
		t.Fatal(err)
	}
	x, err := redo.Straight(base, list)
	if err != nil {
		t.Fatal(err)
	}
	// P4: within four picks for each record, four more, and one for each worker.
	for workers := 1; workers < 5; workers++ {
		d, err := redo.New(base, m.Base, list, workers)
		if err != nil || d.Run([]int{0, 0, 3, 1}) != nil || d.Picks() > 4*len(list)+4+workers {
			t.Fatal("it ends", err)
		}
	}
	return x
}

func keeps(r *rand.Rand, s *dev.Set) []dev.Keep {
	var keep []dev.Keep
	mode := r.Intn(4)
	for d := range s.Many() {
		for n := range s.Waiting(d) {
			if mode == 0 || mode == 1 && r.Intn(2) == 0 || mode == 2 && r.Intn(6) > 0 {
				keep = append(keep, dev.Keep{Dev: d, N: n, Tear: r.Intn(2) * r.Intn(70)})
			}
		}
	}
	return keep
}

// P5: a full stream.
func TestFullStream(t *testing.T) {
	h := made(t, hall.Setup{Image: 40, Stream: 3, Streams: 1, Config: good})
	list, err := h.Run(more(1), more(1), more(1), more(1))
	is(t, "full", err, api.ErrFull)
	if len(list) != 3 || !h.Engine().State().ReadOnly || h.Engine().State().Last != 3 {
		t.Error(list)
	}
	want := store.New()
	want.Apply(3, api.Write{Key: api.Key{K: 1}, V: 3})
	shows(t, h.Engine(), want)
	_, err = h.Run(more(1))
	is(t, "read-only", err, api.ErrReadOnly)
	is(t, "sync", h.Engine().Sync(), nil)
	is(t, "open", h.Open(nil), nil)
	shows(t, h.Engine(), want)
	if _, err := h.Run(more(1)); err != nil {
		t.Error("there is room again", err)
	}
}

// P5: a full area.
func TestFullArea(t *testing.T) {
	h := made(t, hall.Setup{Image: 5, Stream: 30, Streams: 1, Config: good})
	want := store.New()
	for k := range 13 {
		if _, err := h.Run(put(k*1000, k)); err != nil {
			t.Fatal(err)
		}
		want.Apply(k+1, api.Write{Key: api.Key{K: k * 1000}, V: k})
	}
	is(t, "begin", h.Engine().Begin(), nil)
	_, err := h.Engine().Step(99)
	is(t, "full", err, api.ErrFull)
	shows(t, h.Engine(), want)
	_, err = h.Run(put(1, 1))
	is(t, "read-only", err, api.ErrReadOnly)
	is(t, "open", h.Open(nil), nil)
	shows(t, h.Engine(), want)
	if !h.Engine().State().ReadOnly {
		t.Error("nothing can be installed")
	}
}
