package talk_test

import (
	"errors"
	"math"
	"math/rand"
	"slices"
	"strings"
	"testing"

	"sluiceway/api"
	"sluiceway/engine"
	"sluiceway/hall"
	"sluiceway/prog"
	"sluiceway/talk"
)

var small = api.Program{Fuel: 9, Code: []api.Code{{Op: api.OpSet, A: 1, N: 5}, {Op: api.OpOut, A: 1}}}

// lines is commands that have lines.
var lines = map[string]talk.Command{
	"do fuel 9; set r1 5; out r1": {Verb: talk.Do, Program: small}, "do fuel 1; out r0": {Verb: talk.Do, Program: api.Program{Fuel: 1, Code: []api.Code{{Op: api.OpOut}}}},
	"tick 3": {Verb: talk.Tick, A: 3}, "tick -1": {Verb: talk.Tick, A: -1}, "sync": {Verb: talk.Sync}, "read 1 -5": {Verb: talk.Read, A: 1, B: -5}, "read 0 0": {Verb: talk.Read},
	"scan 1 -9223372036854775808 9223372036854775807 4": {Verb: talk.Scan, A: 1, B: math.MinInt, C: math.MaxInt, D: 4}, "begin": {Verb: talk.Begin}, "step 0": {Verb: talk.Step}, "step 7": {Verb: talk.Step, A: 7}, "close": {Verb: talk.Close}, "state": {Verb: talk.State}, "crash": {Verb: talk.Crash}, "open": {Verb: talk.Open},
}

func same(a, b talk.Command) bool {
	return a.Verb == b.Verb && a.A == b.A && a.B == b.B && a.C == b.C && a.D == b.D && prog.Same(a.Program, b.Program)
}

func made(t *testing.T, x hall.Setup) *hall.Hall {
	t.Helper()
	x.Config = engine.Config{Workers: 2, Policy: api.Policy{PerWrite: 1}}
	h, err := hall.New(x)
	if err != nil {
		t.Fatal(err)
	}
	return h
}

// P27.1, P27.2
func TestLines(t *testing.T) {
	for l, c := range lines {
		if got, err := talk.Print(c); err != nil || got != l {
			t.Error(got, l, err)
		}
		if got, err := talk.Parse(l); err != nil || !same(got, c) {
			t.Error(l, got, err)
		}
	}
}

// P27.1
func TestNoLines(t *testing.T) {
	for _, l := range []string{"", " ", "do", "do ", "do fuel 9", "do fuel 9; ", "do fuel 9;set r1 5", "do fuel 9; set r1 5; ", "do fuel 9; set r1 5;", "do fuel 9;  out r1", "do  fuel 9; out r1", "do fuel 9\nout r1", "do fuel 9; out r1\n", "do fuel 9; out r8", "do fuel 0; out r1", "do fuel 09; out r1", "do fuel 9; out r1 5",
		"tick", "tick ", "tick 1 ", "tick  1", "tick 1 2", "tick 01", "tick +1", "tick -0", "tick x", "tick 9223372036854775808", "Tick 1", "tick\t1", "sync ", "sync 1", "sync\n", " sync", "read 1", "read 1 2 3", "read", "scan 1 2 3", "scan 1 2 3 4 5", "scan 1 2 3 4 ", "begin 0", "step", "close 1", "state x", "crash 1", "open 1", "opens", "nothing", "sync; sync", "read 1 ٣"} {
		c, err := talk.Parse(l)
		if !errors.Is(err, api.ErrForm) || !same(c, talk.Command{}) {
			t.Errorf("%q: %v %v", l, c, err)
		}
		if got := talk.Talk(nil, []string{l}); !slices.Equal(got, []string{"error form"}) {
			t.Errorf("%q: %v", l, got)
		}
	}
	for _, c := range []talk.Command{{}, {Verb: -1}, {Verb: 12}, {Verb: math.MaxInt}, {Verb: math.MinInt}, {Verb: talk.Do}, {Verb: talk.Do, A: 1, Program: small}, {Verb: talk.Do, D: 1, Program: small}, {Verb: talk.Tick, B: 1}, {Verb: talk.Sync, A: 1}, {Verb: talk.Read, C: 1}, {Verb: talk.Scan, Program: small}, {Verb: talk.Scan, Program: api.Program{Fuel: 1}}, {Verb: talk.Begin, Program: api.Program{Code: small.Code}}, {Verb: talk.Step, D: -1}, {Verb: talk.Close, A: 1}, {Verb: talk.State, B: 1}, {Verb: talk.Crash, C: 1}, {Verb: talk.Open, A: 1}, {Verb: talk.Do, Program: api.Program{Fuel: 1, Code: []api.Code{{Op: 99}}}}} {
		if l, err := talk.Print(c); l != "" || !errors.Is(err, api.ErrForm) {
			t.Error(c, l, err)
		}
	}
	if l, err := talk.Print(talk.Command{Verb: talk.Sync, Program: api.Program{Code: []api.Code{}}}); l != "sync" || err != nil {
		t.Error("an empty list is none", err)
	}
}

type wrapped struct{ err error }

func (w wrapped) Error() string { return "wrapped" }
func (w wrapped) Unwrap() error { return w.err }

// P27.1
func TestWord(t *testing.T) {
	words := []string{"range", "form", "down", "full", "program", "fuel", "over", "abort", "corrupt", "readonly", "state", "end"}
	for i, w := range words {
		e := api.Errno(i + 1)
		if talk.Word(e) != w || talk.Word(&api.Fault{At: i - 1, Err: e}) != w+" at "+[]string{"-1", "0", "1", "2", "3", "4", "5", "6", "7", "8", "9", "10"}[i] {
			t.Error(w)
		}
	}
	for w, err := range map[string]error{"": nil, "unknown": errors.New("x"), "unknown at 3": &api.Fault{At: 3, Err: errors.New("x")}, "unknown at 0": &api.Fault{}, "full": wrapped{api.ErrFull}, "over at 4": wrapped{&api.Fault{At: 4, Err: api.ErrOver}}, "over at 5": &api.Fault{At: 5, Err: wrapped{api.ErrOver}}} {
		if got := talk.Word(err); got != w {
			t.Error(got, w)
		}
	}
	if talk.Word(api.Errno(0)) != "unknown" || talk.Word(api.Errno(13)) != "unknown" || talk.Word(wrapped{nil}) != "unknown" {
		t.Error("unknown")
	}
}

// P27.1
func TestNil(t *testing.T) {
	for l, c := range lines {
		if got := talk.Answer(nil, c); got != "error state" {
			t.Error(l, got)
		}
	}
	for _, verb := range []int{0, -1, 12, math.MaxInt} {
		if got := talk.Answer(nil, talk.Command{Verb: verb}); got != "error form" {
			t.Error(verb, got)
		}
	}
	if len(talk.Talk(nil, nil)) != 0 {
		t.Error("no lines")
	}
}

func talked(t *testing.T, h *hall.Hall, script string) {
	t.Helper()
	var ask, want []string
	for _, row := range strings.Split(strings.TrimSpace(script), "\n") {
		a, w, _ := strings.Cut(strings.TrimSpace(row), " => ")
		ask, want = append(ask, a), append(want, w)
	}
	kept := slices.Clone(ask)
	got := talk.Talk(h, ask)
	if len(got) != len(want) || !slices.Equal(kept, ask) {
		t.Fatal("how many", len(got))
	}
	for i := range want {
		if got[i] != want[i] {
			t.Errorf("%q: %q, not %q", ask[i], got[i], want[i])
		}
	}
}

// P27.1
func TestTalk(t *testing.T) {
	h := made(t, hall.Setup{Image: 9, Stream: 6, Streams: 2})
	talked(t, h, `
		state => ok 0 0 2 2
		do fuel 9; set r1 5; out r1 => ok 5 0
		do fuel 9; set r1 5; put t2 r1 r1; out r1 => ok 5 1
		do fuel 9; set r1 -7; put t2 r1 r1; set r1 1; put t2 r1 r0; out r0 => ok 0 2
		state => ok 0 2 2 2
		tick 1 => ok
		state => ok 0 2 2 2
		tick 2 => error range
		tick 0 => ok
		state => ok 2 2 2 2
		read 2 5 => ok 5
		read 2 6 => none
		read 9 5 => none
		scan 2 -9 9 9 => ok -7=-7 1=0 5=5
		scan 2 -9 9 2 => ok -7=-7 1=0
		scan 2 6 9 2 => ok
		do fuel 9; out r1; div r1 r1 r1 => error over at 1
		do fuel 1; out r1; out r1 => error fuel at 1
		do fuel 1; abort r1 = r1 => error abort at 0
		do fuel 1; out r9 => error form
		step 1 => error state
		begin => ok
		begin => error state
		state => ok 2 2 2 2 sweeping
		step 1 => ok more
		do fuel 9; set r1 5; del t2 r1 => ok 0 3
		step 0 => ok more
		step 9 => ok done
		state => ok 3 3 3 2
		sync => ok
		nothing => error form
		crash => ok
		crash => ok
		state => error state
		do fuel 9; set r1 5; out r1 => error state
		sync => error state
		open => ok
		state => ok 3 3 4 3
		scan 2 -9 9 9 => ok -7=-7 1=0
		close => ok
		close => error state
		read 2 5 => error state
		scan 2 5 5 5 => error state
		open => ok
		state => ok 3 3 5 4
		do fuel 9; set r1 5; put t2 r1 r1 => ok 0 4
		crash => ok
		open => ok
		state => ok 3 3 6 5
	`)
	small := made(t, hall.Setup{Image: 9, Stream: 1, Streams: 1})
	talked(t, small, `
		do fuel 9; put t0 r0 r0 => ok 0 1
		begin => ok
		do fuel 9; put t0 r0 r0 => error full
		state => ok 0 1 2 2 readonly sweeping
		do fuel 9; out r0 => error readonly
		begin => error readonly
	`)
	h.Arm(0)
	talked(t, h, `
		sync => error down
		open => error down
		sync => error state
	`)
	if got := talk.Answer(made(t, hall.Setup{Image: 9, Stream: 9, Streams: 1}), talk.Command{Verb: talk.Do}); got != "error program at -1" {
		t.Error(got)
	}
}

// P27.2
func TestThereAndBack(t *testing.T) {
	r := rand.New(rand.NewSource(27))
	var all []string
	for l := range lines {
		all = append(all, l)
	}
	slices.Sort(all)
	for range 4000 {
		b := []byte(all[r.Intn(len(all))])
		for range r.Intn(3) {
			switch i := r.Intn(len(b)); r.Intn(3) {
			case 0:
				b[i] = " 0123456789-;\nrtdoseucy"[r.Intn(23)]
			case 1:
				b = slices.Insert(b, i, " 019-; r"[r.Intn(8)])
			default:
				if len(b) > 1 {
					b = slices.Delete(b, i, i+1)
				}
			}
		}
		c, err := talk.Parse(string(b))
		if err != nil {
			continue
		}
		if again, err := talk.Print(c); err != nil || again != string(b) {
			t.Fatalf("%q %q", b, again)
		}
	}
}

// P27.3
func TestNothingKept(t *testing.T) {
	h := made(t, hall.Setup{Image: 9, Stream: 6, Streams: 1})
	c, _ := talk.Parse("do fuel 9; set r1 5; put t0 r1 r1")
	talk.Answer(h, c)
	if l, err := talk.Print(c); err != nil || l != "do fuel 9; set r1 5; put t0 r1 r1" {
		t.Error("changed", l)
	}
	c.Program.Code[0].N = 6
	if d, _ := talk.Parse("do fuel 9; set r1 5; put t0 r1 r1"); d.Program.Code[0].N != 5 {
		t.Error("shared")
	}
}
