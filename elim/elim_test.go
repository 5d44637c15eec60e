package elim_test

import (
	"math/rand"
	"slices"
	"testing"

	"sluiceway/api"
	"sluiceway/elim"
	"sluiceway/foot"
	"sluiceway/record"
)

func key(k int) api.Key                  { return api.Key{Table: k / 10 % 4, K: k} }
func put(k, v int) api.Write             { return api.Write{Key: key(k), V: v} }
func value(w ...api.Write) record.Record { return record.Record{Value: true, Writes: w} }
func keys(list ...int) []api.Key {
	var out []api.Key
	for _, k := range list {
		out = append(out, key(k))
	}
	return out
}
func command(reads, writes []api.Key, spans ...api.Span) record.Record {
	return record.Record{Program: api.Program{Fuel: 1, Code: []api.Code{{}}}, Foot: api.Foot{Reads: reads, Spans: spans, Writes: writes}}
}
func sameFoot(a, b api.Foot) bool {
	return slices.Equal(a.Reads, b.Reads) && slices.Equal(a.Spans, b.Spans) && slices.Equal(a.Writes, b.Writes)
}

// kept is the chapter's words, write by write.
func kept(list []record.Record, i int, w api.Write) bool {
	for _, r := range list[i+1:] {
		f := record.Touch(r)
		if foot.Reads(f, w.Key) {
			return true
		}
		if foot.Writes(f, w.Key) {
			return false
		}
	}
	return true
}

func check(t *testing.T, list []record.Record) {
	t.Helper()
	k, idle, lean := elim.Kept(list), elim.Idle(list), elim.Lean(list)
	if len(k) != len(list) || len(idle) != len(list) || len(lean) != len(list) {
		t.Fatal("how many")
	}
	for i, r := range list {
		if !r.Value {
			if len(k[i]) != 0 || idle[i] || !sameFoot(lean[i], foot.Join(r.Foot)) {
				t.Fatal("command", i)
			}
			continue
		}
		var want []api.Write
		touched := api.Foot{}
		for _, w := range r.Writes {
			if kept(list, i, w) {
				want = append(want, w)
				touched.Writes = append(touched.Writes, w.Key)
			}
		}
		if !slices.Equal(k[i], want) || idle[i] != (len(want) == 0) || !sameFoot(lean[i], foot.Join(touched)) {
			t.Fatal("value", i, k[i], want, idle[i], lean[i])
		}
	}
}

// P20.1
func TestExamples(t *testing.T) {
	if len(elim.Kept(nil)) != 0 || len(elim.Idle(nil)) != 0 || len(elim.Lean(nil)) != 0 {
		t.Error("nothing")
	}
	two := []record.Record{value(put(1, 1)), value(put(1, 2))}
	if !slices.Equal(elim.Idle(two), []bool{true, false}) || len(elim.Kept(two)[0]) != 0 || !slices.Equal(elim.Kept(two)[1], two[1].Writes) {
		t.Error("two")
	}
	for i, list := range [][]record.Record{
		two, {value()}, {value(), command(nil, nil)},
		{value(put(1, 1)), command(keys(1), nil), value(put(1, 2))},
		{value(put(1, 1)), command(nil, nil, api.Span{Table: 0, Lo: 0, Hi: 1}), value(put(1, 2))},
		{value(put(1, 1)), command(nil, nil, api.Span{Table: 1, Lo: 0, Hi: 1}), value(put(1, 2))},
		{value(put(1, 1)), command(nil, keys(1)), value(put(1, 2))},
		{value(put(1, 1)), command(keys(1), keys(1)), value(put(1, 2))},
		{value(put(1, 1)), value(put(1, 2)), command(keys(1), nil)},
		{value(put(1, 1), put(2, 2), put(12, 3)), value(put(2, 2)), command(keys(2), nil), command(nil, keys(12))},
		{command(keys(5, 1), keys(7, 7, 2), api.Span{Lo: 1, Hi: 2}, api.Span{Lo: 3, Hi: 4}), value(put(9, 1), put(3, 2), put(3, 3))},
	} {
		check(t, list)
		_ = i
	}
	if got := elim.Idle([]record.Record{value(put(1, 1)), command(keys(1), keys(1))}); got[0] {
		t.Error("read by the one that writes it")
	}
	if got := elim.Idle([]record.Record{value(put(1, 1)), command(nil, keys(1))}); !got[0] {
		t.Error("written by a command")
	}
	lost := []record.Record{value(put(1, 1), put(2, 2), put(3, 3)), value(put(2, 5))}
	if got := elim.Kept(lost)[0]; !slices.Equal(got, []api.Write{put(1, 1), put(3, 3)}) {
		t.Error(got)
	}
}

func some(r *rand.Rand) []record.Record {
	list := make([]record.Record, r.Intn(10))
	for i := range list {
		if r.Intn(3) > 0 {
			list[i] = value()
			for range r.Intn(4) {
				list[i].Writes = append(list[i].Writes, api.Write{Key: key(r.Intn(14)), V: r.Intn(9), Dead: r.Intn(5) == 0})
			}
			continue
		}
		var f api.Foot
		for range r.Intn(3) {
			f.Reads = append(f.Reads, key(r.Intn(14)))
			f.Writes = append(f.Writes, key(r.Intn(14)))
		}
		if r.Intn(3) == 0 {
			f.Spans = append(f.Spans, api.Span{Table: r.Intn(2), Lo: r.Intn(14), Hi: r.Intn(14)})
		}
		list[i] = command(f.Reads, f.Writes, f.Spans...)
	}
	return list
}

// P20.1
func TestLikeTheWords(t *testing.T) {
	r := rand.New(rand.NewSource(21))
	for range 3000 {
		check(t, some(r))
	}
}

// P20.2: commands that copy what they read; what is left out is never seen.
func TestNobodySees(t *testing.T) {
	r := rand.New(rand.NewSource(22))
	for range 3000 {
		list := some(r)
		kept := elim.Kept(list)
		all, lean := map[api.Key]int{}, map[api.Key]int{}
		for i, x := range list {
			if x.Value {
				for _, w := range x.Writes {
					all[w.Key] = i*100 + w.V
				}
				for _, w := range kept[i] {
					lean[w.Key] = i*100 + w.V
				}
				continue
			}
			for _, m := range []map[api.Key]int{all, lean} {
				sum := i
				for k := range 14 {
					if foot.Reads(x.Foot, key(k)) {
						sum += 7*m[key(k)] + k
					}
				}
				for _, k := range x.Foot.Writes {
					m[k] = sum
				}
			}
		}
		for k := range 14 {
			if all[key(k)] != lean[key(k)] {
				t.Fatal(list, k)
			}
		}
	}
}

// P20.3
func TestNothingKept(t *testing.T) {
	w := []api.Write{put(3, 3), put(1, 1), put(2, 2), put(9, 9)}
	list := []record.Record{value(w[:3]...), command(keys(5, 4), keys(2))}
	got, lean := elim.Kept(list), elim.Lean(list)
	_ = append(got[0], put(8, 8))
	got[0][0] = put(7, 7)
	lean[1].Reads[0] = key(0)
	lean[0].Writes[0] = key(0)
	if !slices.Equal(w, []api.Write{put(3, 3), put(1, 1), put(2, 2), put(9, 9)}) || !slices.Equal(list[1].Foot.Reads, keys(5, 4)) {
		t.Error("changed")
	}
}
