/- Sure. -/
import Derived.Test.YthmebgpleegonaaDFlush
namespace Go.Proofs.Ythmebgpleegonaa
set_option maxRecDepth 100000
open Go.RowKit

section
variable {w : World} {F : Nat → Prop} {g : Nat} {p : Pw} {v : Value} {L : List DM}
theorem resultsSure {w : World} {b : Nat} {x : Sx} (h : SBlk w b x) (tmps : Array Value) (h2 : tmps.getD 6 undef = .pointer (some ⟨b, 0, none⟩)) :
    (results Try.f22 tmps).run Try.prog w = .ok x.val w := by
  have h2' : tmps[6]?.getD undef = .pointer (some ⟨b, 0, none⟩) := by simpa using h2
  have e : Try.f22.results = #[.cell 6 50] := Try.results22
  simp only [results, e]
  simp [asAddr, h2', h.load]
set_option maxHeartbeats 4000000 in
theorem sure_none (h : SetM w F g p v L) (d i : Int) (hl : L.length ≤ 1000) (hb : hasB (L.map DM.dk) d i = false) :
    Calls Try.prog 22 #[.pointer (some ⟨g, 0, none⟩), .int .i64 d, .int .i64 i] w fun e w' => e = .returned Sx.zero.val ∧ Below w.heap.size w w' := by
  have hba : Below w.heap.size w (w.alloc (.cells Sx.zero.arr 50)) := (Below.refl _ _).alloc (Nat.le_refl _) _
  have HB := Lib.hid hba
  have hh := has_any (h.below hba) d i hl
  rw [hb] at hh
  have HH := Lib.hid hh
  have HZ := Lib.hid (show SBlk (w.alloc (.cells Sx.zero.arr 50)) w.heap.size Sx.zero from heap_alloc_new w _)
  clear hba hh hb h
  go_enter Try.func22, Try.ntmps22
  go_upto_region 1 with fail
  rw [zero_arr]
  revert HB HH HZ
  generalize World.alloc w _ = W
  intro HB HH HZ
  go_wp2_with fail
  refine Calls.mono HH.out ?_
  rintro e w1 ⟨rfl, rfl⟩
  have hst := HZ.out.store Sx.zero
  have HP := Lib.hid (HZ.out.put Sx.zero)
  have HPB := Lib.hid (setRow_below HB.out (b := w.heap.size) (cs := Sx.zero.arr) (Nat.le_refl _))
  go_wp2_with (refine wpList_store_val rfl (.tmp 6) (.tmp 12) rfl rfl Sx.zero.val (congrArg Value.agg zero_arr) hst ?_)
  exact bodyPost_ret (resultsSure HP.out _ rfl) rfl ⟨rfl, HPB.out⟩
set_option maxHeartbeats 4000000 in
theorem sure_any (h : SetM w F g p v L) (j : Nat) (hj : j < L.length) (i : Int) (hl : L.length ≤ 1000) (hi : 0 ≤ i ∧ i < (L[j].dk.size : Int)) (hwi : WfI i) :
    Calls Try.prog 22 #[.pointer (some ⟨g, 0, none⟩), .int .i64 (j : Int), .int .i64 i] w fun e w' => e = .returned (L[j].dk.sure i).val ∧ Below w.heap.size w w' := by
  have hba : Below w.heap.size w (w.alloc (.cells Sx.zero.arr 50)) := (Below.refl _ _).alloc (Nat.le_refl _) _
  have HB := Lib.hid hba
  have h1 := h.below hba
  have hh := has_any h1 (j : Int) i hl
  rw [hasB_at hj, decide_eq_true hi.1, decide_eq_true hi.2] at hh
  have HH := Lib.hid hh
  have HZ := Lib.hid (show SBlk (w.alloc (.cells Sx.zero.arr 50)) w.heap.size Sx.zero from heap_alloc_new w _)
  obtain ⟨_, _, _, _, c4⟩ := h1.c
  obtain ⟨A, c, rfl, hle, hc⟩ := h1.slice
  obtain ⟨b, rfl, _, _, _, _, c2, _⟩ := hc j hj
  have HL := Lib.hid ((h1.each j hj).map.look i hwi)
  obtain ⟨N, hN⟩ : ∃ N, N = L.length := ⟨_, rfl⟩
  obtain ⟨m, hm⟩ : ∃ m, m = L[j].m := ⟨_, rfl⟩
  obtain ⟨x, hx⟩ : ∃ x, x = L[j].dk.sure i := ⟨_, rfl⟩
  rw [← hN] at c4 hle hj hl
  rw [← hm] at c2 HL
  rw [← hx] at HL ⊢
  clear hba hh h h1 hc hi hwi hN hm hx
  go_enter Try.func22, Try.ntmps22
  go_upto_region 1 with fail
  rw [zero_arr]
  revert HB HH HZ HL
  generalize World.alloc w _ = W at c4 c2 ⊢
  intro HB HH HZ HL
  go_wp2_with fail
  refine Calls.mono HH.out ?_
  rintro e w1 ⟨rfl, rfl⟩
  have hlk := HL.out
  have hst := HZ.out.store x
  have HP := Lib.hid (HZ.out.put x)
  have HPB := Lib.hid (setRow_below HB.out (b := w.heap.size) (cs := x.arr) (Nat.le_refl _))
  go_wp2_with (refine wpList_store_val rfl (.tmp 6) (.tmp 22) rfl rfl x.val rfl hst ?_)
  exact bodyPost_ret (resultsSure HP.out _ rfl) rfl ⟨rfl, HPB.out⟩
end
end Go.Proofs.Ythmebgpleegonaa
