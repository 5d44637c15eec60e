/- The contract of the document's Torn. -/
import Derived.Test.YtiemjgkpjmncfaaEq
namespace Go.Proofs.Ytiemjgkpjmncfaa
set_option maxRecDepth 100000
open Go.RowKit

theorem tornN_length (o f : List Nat) (k : Nat) (ho : o.length = 64) (hf : f.length = 64) (hk : k ≤ 64) : (tornN o f k).length = 64 := by simp [tornN]; omega
theorem tornN_set (o f : List Nat) (k : Nat) (ho : o.length = 64) (hf : f.length = 64) (hk : k < 64) : (tornN o f k).set k (f.getD k 0) = tornN o f (k + 1) := by
  unfold tornN
  have h1 : (f.take k).length = k := by simp; omega
  have h2 : o.drop k = o[k] :: o.drop (k + 1) := List.drop_eq_getElem_cons (by omega)
  rw [h2, set_mid _ _ _ _ k h1]
  have h3 : f.take (k + 1) = f.take k ++ [f.getD k 0] := by
    rw [List.take_add_one, List.getD_eq_getElem?_getD, List.getElem?_eq_getElem (show k < f.length by omega)]
    rfl
  rw [h3]
  simp
/-- How many bytes a tear takes. -/
def tearN (t : Int) : Nat := min 64 t.toNat
theorem res46 {w : World} {g : Nat} {l : List Nat} (h : Sec w g l) (hl : l.length = 64) (tmps : Array Value) (h2 : tmps.getD 6 undef = .pointer (some ⟨g, 0, none⟩)) :
    (results Try.f46 tmps).run Try.prog w = .ok (.agg (secV l)) w :=
  results_cell_row Try.results46 tmps w g 50 _ (0, 0) _ h2 h Try.underlying50 rfl (info_sec hl)
set_option maxHeartbeats 1000000 in
theorem torn_any (o f : List Nat) (ho : o.length = 64) (hf : f.length = 64) (hfs : ∀ x ∈ f, x < 256) (t : Int) (w : World) :
    Calls Try.prog 46 #[.agg (secV o), .agg (secV f), .int .i64 t] w fun e w' => e = .returned (.agg (secV (tornN o f (tearN t)))) ∧ Below w.heap.size w w' := by
  have h0 : Sec (((w.alloc (.cells (secV o) 50)).alloc (.cells (secV f) 50)).alloc (.cells (secV (noughts 64)) 50)) w.heap.size (tornN o f 0) := ((show Sec (w.alloc (.cells (secV o) 50)) w.heap.size (tornN o f 0) from heap_alloc_new w _).alloc _).alloc _
  have h1 : Sec (((w.alloc (.cells (secV o) 50)).alloc (.cells (secV f) 50)).alloc (.cells (secV (noughts 64)) 50)) (w.heap.size + 1) f := (show Sec ((w.alloc (.cells (secV o) 50)).alloc (.cells (secV f) 50)) (w.heap.size + 1) f from heap_alloc2_new w _ _).alloc _
  have h2 : Sec (((w.alloc (.cells (secV o) 50)).alloc (.cells (secV f) 50)).alloc (.cells (secV (noughts 64)) 50)) (w.heap.size + 1 + 1) (noughts 64) := heap_alloc3_new w _ _ _
  have hb : Below w.heap.size w (((w.alloc (.cells (secV o) 50)).alloc (.cells (secV f) 50)).alloc (.cells (secV (noughts 64)) 50)) := (((Below.refl _ w).alloc (Nat.le_refl _) _).alloc (by simp) _).alloc (by simp; omega) _
  have HO := Lib.hid ho
  have HF := Lib.hid hf
  have HFS := Lib.hid hfs
  obtain ⟨T, hT⟩ : ∃ T, T = tearN t := ⟨_, rfl⟩
  have hTd : T = min 64 t.toNat := hT
  have hT1 : T ≤ 64 := by omega
  have hT2 : ∀ k : Nat, k < T → (k : Int) < t := fun k h => by omega
  have hT3 : T < 64 → ¬ (T : Int) < t := fun h => by omega
  have HT2 := Lib.hid hT2
  have HT3 := Lib.hid hT3
  rw [← hT]
  clear ho hf hfs hT hTd hT2 hT3
  go_enter Try.func46, Try.ntmps46
  go_wp2_with fail
  rw [zeros_sec]
  obtain ⟨w1, hw1⟩ : ∃ w1, w1 = (((w.alloc (.cells (secV o) 50)).alloc (.cells (secV f) 50)).alloc (.cells (secV (noughts 64)) 50)) := ⟨_, rfl⟩
  rw [← hw1] at h0 h1 h2 hb ⊢
  clear hw1
  go_loopw [7] (fun i wr => ∃ k : Nat, i = .int .i64 (k : Int) ∧ k ≤ T ∧ Sec wr w.heap.size (tornN o f k) ∧ Sec wr (w.heap.size + 1) f ∧ Sec wr (w.heap.size + 1 + 1) (noughts 64) ∧ Below w.heap.size w wr) (fun i _ => T - (intOf i).toNat)
  case atStart => exact ⟨0, rfl, Nat.zero_le _, h0, h1, h2, hb⟩
  case round =>
    clear h0 h1 h2 hb
    obtain ⟨k, rfl, hk, h0, h1, h2, hb⟩ := hrel
    by_cases hlt : k < T
    · have hk64 : k < 64 := by omega
      have hkt : (k : Int) < t := HT2.out k hlt
      have c0 := h0.cell k (by rw [tornN_length o f k HO.out HF.out (by omega)]; exact hk64)
      have f0 := h0.frozen k
      have c1 := h1.cell k (by rw [HF.out]; exact hk64)
      obtain ⟨x, hx⟩ : ∃ x, x = f.getD k 0 := ⟨_, rfl⟩
      obtain ⟨y, hy⟩ : ∃ y, y = (tornN o f k).getD k 0 := ⟨_, rfl⟩
      rw [← hx] at c1
      rw [← hy] at c0
      have hn := h0.set k x
      rw [hx, tornN_set o f k HO.out HF.out hk64, ← hx] at hn
      have HN := Lib.hid hn
      have H1 := Lib.hid (h1.other ⟨w.heap.size, k, none⟩ (.int .u8 (x : Int)) (by show w.heap.size + 1 ≠ w.heap.size; omega))
      have H2 := Lib.hid (h2.other ⟨w.heap.size, k, none⟩ (.int .u8 (x : Int)) (by show w.heap.size + 1 + 1 ≠ w.heap.size; omega))
      have HB := Lib.hid (hb.setCell (show w.heap.size ≤ (⟨w.heap.size, k, none⟩ : Addr).block from Nat.le_refl _) (.int .u8 (x : Int)))
      clear hn h0 h1 h2 hb hx hy
      go_wp2_with fail
      exact ⟨⟨k + 1, by go_num, by omega, HN.out, H1.out, H2.out, HB.out⟩, by simp [intOf]; omega⟩
    · obtain rfl : k = T := by omega
      have hl := tornN_length o f k HO.out HF.out (by omega)
      have hst := store_sec h2 noughts64 hl
      have hsz : (secV (tornN o f k)).size = 64 := by rw [secV_size, hl]
      have HP := Lib.hid (h2.put (tornN o f k))
      have HB := Lib.hid (below_setRow hb (show w.heap.size ≤ w.heap.size + 1 + 1 by omega) (secV (tornN o f k)))
      have H0 := Lib.hid h0
      have HLL := Lib.hid hl
      clear h0 h1 h2 hb hl
      rcases Nat.lt_or_ge k 64 with h64 | h64
      · have d1 : decide ((k : Int) < 64) = true := decide_eq_true (by omega)
        have d2 : decide ((k : Int) < t) = false := decide_eq_false (Int.not_lt.2 (HT3.out h64))
        go_wp2_with (first | refine wpList_load_sec (by rfl) (.tmp 3) rfl w.heap.size rfl _ HLL.out H0.out ?_)
        exact bodyPost_ret (res46 HP.out HLL.out _ rfl) rfl ⟨rfl, HB.out⟩
      · have d1 : decide ((k : Int) < 64) = false := decide_eq_false (by omega)
        go_wp2_with (first | refine wpList_load_sec (by rfl) (.tmp 3) rfl w.heap.size rfl _ HLL.out H0.out ?_)
        exact bodyPost_ret (res46 HP.out HLL.out _ rfl) rfl ⟨rfl, HB.out⟩
end Go.Proofs.Ytiemjgkpjmncfaa
