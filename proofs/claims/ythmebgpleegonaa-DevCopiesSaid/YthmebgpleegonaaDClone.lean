/- Clones of a device's parts; one device more in a set: any device, its parts in new blocks. -/
import Derived.Test.YthmebgpleegonaaDSt
import Derived.Test.YthmebgpleegonaaDNew
import Derived.Test.YthmebgpleegonaaDRefW
import Derived.Test.YthmebgpleegonaaDRefO
import Derived.Shelf.SlMaps.Clone
import Derived.Lib.SliceRun
namespace Go.Proofs.Ythmebgpleegonaa
set_option maxRecDepth 100000
open Go.RowKit

theorem fn47 : Try.prog.funcs[47]? = some (Try.prog.funcs.getD 47 default) := by kernel_rfl
set_option maxHeartbeats 2000000 in
theorem clone_map {w : World} {m n : Nat} {f : Int → Sx} (h : MapS w m n f) :
    Calls Try.prog 40 #[.map (some m)] w fun e w' => e = .returned (.map (some w.heap.size)) ∧ MapS w' w.heap.size n f ∧ Below w.heap.size w w' := by
  obtain ⟨D, ⟨es, clock, hb, hF⟩, hf⟩ := h
  have H0 := Lib.hid (And.intro hF hf)
  clear hF hf
  have hq := fun w => run_eql_map_nil_sl (P := Try.prog) w 78 _ _ (some m) Try.underlying78
  go_enter Try.func40, Try.ntmps40
  go_wp2
  rw [run_callFunc_extern fn47 (by kernel_rfl) (by kernel_rfl) (by kernel_rfl) (e := Extern.MapsClone.clone) (by kernel_rfl), run_maps_clone_sl w 78 hb]
  simp only [Result.andThen]
  rw [Oper.upon_value]
  go_wp2
  rw [run_typeAssert_map_sl _ 78 _ _ _ _ Try.underlying78]
  simp only [Result.andThen]
  rw [Oper.upon_value]
  go_wp2
  go_ret
  exact ⟨rfl, ⟨D, ⟨es, clock, (MapKept.heap_alloc w _).1, H0.out.1⟩, H0.out.2⟩, (Below.refl _ w).alloc (Nat.le_refl _) _⟩
set_option maxHeartbeats 2000000 in
theorem clone_waits {w : World} {v : Value} {n : Nat} {l : List Wx} (h : w.ownsRow 0 99 65 v n (rowV Wx.vals l)) (hn : n ≤ 1000000000) :
    Calls Try.prog 41 #[v] w fun e w' => ∃ v', e = .returned v' ∧ w'.ownsRow w.heap.size 99 65 v' n (rowV Wx.vals l) ∧ Below w.heap.size w w' := by
  obtain ⟨A, c, rfl, hr, hnil, hle⟩ := rdv_own h
  rcases A with _ | ad
  · obtain rfl := hnil rfl
    have hn0 : n = 0 := by omega
    subst hn0
    have HX := Lib.hid (show rowV Wx.vals l = [] from List.eq_nil_of_length_eq_zero (by rw [hr.1]))
    clear h hr hnil hle
    have hq := fun w => Go.Lib.run_eql_slice_nil (P := Try.prog) w 79 99 none 0 0 0 0 Try.underlying79
    go_enter Try.func41, Try.ntmps41
    go_wp2_with fail
    go_ret
    exact ⟨_, rfl, by rw [HX.out]; exact World.ownsRow_nil _ _ _ _, Below.refl _ _⟩
  · have HR := Lib.hid hr
    clear h hr hnil
    have hq := fun w => Go.Lib.run_eql_slice_nil (P := Try.prog) w 79 99 (some ad) n c 0 0 Try.underlying79
    go_enter Try.func41, Try.ntmps41
    go_wp2_with (at_builtin; refine wpList_append_copy elem79 rfl (.tmp 5) (.tmp 6) rfl rfl (some ad) n c (rowV Wx.vals l) rfl HR.out (rowWx_one _) (fun h => by cases h) (by unfold maxLen; omega) (by omega) ?_; intro b5 c5 w5 hown5 hb5 hbl5)
    go_ret
    exact ⟨_, rfl, hown5, hbl5⟩
theorem own_low {w : World} {B B' e size n : Nat} {v : Value} {xs : List Value} (h : w.ownsRow B e size v n xs) (hB : B' ≤ B) : w.ownsRow B' e size v n xs := by
  refine ⟨h.1, ?_⟩
  rcases h.2 with h0 | ⟨g, cap, cur, rfl, h1, h2⟩
  · exact .inl h0
  · exact .inr ⟨g, cap, cur, rfl, Nat.le_trans hB h1, h2⟩
/-- A device's parts, of their own memory. -/
structure CP (W : World) (B : Nat) (d : DM) : Prop where
  map : MapS W d.m d.n d.dk.sure
  wts : W.ownsRow B 99 65 d.v d.dk.waits.length (rowV Wx.vals d.dk.waits)
  low : B ≤ d.m
theorem CP.keep {W W' : World} {B : Nat} {d : DM} (h : CP W B d) (hk : ∀ k, B ≤ k → k < W.heap.size → W'.heap[k]? = W.heap[k]?) : CP W' B d :=
  ⟨h.map.keep (hk _ h.low h.map.lt), own_same h.wts fun q e => hk q (h.wts.lt q e).1 (h.wts.lt q e).2, h.low⟩
section
variable {w : World} {F : Nat → Prop} {g : Nat} {p : Pw} {v : Value} {L : List DM}
/-- One device more. -/
theorem SetM.adddisk {d : DM} {v' : Value} {W' : World} (h : SetM w F g p v L)
    (ho : W'.ownsRow 0 81 3 v' (L.length + 1) (rowV DM.vals L ++ d.vals))
    (hg : w.grownBy W' v.ownBlock) (hk : ∀ k, v'.ownBlock = some k → v.ownBlock = some k ∨ w.heap.size ≤ k) (hd : CP W' w.heap.size d) :
    W'.cell? ⟨g, 4, none⟩ = some v ∧ W'.frozen? ⟨g, 4, none⟩ = false ∧
    SetM (W'.setCell ⟨g, 4, none⟩ v') (fun k => F k ∨ k = d.m ∨ d.v.ownBlock = some k ∨ v'.ownBlock = some k) g p v' (L ++ [d]) ∧ Chg w (W'.setCell ⟨g, 4, none⟩ v') F (fun k => F k ∨ k = d.m ∨ d.v.ownBlock = some k ∨ v'.ownBlock = some k) := by
  have hsz := hg.size
  have hvg : v.ownBlock ≠ some g := type_ne h.own h.block (by decide)
  have hkeep : ∀ k, k < w.heap.size → v.ownBlock ≠ some k → W'.heap[k]? = w.heap[k]? := fun k hk hne => hg.block k hk (fun e => hne e.symm)
  have hgb := (hkeep g h.glt hvg).trans h.block
  have keep2 : ∀ k, k ≠ g → (W'.setCell ⟨g, 4, none⟩ v').heap[k]? = W'.heap[k]? := fun k hk => Deep.blk_setCell_other W' ⟨g, 4, none⟩ v' k hk
  have hv2 : ∀ q, v'.ownBlock = some q → q ≠ g := fun q e e2 => type_ne ho hgb (by decide) (by rw [e, e2])
  have glt := h.glt
  have mlt := hd.map.lt
  have old : ∀ j (hj : j < L.length), DMok (W'.setCell ⟨g, 4, none⟩ v') (fun k => F k ∨ k = d.m ∨ d.v.ownBlock = some k ∨ v'.ownBlock = some k) L[j] := fun j hj => by
    have hd := h.each j hj
    exact ⟨hd.map.keep ((keep2 _ (map_ne hd.map h.block)).trans (hkeep _ (h.Flt _ hd.Fm) (map_row hd.map h.own))), .inl hd.Fm, own_same hd.waits fun q e => (keep2 q (fun e2 => type_ne hd.waits h.block (by decide) (by rw [e, e2]))).trans (hkeep q (h.Flt q (hd.Fw q e)) (own_ne h.own hd.waits (by decide) q e)), fun q e => .inl (hd.Fw q e)⟩
  have new : DMok (W'.setCell ⟨g, 4, none⟩ v') (fun k => F k ∨ k = d.m ∨ d.v.ownBlock = some k ∨ v'.ownBlock = some k) d :=
    ⟨hd.map.keep (keep2 _ (by have := hd.low; omega)), .inr (.inl rfl), own_same (own_low hd.wts (Nat.zero_le _)) fun q e => keep2 q (by have := (hd.wts.lt q e).1; omega), fun q e => .inr (.inr (.inl e))⟩
  refine ⟨(cell_of_row W' g 4 _ _ (0, 0) hgb).trans rfl, frozen_at hgb 4, ⟨.inl h.Fg, fun k hk => ?_, ?_, ?_, fun k e => .inr (.inr (.inr e)), fun j hj => ?_, fun i j hi hj hne => ?_⟩, ⟨hg.os, hg.tape, hg.output, by rw [World.size_setCell]; omega, fun k hk hne => ?_, fun k e => ?_⟩⟩
  · rw [World.size_setCell]
    rcases hk with e | e | e | e
    · have := h.Flt k e; omega
    · omega
    · exact (hd.wts.lt k e).2
    · exact (ho.lt k e).2
  · exact (box_set hgb 4 v').trans (by rfl)
  · rw [List.length_append, rowV_append]
    have e : rowV DM.vals [d] = d.vals := by simp [rowV]
    rw [e]
    exact own_same ho fun q e => keep2 q (hv2 q e)
  · rw [List.getElem_append]
    split
    · exact old j _
    · have e : j - L.length = 0 := by rw [List.length_append] at hj; simp at hj; omega
      simp only [e, List.getElem_cons_zero]
      exact new
  · rw [List.length_append] at hi hj
    simp only [List.length_singleton] at hi hj
    rw [List.getElem_append, List.getElem_append]
    by_cases h1 : i < L.length
    · by_cases h2 : j < L.length
      · rw [dif_pos h1, dif_pos h2]
        exact h.apart i j h1 h2 hne
      · have e : j - L.length = 0 := by omega
        rw [dif_pos h1, dif_neg h2]
        simp only [e, List.getElem_cons_zero]
        exact ⟨fun e2 => by have := h.Flt _ (h.each i h1).Fm; rw [e2] at this; have := hd.low; omega, fun k e2 e3 => by have := h.Flt _ ((h.each i h1).Fw k e2); have := (hd.wts.lt k e3).1; omega⟩
    · have e : i - L.length = 0 := by omega
      by_cases h2 : j < L.length
      · rw [dif_neg h1, dif_pos h2]
        simp only [e, List.getElem_cons_zero]
        exact ⟨fun e2 => by have := h.Flt _ (h.each j h2).Fm; rw [← e2] at this; have := hd.low; omega, fun k e2 e3 => by have := h.Flt _ ((h.each j h2).Fw k e3); have := (hd.wts.lt k e2).1; omega⟩
      · omega
  · have hkg : k ≠ g := fun e => hne (by rw [e]; exact h.Fg)
    exact (keep2 k hkg).trans (hkeep k hk (fun e => hne (h.Fv k e)))
  · rcases e with e | e | e | e
    · exact .inl e
    · right; rw [e]; exact hd.low
    · exact .inr (hd.wts.lt k e).1
    · rcases hk k e with e2 | e2
      · exact .inl (h.Fv k e2)
      · exact .inr e2
end
end Go.Proofs.Ythmebgpleegonaa
