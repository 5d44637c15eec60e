/- The copy and its parts are apart. -/
import Derived.Test.YtiemjgkpjmncfaaMarkK
namespace Go.Proofs.Ytiemjgkpjmncfaa
set_option maxRecDepth 100000
open Go.RowKit

theorem ownB_zero {w : World} {B n c : Nat} {A : Option Addr} {xs : List Nat} (h : w.ownsRow B 5 1 (.slice A n c) n (valsB xs)) : Og w A n c xs := by
  refine ⟨h.1, ?_⟩
  rcases h.2 with h0 | ⟨g, cap, cur, e, _, h2⟩
  · exact .inl h0
  · exact .inr ⟨g, cap, cur, e, Nat.zero_le _, h2⟩
theorem Bel.trans {B : Nat} {a b c : World} (h : Bel B a b) (k : Bel B b c) : Bel B a c := ⟨h.bel.trans k.bel, h.oth.trans k.oth⟩
theorem parts_apart {w4 U : World} {y z5 z6 g n cap N B1 cg : Nat} {ds : List Nat} {Rg : Option Addr} {va : Value} {Af : Nat → Option Addr} {cf : Nat → Nat} (h : GI w4 y z5 z6 ds N U (.slice Rg N cg) va Af cf)
    (ho : U.ownsRow B1 5 1 (.slice (some ⟨g, 0, none⟩) n cap) n (valsB ds)) (hgy : g < y) (hB1 : B1 ≤ y) (hyU : y ≤ U.heap.size) (hn : n ≤ 5000) (hN : N ≤ 5000) :
    ∃ R' c' Wb, (Builtin.append_ #[86, 86] 86 #[.slice (some ⟨U.heap.size, 0, none⟩) 1 1, .slice Rg N cg]).run Try.prog (U.alloc (.cells #[.slice (some ⟨g, 0, none⟩) n cap] 45)) = .ok (.slice R' (1 + N) c') Wb ∧
      (Calls Try.prog 43 #[.slice R' (1 + N) c'] Wb fun e w' => e = .returned (.bool true) ∧ Bel B1 Wb w') ∧ Bel B1 U Wb := by
  obtain ⟨Wa, hWa⟩ : ∃ Wa, Wa = U.alloc (.cells #[.slice (some ⟨g, 0, none⟩) n cap] 45) := ⟨_, rfl⟩
  have hsa : Wa.heap.size = U.heap.size + 1 := by rw [hWa, World.size_alloc]
  have hlit : Wa.ownsRow U.heap.size 45 1 (.slice (some ⟨U.heap.size, 0, none⟩) 1 1) 1 [.slice (some ⟨g, 0, none⟩) n cap] :=
    ⟨rfl, .inr ⟨U.heap.size, 1, #[.slice (some ⟨g, 0, none⟩) n cap], rfl, Nat.le_refl _, by rw [hWa]; exact heap_alloc_new U _, Nat.le_refl _, by decide, rfl, rfl⟩⟩
  have oldA : ∀ b, b < U.heap.size → Wa.heap[b]? = U.heap[b]? := fun b hb => by rw [hWa]; exact heap_old U _ b hb
  obtain ⟨_, _, eR, hrg, hnil, _⟩ := rdv_own h.got
  injection eR with eR1 _ eR2
  subst eR1 eR2
  have hrga : Rdv Wa Rg N 1 (rowsL ds Af cf N) := hrg.same fun b off e => oldA b (by
    have h5 := own_at h.got (show (Value.slice Rg N cg).ownBlock = some b by rw [e]; rfl)
    exact (own_cells h.got b (slice_block h5)).2.1)
  have hone : ∀ u ∈ rowsL ds Af cf N, u.oneCell' = true := fun u hu => by
    simp only [rowsL, List.mem_map] at hu
    obtain ⟨i, _, rfl⟩ := hu
    rfl
  obtain ⟨v', Wb, hrun, hown, hgr, _⟩ := run_append_row elemL Wa U.heap.size 86 _ 1 _ hlit Rg N cg (rowsL ds Af cf N) hrga hone hnil (by unfold maxLen; omega) (by omega) (by omega)
  obtain ⟨R', c', rfl, hr', _, _⟩ := rdv_own hown
  obtain ⟨G, off, eG, hcell⟩ := hr'.2 (by omega)
  have eG2 := own_at hown (show (Value.slice R' (1 + N) c').ownBlock = some G by rw [eG]; rfl)
  rw [eG2] at eG
  injection eG with eG
  injection eG with _ eoff
  subst eoff
  subst eG2
  obtain ⟨hGU, hGb, _⟩ := own_cells hown G rfl
  have hsb := hgr.size
  have oldB : ∀ b, b < U.heap.size → Wb.heap[b]? = U.heap[b]? := fun b hb => (hgr.block b (by omega) (fun e => by injection e with e; have : b = U.heap.size := e; omega)).trans (oldA b hb)
  have hrow : ∀ i, i < N → ∀ b, Af i = some ⟨b, 0, none⟩ → y ≤ b ∧ b < U.heap.size := fun i hi b e => by
    obtain ⟨h1, h2, _⟩ := own_cells (h.rows i hi) b (slice_block e)
    exact ⟨h1, h2⟩
  have hg2 := own_cells ho g rfl
  refine ⟨some ⟨G, 0, none⟩, c', Wb, by rw [← hWa]; exact hrun, ?_, ?_⟩
  · refine rows_apartK G (1 + N) c' (fun i => if i = 0 then some ⟨g, 0, none⟩ else Af (i - 1)) (fun i => if i = 0 then n else (partN ds (i - 1)).length) (fun i => if i = 0 then cap else cf (i - 1)) (fun i => if i = 0 then ds else partN ds (i - 1)) Wb
      ⟨fun i hi => ?_, hGb⟩ ⟨fun i j hi hj hij b e1 e2 => ?_, fun i hi e => ?_, fun i hi => ?_, by omega⟩ (fun i hi => ?_) B1 (by omega) (fun i hi b e => ?_)
    · rcases i with _ | i
      · exact hcell 0 _ rfl
      · have h5 := hcell (i + 1) (.slice (Af i) (partN ds i).length (cf i)) (by rw [List.singleton_append, List.getElem?_cons_succ]; exact rowsL_get ds Af cf N i (by omega))
        rw [Nat.zero_add] at h5
        exact h5
    · rcases i with _ | i
      · rcases j with _ | j
        · omega
        · simp at e1 e2
          subst e1
          have := (hrow j (by omega) _ e2).1
          omega
      · rcases j with _ | j
        · simp at e1 e2
          subst e2
          have := (hrow i (by omega) _ e1).1
          omega
        · simp at e1 e2
          exact h.apart i j (by omega) (by omega) (by omega) b e1 e2
    · rcases i with _ | i
      · simp at e
      · simp at e
        have := (hrow i (by omega) _ e).2
        omega
    · rcases i with _ | i
      · show n ≤ 100000
        omega
      · have := partN_length ds i
        simp
        omega
    · rcases i with _ | i
      · exact (ownB_zero ho).stays fun b e => oldB b (by injection e with e; injection e with e; omega)
      · exact (ownB_zero (h.rows i (by omega))).stays fun b e => oldB b (hrow i (by omega) b e).2
    · rcases i with _ | i
      · simp at e
        subst e
        exact hg2.1
      · simp at e
        have := (hrow i (by omega) _ e).1
        omega
  · have b1 : Below B1 U Wa := by rw [hWa]; exact (Below.refl _ U).alloc (by omega) _
    refine ⟨b1.grown hgr (by omega) (fun q e => by injection e with e; have : U.heap.size = q := e; omega), ?_⟩
    have k1 : KeepsOthers U Wa := by rw [hWa]; exact keepsOthers_alloc U _
    exact k1.trans (keepsOthers_grown hgr (fun q e => by
      obtain ⟨_, _, cur, hc⟩ := own_cells hlit q e
      exact ⟨cur, _, hc⟩))
end Go.Proofs.Ytiemjgkpjmncfaa
