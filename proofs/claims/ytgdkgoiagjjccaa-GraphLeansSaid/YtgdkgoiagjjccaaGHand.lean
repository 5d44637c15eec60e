/- What slices.Backward hands out. -/
import Derived.Test.YtgdkgoiagjjccaaGBack
import Derived.Test.YtgdkgoiagjjccaaGRegIn
namespace Go.Proofs.Ytgdkgoiagjjccaa
set_option maxRecDepth 100000
open Go.RowKit
attribute [local go_sem] Oper.semAt_some

set_option maxHeartbeats 2000000 in
theorem back_hands (bx : Nat) (A : Option Addr) (n c : Nat) (l : List Int) (O : Nat → Prop) (w : World) (hB : w.heap[bx]? = some (.cells #[.slice A n c] 38 (0, 0))) (hr : Nums w A n l) (hn : n ≤ 10000) (hn0 : ∀ k, O k → k < w.heap.size) (hB0 : O bx) (hA0 : ∀ b o, 0 < n → A = some ⟨b, o, none⟩ → O b) :
    Hands Try.prog 88 #[.pointer (some ⟨bx, 0, none⟩)] O n (fun k _ => #[.int .i64 ((n : Int) - 1 - (k : Int)), .int .i64 (l.getD (n - 1 - k) 0)]) (fun _ _ _ _ => True) w := by
  intro l0 J Jx W hW hJ hJx hY h0
  have HS := Lib.hid (fun W' (h : Keeps O W W') => (⟨(cell_of_row W' bx 0 _ 38 (0, 0) ((h.2 bx hB0).trans ((hW.block bx (hn0 bx hB0)).trans hB))), fun hp => by
      obtain ⟨b, off, e, hcell⟩ := hr.2.2 hp
      have hb := hA0 b off hp e
      exact ⟨b, off, e, fun j hj => (World.cell?_of_block (h.2 b hb)).trans ((hW.cell (p := ⟨b, off + j, none⟩) (hn0 b hb)).trans (hcell j hj))⟩⟩ : W'.cell? ⟨bx, 0, none⟩ = some (.slice A n c) ∧ (0 < n → ∃ b off, A = some ⟨b, off, none⟩ ∧ ∀ j, j < n → W'.cell? ⟨b, off + j, none⟩ = some (.int .i64 (l.getD j 0)))))
  have HY := Lib.hid hY
  have H0 := Lib.hid h0
  have hbox := (HS.out W (Keeps.refl _ _)).1
  clear hY hJ hJx hr hB hW h0 hA0 hB0 hn0
  refine callsIn_of_wp Try.func88 rfl trivial ?_ rfl
  simp only [Try.ntmps88, List.size_toArray, List.length_cons, List.length_nil, Nat.reduceAdd, Nat.reduceSub, Array.replicate_succ, Array.replicate_zero, List.push_toArray, List.append_toArray, List.nil_append, List.cons_append]
  gi_wp2_with fail
  clear hbox
  gi_loopw [3] (fun x wr => ∃ k : Nat, k ≤ n ∧ x = .int .i64 ((n : Int) - 1 - (k : Int)) ∧ J k wr ∧ Keeps O W wr) (fun x _ => (intOf x + 1).toNat)
  case atStart => exact ⟨0, Nat.zero_le _, by simp, H0.out, Keeps.refl _ _⟩
  case round =>
    obtain ⟨k, hk, rfl, hJk, hb⟩ := hrel
    by_cases hlt : k < n
    · obtain ⟨hc1, hrw⟩ := HS.out _ hb
      obtain ⟨b, off, rfl, hc⟩ := hrw (by omega)
      obtain ⟨j, hj⟩ : ∃ j, j = n - 1 - k := ⟨_, rfl⟩
      have hy0 := HY.out k undef _ _ hlt hJk hJk trivial
      have ej : ((n : Int) - 1 - (k : Int)) = (j : Int) := by omega
      rw [← hj, ej] at hy0
      have cj := hc j (by omega)
      have hjn : j < n := by omega
      have HJE := Lib.hid (show (j : Int) - 1 = (n : Int) - 1 - ((k + 1 : Nat) : Int) by omega)
      have HB := Lib.hid hb
      rw [ej]
      obtain ⟨z, hz⟩ : ∃ z, z = l.getD j 0 := ⟨_, rfl⟩
      rw [← hz] at hy0 cj
      obtain ⟨fn, tmps, assign, body, hy, hR⟩ := hy0
      have HR := Lib.hid hR
      clear hc hrw hj ej hb hJk hz hR
      gi_wp2_with fail
      refine HR.out.mono ?_
      rintro e W3 (⟨rfl, hJ3, hk3⟩ | ⟨rfl, hJx3⟩)
      · have HJ3 := Lib.hid hJ3
        have HB3 := Lib.hid (HB.out.trans hk3)
        clear hJ3 hk3
        gi_wp2_with fail
        go_roundw
        case rel => exact ⟨k + 1, by omega, by rw [HJE.out], HJ3.out, HB3.out⟩
        case measure =>
          have h9 := HJE.out
          simp [intOf]
      · have HX3 := Lib.hid hJx3
        clear hJx3
        gi_wp2_with fail
        refine bodyPost_ret (results_none rfl _ _ _) rfl ?_
        exact ⟨⟨_, rfl⟩, .inr ⟨k, hlt, HX3.out⟩⟩
    · obtain rfl : k = n := by omega
      have ej : ((k : Int) - 1 - (k : Int)) = -1 := by omega
      rw [ej]
      clear hb ej
      gi_wp2_with fail
      go_end0
      exact ⟨⟨_, rfl⟩, .inl hJk⟩
end Go.Proofs.Ytgdkgoiagjjccaa
