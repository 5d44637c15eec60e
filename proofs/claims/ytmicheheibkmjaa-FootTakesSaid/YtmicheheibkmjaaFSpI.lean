/- foot's spans in order. -/
import Derived.Test.YtmicheheibkmjaaFSpans
import Derived.Test.YtmicheheibkmjaaFCompact
import Derived.Test.YtmicheheibkmjaaGFeet
import Derived.Test.YtmicheheibkmjaaReg
namespace Go.Proofs.Ytmicheheibkmjaa
set_option maxRecDepth 100000
open Go.RowKit Go.Shelf

theorem elem27 : ElemT Try.prog 27 24 2 16 :=
  ⟨Try.underlying27, by kernel_rfl, by
    obtain ⟨i, hi, hz, h1, _⟩ := info_parts (show (Try.prog.info? 24).map (fun i => (i.zero, i.size, i.bytes)) = some (some (.agg #[.int .i64 0, .int .i64 0]), 2, 16) by kernel_rfl)
    exact ⟨i, _, hi, hz, rfl⟩, by decide⟩
theorem elem28 : ElemT Try.prog 28 54 3 24 :=
  ⟨Try.underlying28, by kernel_rfl, by
    obtain ⟨i, hi, hz, h1, _⟩ := info_parts (show (Try.prog.info? 54).map (fun i => (i.zero, i.size, i.bytes)) = some (some (.agg #[.int .i64 0, .int .i64 0, .int .i64 0]), 3, 24) by kernel_rfl)
    exact ⟨i, _, hi, hz, rfl⟩, by decide⟩
theorem compact_none (w : World) : Calls Try.prog 67 #[.slice none 0 0] w fun e w' => e = .returned (.slice none 0 0) ∧ w' = w := by
  go_enter Try.func67, Try.ntmps67
  go_wp2_with fail
  go_ret
  exact ⟨rfl, rfl⟩
set_option maxHeartbeats 1000000 in
theorem inorder_any (v : Value) (n B : Nat) (l : List K) (w : World) (h : w.ownsRow B 24 2 v n (rowV K.vals l)) (hl : l.length = n) (hn : n ≤ 1000000) :
    Calls Try.prog 33 #[v] w fun e w' => ∃ v', e = .returned v' ∧ ∃ m, (insAll [] l).length = m ∧ m ≤ n ∧ w'.ownsRow B 24 2 v' m (rowV K.vals (insAll [] l)) ∧ w.grownBy w' v.ownBlock ∧ ∀ q, v'.ownBlock = some q → v.ownBlock = some q := by
  have hcase := h.2
  rcases hcase with ⟨rfl, rfl⟩ | ⟨g, cap, cur, rfl, _⟩
  · obtain rfl : l = [] := List.eq_nil_of_length_eq_zero hl
    have H1 := Lib.hid (sortkeys_none 0 w)
    have H2 := Lib.hid (compact_none w)
    clear h
    go_enter Try.func33, Try.ntmps33
    go_wp2_with fail
    refine Calls.mono H1.out ?_
    rintro e w1 ⟨rfl, rfl⟩
    go_wp2_with fail
    refine Calls.mono H2.out ?_
    rintro e w2 ⟨rfl, rfl⟩
    go_wp2_with fail
    go_ret
    exact ⟨_, rfl, 0, rfl, by omega, World.ownsRow_nil _ _ _ _, grown_refl _ _, fun q hq => hq⟩
  · have H1 := Lib.hid (sortkeys_any g n cap B l w h hl hn)
    clear h
    go_enter Try.func33, Try.ntmps33
    go_wp2_with fail
    refine Calls.mono H1.out ?_
    rintro e w1 ⟨rfl, s, hs1, hs2, hs3, ho1, hg1⟩
    have H2 := Lib.hid (compact_any g n cap B s w1 ho1 hs1 hn)
    have HJ := Lib.hid (keys_join hs2 hs3)
    have HG1 := Lib.hid hg1
    have HS := Lib.hid hs1
    clear hs1 hs2 hs3 ho1 hg1
    go_wp2_with fail
    refine Calls.mono H2.out ?_
    rintro e w2 ⟨m, rfl, hm, ho2, hg2⟩
    have HM := Lib.hid hm
    have HO2 := Lib.hid ho2
    have HG2 := Lib.hid hg2
    clear hm ho2 hg2
    go_wp2_with fail
    go_ret
    refine ⟨_, rfl, m, by rw [← HJ.out]; exact HM.out, ?_, by rw [← HJ.out]; exact HO2.out, grown_trans HG1.out HG2.out, fun q hq => by simpa [Value.ownBlock] using hq⟩
    rw [← HM.out]
    exact Nat.le_trans (dedup_length s) (Nat.le_of_eq HS.out)
theorem delete_none (w : World) : Calls Try.prog 68 #[.slice none 0 0, .func (.func 69) #[] #[]] w fun e w' => e = .returned (.slice none 0 0) ∧ Below w.heap.size w w' := by
  have hf := firstE_any none 0 0 [] w ⟨rfl, by simp [rowV], fun h => absurd h (by omega)⟩ (by omega)
  rw [firstE_none (fun j hj => by simp at hj)] at hf
  have HF := Lib.hid hf
  clear hf
  go_enter Try.func68, Try.ntmps68
  go_wp2_with fail
  refine Calls.mono HF.out ?_
  rintro e w1 ⟨rfl, hb1⟩
  have HB1 := Lib.hid hb1
  clear hb1
  go_wp2_with fail
  go_ret
  exact ⟨rfl, HB1.out⟩
theorem mrg_fit {o : List Sp} {x : Sp} (ho : ∀ e ∈ o, FitS e) (hx : FitS x) : ∀ e ∈ mrg o x, FitS e := by
  intro e he
  rcases List.eq_nil_or_concat o with rfl | ⟨p, y, rfl⟩
  · rw [mrg_nil] at he; simp at he; rw [he]; exact hx
  · simp only [List.concat_eq_append] at ho he
    rw [mrg_snoc] at he
    split at he
    · rcases List.mem_append.1 he with r | r
      · exact ho e r
      · simp at r; rw [r]; exact hx
    · rcases List.mem_append.1 he with r | r
      · exact ho e (by simp [r])
      · simp at r
        have hy := ho y (by simp)
        rw [r]
        unfold FitS at hx hy ⊢
        simp only
        omega
theorem mrgs_fit : ∀ (l o : List Sp), (∀ e ∈ o, FitS e) → (∀ e ∈ l, FitS e) → ∀ e ∈ l.foldl mrg o, FitS e
  | [], _, ho, _ => ho
  | x :: l, o, ho, hl => mrgs_fit l (mrg o x) (mrg_fit ho (hl x (by simp))) (fun e he => hl e (List.mem_cons_of_mem _ he))
theorem mrg_length (o : List Sp) (x : Sp) : (mrg o x).length ≤ o.length + 1 := by
  rcases List.eq_nil_or_concat o with rfl | ⟨p, y, rfl⟩
  · simp [mrg_nil]
  · simp only [List.concat_eq_append]
    rw [mrg_snoc]
    split <;> simp
theorem set_same {α : Type} {l : List α} {i : Nat} {v : α} (h : l[i]? = some v) : l.set i v = l := by
  apply List.ext_getElem?
  intro j
  by_cases e : j = i
  · subst e
    rw [List.getElem?_set_self (List.getElem?_eq_some_iff.1 h).1, h]
  · rw [List.getElem?_set_ne (Ne.symm e)]
theorem rowS_hi (o : List Sp) (p : Nat) (hp : p < o.length) (z : Int) : (rowV Sp.vals o).set (p * 3 + 2) (.int .i64 z) = rowV Sp.vals (o.set p ⟨o[p].t, o[p].lo, z⟩) := by
  have h0 := rowV_get Sp.vals 3 Sp.len o p hp 0 (by decide)
  have h1 := rowV_get Sp.vals 3 Sp.len o p hp 1 (by decide)
  rw [← rowV_set Sp.len (by decide) o p hp]
  show _ = setL (rowV Sp.vals o) (p * 3) [.int .i64 o[p].t, .int .i64 o[p].lo, .int .i64 z]
  unfold setL
  unfold setL
  unfold setL
  unfold setL
  have a := set_same (l := rowV Sp.vals o) (i := p * 3) (v := .int .i64 o[p].t) (h0.trans rfl)
  have b := set_same (l := rowV Sp.vals o) (i := p * 3 + 1) (v := .int .i64 o[p].lo) (h1.trans rfl)
  rw [a, b]
end Go.Proofs.Ytmicheheibkmjaa
