/- DReg0: put together. -/
import Derived.Test.YtejpjbmbcdgomaaPt11
/- The same, where the first operation is waited for by the last ones alone: it is taken first. -/
namespace Go.Proofs.Ytejpjbmbcdgomaa
open Go Go.RowKit

section
variable {P : Program} {ops : Array Oper} {Q : Exit → Act → World → Prop} {md : Region.Mode}
def sink0 (md : Region.Mode) (ops : Array Oper) (n : Nat) : Bool :=
  (List.range n).all fun i => i == 0 || (List.range (n + 1)).any fun j => decide (i < j) && Region.waitsFor md ops j i
def abs0 (ops : Array Oper) (n N : Nat) (ts : List Tmp) (Ds : List (List Nat)) : Bool :=
  decide (ts.length = n) && decide (n < ops.size) && sink0 .any ops n && Region.chainB .any ops n && headB .any ops n N ts Ds &&
    Region.seqB .any ops (ops.size - n) n ((Array.replicate n true) ++ Array.replicate (ops.size - n) false)
theorem tail_waits0 {n : Nat} {listed : Array Bool} (hs : sink0 md ops n = true) (hc : Region.chainB md ops n = true) (hn : n < ops.size) (inv : HeadInv md ops n listed) :
    ∀ (d i : Nat), n - i = d → i ≠ 0 → i < n → listed.getD i true = false → ∀ t, n ≤ t → t ∉ Region.ready md ops listed := by
  intro d
  induction d using Nat.strongRecOn with
  | _ d ih =>
    intro i hd hi0 hi hun t ht hr
    obtain ⟨_, ot, hot, hall⟩ := mem_ready.1 hr
    have htlt : t < ops.size := (Array.getElem?_eq_some_iff.1 hot).1
    by_cases htn : t = n
    · subst htn
      have h1 := List.all_eq_true.1 hs i (List.mem_range.2 hi)
      rw [Bool.or_eq_true] at h1
      have h1 := h1.resolve_left (by simpa using hi0)
      obtain ⟨j, hj, hj2⟩ := List.any_eq_true.1 h1
      simp only [Bool.and_eq_true, decide_eq_true_eq] at hj2
      obtain ⟨oj, hoj, e, he, hb, hon⟩ := Region.waitsFor_spec hj2.2
      have hjle : j ≤ t := by have := List.mem_range.1 hj; omega
      by_cases hjt : j = t
      · subst hjt
        have : oj = ot := Option.some.inj (hoj.symm.trans hot)
        subst this
        have h2 := hall e he hb
        rw [hon, getD_both hun] at h2
        cases h2
      · cases hl : listed.getD j false with
        | true =>
          have h2 := inv.closed j oj hoj hl e he hb
          rw [hon, getD_both hun] at h2
          cases h2
        | false =>
          have hjs : j < listed.size := by rw [inv.size]; omega
          exact ih (t - j) (by omega) j rfl (by omega) (by omega) (getD_in hjs hl) t (Nat.le_refl _) hr
    · have h1 := List.all_eq_true.1 hc t (List.mem_range.2 htlt)
      simp only [Bool.or_eq_true, decide_eq_true_eq] at h1
      rcases h1 with h1 | h1
      · omega
      · obtain ⟨o', ho', e, he, hb, hon⟩ := Region.waitsFor_spec h1
        have : o' = ot := Option.some.inj (ho'.symm.trans hot)
        subst this
        have h2 := hall e he hb
        rw [hon, getD_both (inv.tail (t - 1) (by omega) (by omega))] at h2
        cases h2
theorem mid_all0 {n N : Nat} {Fs : List Say} {ts : List Tmp} {Ds : List (List Nat)} {a0 : Act} {w0 : World} {l : List Oper} (hN : a0.tmps.size = N) (hQ : ∀ c a b w, Q (.panic c) a w → Q (.panic c) b w)
    (hts : ts.length = n) (hFs : Fs.length = n) (hn : n < ops.size) (hs : sink0 .any ops n = true) (hc : Region.chainB .any ops n = true)
    (hB : headB .any ops n N ts Ds = true) (hl : ∀ i, i < n → l[i]? = ops[i]?) (H : Heads P ops Q Fs ts a0 w0 l Ds Fs) {g : Nat}
    (hfin : ∀ listed a w, (∀ i, i < ops.size → listed.getD i false = decide (i < n)) → listed.size = ops.size → Ext w0 w → a = putAll ts (fun t => a.tmps.getD t undef) (List.range n) a0 → (∃ B A : Nat → World, ∀ i, i < n → (Fs.getD i any).fact ((Ds.getD i []).map fun j => (Fs.getD j any).past w0 (a.tmps.getD (ts.getD j 0) undef) (B j) (A j)) (a.tmps.getD (ts.getD i 0) undef) (B i) (A i) ∧ Ext (A i) w ∧ (∀ j ∈ Ds.getD i [], Ext (A j) (B i)) ∧ Ext w0 (B i)) → wpAny P .any ops Q g listed a w) :
    ∀ (k : Nat) (listed : Array Bool) (a : Act) (w : World), ((List.range n).filter fun i => !listed.getD i false).length = k → listed.getD 0 false = true → Mid n Fs ts Ds ops a0 w0 listed a w → wpAny P .any ops Q (k + g) listed a w
  | 0, listed, a, w, hk, _, M => by
    have hall : ∀ i, i < n → listed.getD i false = true := fun i hi => by
      have h0 := List.eq_nil_of_length_eq_zero hk
      have := (List.filter_eq_nil_iff.1 h0) i (List.mem_range.2 hi)
      simpa using this
    rw [Nat.zero_add]
    refine hfin listed a w (fun i hi => ?_) M.inv.size M.ext ?_ (by
      obtain ⟨B, A, hf⟩ := M.facts
      exact ⟨B, A, fun i hi => hf i hi (hall i hi)⟩)
    · by_cases hin : i < n
      · rw [hall i hin, decide_eq_true hin]
      · rw [decide_eq_false hin]
        exact getD_both (M.inv.tail i (by omega) hi)
    · obtain ⟨h1, h2⟩ := putAll_size ts (fun t => a.tmps.getD t undef) (List.range n) a0
      have et : a.tmps = (putAll ts (fun t => a.tmps.getD t undef) (List.range n) a0).tmps := by
        apply Array.ext_getElem?
        intro t
        rcases Nat.lt_or_ge t a0.tmps.size with hlt | hge
        · rw [putAll_at _ _ _ _ _ hlt]
          by_cases hj : ∃ j ∈ List.range n, ts.getD j 0 = t
          · rw [if_pos hj]
            have : t < a.tmps.size := by rw [M.size]; exact hlt
            simp [this]
          · rw [if_neg hj]
            exact M.old t fun j hj1 _ e => hj ⟨j, List.mem_range.2 hj1, e⟩
        · rw [Array.getElem?_eq_none (by rw [M.size]; exact hge), Array.getElem?_eq_none (by rw [h1]; exact hge)]
      have ed := M.defers.trans h2.symm
      cases a with
      | mk ta da =>
        cases hp : putAll ts (fun t => (Act.mk ta da).tmps.getD t undef) (List.range n) a0 with
        | mk tb db =>
          rw [hp] at et ed
          simp only at et ed
          rw [et, ed]
  | k + 1, listed, a, w, hk, h00, M => by
    have hex : ∃ i, i < n ∧ listed.getD i false = false := by
      have : ((List.range n).filter fun i => !listed.getD i false) ≠ [] := fun h => by rw [h] at hk; simp at hk
      obtain ⟨i, hi⟩ := List.exists_mem_of_ne_nil _ this
      simp only [List.mem_filter, List.mem_range, Bool.not_eq_true'] at hi
      exact ⟨i, hi.1, hi.2⟩
    obtain ⟨u, hu, hlu⟩ := hex
    have hlt : ∀ t, n ≤ t → t ∉ Region.ready .any ops listed := tail_waits0 hs hc hn M.inv (n - u) u rfl (fun e => by rw [e, h00] at hlu; cases hlu) hu (getD_in (by rw [M.inv.size]; omega) hlu)
    have hne : Region.ready .any ops listed ≠ [] := by
      have least : ∀ m, ∀ u, u ≤ m → u < n → listed.getD u false = false → ∃ v, v < n ∧ listed.getD v false = false ∧ ∀ x, x < v → listed.getD x false = true := by
        intro m
        induction m with
        | zero => intro u hm hu hlu; exact ⟨u, hu, hlu, fun x hx => by omega⟩
        | succ m ih =>
          intro u hm hu hlu
          by_cases hx : ∃ x, x < u ∧ listed.getD x false = false
          · obtain ⟨x, hxu, hlx⟩ := hx
            exact ih x (by omega) (by omega) hlx
          · refine ⟨u, hu, hlu, fun x hxu => ?_⟩
            cases hlx : listed.getD x false with
            | true => rfl
            | false => exact absurd ⟨x, hxu, hlx⟩ hx
      obtain ⟨v, hv, hlv, hbelow⟩ := least u u (Nat.le_refl _) hu hlu
      obtain ⟨o, ho, _, _, _, _, _, _, hed⟩ := headB_at hB hv
      have hm : v ∈ Region.ready .any ops listed := mem_ready.2 ⟨getD_in (by rw [M.inv.size]; omega) hlv, o, ho, fun e he hb => hbelow _ (hed e he hb)⟩
      exact fun h => by rw [h] at hm; cases hm
    rw [show k + 1 + g = (k + g) + 1 by omega]
    refine ⟨fun h => absurd h hne, fun i hi => ?_⟩
    have hin : i < n := by
      rcases Nat.lt_or_ge i n with h | h
      · exact h
      · exact absurd hi (hlt i h)
    refine wpOp_mono (fun a' w' M' => mid_all0 hN hQ hts hFs hn hs hc hB hl H hfin k _ a' w' ?_ (getD_set_true h00) M') (mid_step hN hQ hB hl H M hin hi)
    have hiu : listed.getD i false = false := by
      have := (mem_ready.1 hi).1
      exact getD_both this
    have key : ∀ m, m ≤ n → ((List.range m).filter fun j => !(listed.setIfInBounds i true).getD j false).length = ((List.range m).filter fun j => !listed.getD j false).length - if i < m then 1 else 0 := by
      intro m
      induction m with
      | zero => intro _; simp
      | succ m ih =>
        intro hm
        rw [List.range_succ, List.filter_append, List.filter_append, List.length_append, List.length_append, ih (by omega)]
        have hpos : i < m → 1 ≤ ((List.range m).filter fun j => !listed.getD j false).length := fun him => by
          have : i ∈ (List.range m).filter fun j => !listed.getD j false := by simp [him]; simpa using hiu
          exact List.length_pos_of_mem this
        by_cases e : i = m
        · subst e
          have h1 : (listed.setIfInBounds i true).getD i false = true := by
            have : i < listed.size := by rw [M.inv.size]; omega
            simp [this]
          simp only [List.filter_cons, List.filter_nil, h1, hiu]
          simp
        · simp only [List.filter_cons, List.filter_nil]
          rw [getD_set_ne false e]
          by_cases him : i < m
          · have := hpos him
            have e1 : (if i < m then 1 else 0) = 1 := if_pos him
            have e2 : (if i < m + 1 then 1 else 0) = 1 := if_pos (by omega)
            rw [e1, e2]; omega
          · have e1 : (if i < m then 1 else 0) = 0 := if_neg him
            have e2 : (if i < m + 1 then 1 else 0) = 0 := if_neg (by omega)
            rw [e1, e2]; omega
    rw [key n (Nat.le_refl _), hk, if_pos hin]; omega
/-- A region that draws its order: its first operations each by a fact of its own, the others, which wait for all of them, one behind the other. -/
theorem wp_region_abs0 {id : Nat} {Q : Exit → Act → World → Prop} {a : Act} {w : World} {l : List Oper} (n N : Nat) (o0 : Oper) (v0 : Value) (Fs : List Say) (ts : List Tmp) (Ds : List (List Nat)) (hm : P.follows .mixedOrders = true) (hN : a.tmps.size = N) (hFs : Fs.length = n) (hDs : Ds.length = n)
    (ho0 : l[0]? = some o0) (hF0 : Fs.getD 0 any = .is v0) (hns : Region.noSelect l.toArray = true) (hfr : Region.free .any l.toArray (Array.replicate l.toArray.size false) 0 = true) (hrd : (Region.ready .any l.toArray (Array.replicate l.toArray.size false)).contains 0 = true) (hy : Yields P l.toArray o0 v0 a)
    (hB : abs0 l.toArray n N ts Ds = true) (hQ : ∀ c a b w, Q (.panic c) a w → Q (.panic c) b w)
    (H : Heads P l.toArray Q Fs ts a w.drew (l.take n) Ds Fs)
    (R : ∀ w', Ext w.drew w' → Behind w.drew w' [] Fs ts Ds a (fun a' => wpList P l.toArray Q (l.drop n) a' w')) : (Code.region id l.toArray true).wp P Q a w := by
  simp only [abs0, Bool.and_eq_true, decide_eq_true_eq] at hB
  obtain ⟨⟨⟨⟨⟨hts, hn⟩, hs⟩, hc⟩, hh⟩, hseq⟩ := hB
  have hn' : n < l.length := by simpa using hn
  have hn0 : 0 < n := by
    rcases Nat.eq_zero_or_pos n with e | e
    · subst e
      rw [List.length_eq_zero_iff.1 hFs] at hF0
      cases hF0
    · exact e
  obtain ⟨ob, hob, hd0, hd1, _, _, _, _, _⟩ := headB_at hh hn0
  have hoo : l.toArray[0]? = some o0 := by simpa using ho0
  obtain rfl : o0 = ob := Option.some.inj (hoo.symm.trans hob)
  refine wp_region_any hm ?_
  rw [show l.toArray.size = (l.toArray.size - 1) + 1 by omega]
  rw [show (l.toArray.size - 1) + 1 = l.toArray.size by omega]
  have hsz1 : l.toArray.size = (l.toArray.size - 1) + 1 := by omega
  have inv00 : HeadInv .any l.toArray n (Array.replicate l.toArray.size false) :=
    ⟨by simp, fun j oj _ hl => (by rw [getD_replicate_false] at hl; cases hl), fun t _ ht => getD_in (by simpa using ht) (getD_replicate_false _ _)⟩
  have inv0 := inv00.set (i := 0) (by simpa using hrd) hn0
  have key := mid_all0 (g := (l.drop n).length) hN hQ hts hFs hn hs hc hh (fun i hi => by simp [hi]) H (fun listed a' w' hl hz hx ha hf => by
    have hl2 : listed = (Array.replicate n true) ++ Array.replicate (l.toArray.size - n) false := by
      apply Array.ext
      · rw [hz]; simp; omega
      · intro i h1 h2
        have h3 := hl i (by rw [← hz]; exact h1)
        rw [Array.getElem_append]
        by_cases hin : i < n
        · rw [decide_eq_true hin] at h3
          simp [hin]
          simpa [h1] using h3
        · rw [decide_eq_false hin] at h3
          simp [hin]
          simpa [h1] using h3
    rw [hl2]
    refine wpAny_of_seq (l.drop n) n _ a' w' (fun j => by simp) (by simpa using hseq) ?_
    obtain ⟨B, A, hf⟩ := hf
    have := Behind.at (m := 0) (G := fun j => Fs.getD j any) (V := fun j => a'.tmps.getD (ts.getD j 0) undef) (A := A) (B := B) (s := fun t => a'.tmps.getD t undef) (R w' hx) (by rw [hFs, hts]) (by rw [hDs, hts]) (fun i hi => by
      rw [hts] at hi
      obtain ⟨h1, h2, h3, h4⟩ := hf i hi
      rw [Nat.zero_add]
      refine ⟨rfl, rfl, h1, h2, fun j hj => ⟨?_, h3 j hj⟩, h4⟩
      obtain ⟨oi, hoi, _, _, _, hdi, _, _, hei⟩ := headB_at hh hi
      obtain ⟨oj, hoj, e', he', hb', hon⟩ := Region.waitsFor_spec (hdi j hj).2
      obtain rfl : oi = oj := Option.some.inj (hoi.symm.trans hoj)
      rw [← hon]; exact hei e' he' hb')
    rw [hts, ← ha] at this
    exact this) _ ((Array.replicate l.toArray.size false).setIfInBounds 0 true) (a.put o0.dst v0) w.drew rfl (by simp; omega) ⟨inv0, Below.refl _ _, by rw [hd0]; rfl, by rw [hd0]; simp [Act.put], fun t ht => ?_, fun _ => w.drew, fun _ => w.drew, fun i hi hl => ?_⟩
  · have e : ((List.range n).filter fun i => !((Array.replicate l.toArray.size false).setIfInBounds 0 true).getD i false).length = n - 1 := by
      have h0l : ((Array.replicate l.toArray.size false).setIfInBounds 0 true).getD 0 false = true := by simp; omega
      obtain ⟨q, hq⟩ : ∃ q, n = q + 1 := ⟨n - 1, by omega⟩
      rw [hq, List.range_succ_eq_map, List.filter_cons_of_neg (by rw [h0l]; decide), List.filter_eq_self.2 (fun i hi => by
        obtain ⟨k, _, rfl⟩ := List.mem_map.1 hi
        rw [getD_set_ne false (by omega), getD_replicate_false]; rfl)]
      simp
    rw [e, List.length_drop, show n - 1 + (l.length - n) = l.toArray.size - 1 by rw [List.size_toArray]; omega] at key
    show wpAny P .any l.toArray Q l.toArray.size (Array.replicate l.toArray.size false) a w.drew
    generalize Array.replicate l.toArray.size false = li at *
    rw [hsz1]
    exact wpAny_take hoo hns hfr hrd (fun c a' w' h => hQ _ _ _ _ h) hy key
  · have h0l : ((Array.replicate l.toArray.size false).setIfInBounds 0 true).getD 0 false = true := by simp; omega
    rw [hd0]
    simp only [Act.put]
    rw [Array.getElem?_setIfInBounds_ne (ht 0 hn0 h0l)]
  · have hi0 : i = 0 := by
      rcases Nat.eq_zero_or_pos i with e | e
      · exact e
      · rw [getD_set_ne false (by omega), getD_replicate_false] at hl; cases hl
    subst hi0
    have hds : Ds.getD 0 [] = [] := by
      obtain ⟨oi, hoi, _, _, _, hdi, _, _, hei⟩ := headB_at hh hn0
      cases hq : Ds.getD 0 [] with
      | nil => rfl
      | cons j js =>
        obtain ⟨oj, hoj, e', he', hb', hon⟩ := Region.waitsFor_spec (hdi j (by rw [hq]; simp)).2
        obtain rfl : oi = oj := Option.some.inj (hoi.symm.trans hoj)
        have := hei e' he' hb'
        omega
    refine ⟨?_, Below.refl _ _, fun j hj => Below.refl _ _, Below.refl _ _⟩
    rw [hF0, hds, hd0]
    show (a.put (some (ts.getD 0 0)) v0).tmps.getD (ts.getD 0 0) undef = v0
    simp only [Act.put, Array.getD_eq_getD_getElem?]
    rw [Array.getElem?_setIfInBounds_self_of_lt (by rw [hN]; exact hd1)]
    rfl
end
end Go.Proofs.Ytejpjbmbcdgomaa
