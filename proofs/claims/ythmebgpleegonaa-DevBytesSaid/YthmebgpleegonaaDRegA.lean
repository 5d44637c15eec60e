/- A region that draws its order, whose last operations may come in more than one order. -/
import Derived.Test.YthmebgpleegonaaDReg
namespace Go.Proofs.Ythmebgpleegonaa
open Go Go.RowKit

section
variable {P : Program} {ops : Array Oper} {Q : Exit → Act → World → Prop} {md : Region.Mode}
/-- Each of the last operations waits for one of them ahead of it. -/
def chainA (md : Region.Mode) (ops : Array Oper) (n : Nat) : Bool :=
  (List.range ops.size).all fun t => decide (t ≤ n) || (List.range t).any fun s => decide (n ≤ s) && Region.waitsFor md ops t s
theorem tail_waitsA {n : Nat} {listed : Array Bool} (hs : Region.sinkB md ops n = true) (hc : chainA md ops n = true) (hn : n < ops.size) (inv : HeadInv md ops n listed) :
    ∀ (d i : Nat), n - i = d → i < n → listed.getD i true = false → ∀ t, n ≤ t → t ∉ Region.ready md ops listed := by
  intro d
  induction d using Nat.strongRecOn with
  | _ d ih =>
    intro i hd hi hun t ht hr
    obtain ⟨_, ot, hot, hall⟩ := mem_ready.1 hr
    have htlt : t < ops.size := (Array.getElem?_eq_some_iff.1 hot).1
    by_cases htn : t = n
    · subst htn
      have h1 := List.all_eq_true.1 hs i (List.mem_range.2 hi)
      obtain ⟨j, hj, hj2⟩ := List.any_eq_true.1 h1
      simp only [Bool.and_eq_true, decide_eq_true_eq] at hj2
      obtain ⟨oj, hoj, e, he, hb, hon⟩ := Region.waitsFor_spec hj2.2
      have hjle : j ≤ t := by have := List.mem_range.1 hj; omega
      by_cases hjt : j = t
      · subst hjt
        have : oj = ot := Option.some.inj (hoj.symm.trans hot)
        subst this
        have h2 := hall e he hb
        rw [hon, getD_both hun] at h2
        cases h2
      · cases hl : listed.getD j false with
        | true =>
          have h2 := inv.closed j oj hoj hl e he hb
          rw [hon, getD_both hun] at h2
          cases h2
        | false =>
          have hjs : j < listed.size := by rw [inv.size]; omega
          exact ih (t - j) (by omega) j rfl (by omega) (getD_in hjs hl) t (Nat.le_refl _) hr
    · have h1 := List.all_eq_true.1 hc t (List.mem_range.2 htlt)
      simp only [Bool.or_eq_true, decide_eq_true_eq] at h1
      rcases h1 with h1 | h1
      · omega
      · obtain ⟨s, hs1, hs2⟩ := List.any_eq_true.1 h1
        simp only [Bool.and_eq_true, decide_eq_true_eq] at hs2
        obtain ⟨oj, hoj, e, he, hb, hon⟩ := Region.waitsFor_spec hs2.2
        have : oj = ot := Option.some.inj (hoj.symm.trans hot)
        subst this
        have h2 := hall e he hb
        have h3 := inv.tail s hs2.1 (by have := List.mem_range.1 hs1; omega)
        rw [hon, getD_both h3] at h2
        cases h2
def absA (ops : Array Oper) (n N : Nat) (ts : List Tmp) (Ds : List (List Nat)) : Bool :=
  decide (ts.length = n) && decide (n < ops.size) && Region.sinkB .any ops n && chainA .any ops n && headB .any ops n N ts Ds
theorem mid_allA {n N : Nat} {Fs : List Say} {ts : List Tmp} {Ds : List (List Nat)} {a0 : Act} {w0 : World} {l : List Oper} (hN : a0.tmps.size = N) (hQ : ∀ c a b w, Q (.panic c) a w → Q (.panic c) b w)
    (hts : ts.length = n) (hFs : Fs.length = n) (hn : n < ops.size) (hs : Region.sinkB .any ops n = true) (hc : chainA .any ops n = true)
    (hB : headB .any ops n N ts Ds = true) (hl : ∀ i, i < n → l[i]? = ops[i]?) (H : Heads P ops Q Fs ts a0 w0 l Ds Fs) {g : Nat}
    (hfin : ∀ listed a w, (∀ i, i < ops.size → listed.getD i false = decide (i < n)) → listed.size = ops.size → Ext w0 w → a = putAll ts (fun t => a.tmps.getD t undef) (List.range n) a0 → (∃ B A : Nat → World, ∀ i, i < n → (Fs.getD i any).fact ((Ds.getD i []).map fun j => (Fs.getD j any).past w0 (a.tmps.getD (ts.getD j 0) undef) (B j) (A j)) (a.tmps.getD (ts.getD i 0) undef) (B i) (A i) ∧ Ext (A i) w ∧ (∀ j ∈ Ds.getD i [], Ext (A j) (B i)) ∧ Ext w0 (B i)) → wpAny P .any ops Q g listed a w) :
    ∀ (k : Nat) (listed : Array Bool) (a : Act) (w : World), ((List.range n).filter fun i => !listed.getD i false).length = k → Mid n Fs ts Ds ops a0 w0 listed a w → wpAny P .any ops Q (k + g) listed a w
  | 0, listed, a, w, hk, M => by
    have hall : ∀ i, i < n → listed.getD i false = true := fun i hi => by
      have h0 := List.eq_nil_of_length_eq_zero hk
      have := (List.filter_eq_nil_iff.1 h0) i (List.mem_range.2 hi)
      simpa using this
    rw [Nat.zero_add]
    refine hfin listed a w (fun i hi => ?_) M.inv.size M.ext ?_ (by
      obtain ⟨B, A, hf⟩ := M.facts
      exact ⟨B, A, fun i hi => hf i hi (hall i hi)⟩)
    · by_cases hin : i < n
      · rw [hall i hin, decide_eq_true hin]
      · rw [decide_eq_false hin]
        exact getD_both (M.inv.tail i (by omega) hi)
    · obtain ⟨h1, h2⟩ := putAll_size ts (fun t => a.tmps.getD t undef) (List.range n) a0
      have et : a.tmps = (putAll ts (fun t => a.tmps.getD t undef) (List.range n) a0).tmps := by
        apply Array.ext_getElem?
        intro t
        rcases Nat.lt_or_ge t a0.tmps.size with hlt | hge
        · rw [putAll_at _ _ _ _ _ hlt]
          by_cases hj : ∃ j ∈ List.range n, ts.getD j 0 = t
          · rw [if_pos hj]
            have : t < a.tmps.size := by rw [M.size]; exact hlt
            simp [this]
          · rw [if_neg hj]
            exact M.old t fun j hj1 _ e => hj ⟨j, List.mem_range.2 hj1, e⟩
        · rw [Array.getElem?_eq_none (by rw [M.size]; exact hge), Array.getElem?_eq_none (by rw [h1]; exact hge)]
      have ed := M.defers.trans h2.symm
      cases a with
      | mk ta da =>
        cases hp : putAll ts (fun t => (Act.mk ta da).tmps.getD t undef) (List.range n) a0 with
        | mk tb db =>
          rw [hp] at et ed
          simp only at et ed
          rw [et, ed]
  | k + 1, listed, a, w, hk, M => by
    have hex : ∃ i, i < n ∧ listed.getD i false = false := by
      have : ((List.range n).filter fun i => !listed.getD i false) ≠ [] := fun h => by rw [h] at hk; simp at hk
      obtain ⟨i, hi⟩ := List.exists_mem_of_ne_nil _ this
      simp only [List.mem_filter, List.mem_range, Bool.not_eq_true'] at hi
      exact ⟨i, hi.1, hi.2⟩
    obtain ⟨u, hu, hlu⟩ := hex
    have hlt : ∀ t, n ≤ t → t ∉ Region.ready .any ops listed := tail_waitsA hs hc hn M.inv (n - u) u rfl hu (getD_in (by rw [M.inv.size]; omega) hlu)
    have hne : Region.ready .any ops listed ≠ [] := by
      have least : ∀ m, ∀ u, u ≤ m → u < n → listed.getD u false = false → ∃ v, v < n ∧ listed.getD v false = false ∧ ∀ x, x < v → listed.getD x false = true := by
        intro m
        induction m with
        | zero => intro u hm hu hlu; exact ⟨u, hu, hlu, fun x hx => by omega⟩
        | succ m ih =>
          intro u hm hu hlu
          by_cases hx : ∃ x, x < u ∧ listed.getD x false = false
          · obtain ⟨x, hxu, hlx⟩ := hx
            exact ih x (by omega) (by omega) hlx
          · refine ⟨u, hu, hlu, fun x hxu => ?_⟩
            cases hlx : listed.getD x false with
            | true => rfl
            | false => exact absurd ⟨x, hxu, hlx⟩ hx
      obtain ⟨v, hv, hlv, hbelow⟩ := least u u (Nat.le_refl _) hu hlu
      obtain ⟨o, ho, _, _, _, _, _, _, hed⟩ := headB_at hB hv
      have hm : v ∈ Region.ready .any ops listed := mem_ready.2 ⟨getD_in (by rw [M.inv.size]; omega) hlv, o, ho, fun e he hb => hbelow _ (hed e he hb)⟩
      exact fun h => by rw [h] at hm; cases hm
    rw [show k + 1 + g = (k + g) + 1 by omega]
    refine ⟨fun h => absurd h hne, fun i hi => ?_⟩
    have hin : i < n := by
      rcases Nat.lt_or_ge i n with h | h
      · exact h
      · exact absurd hi (hlt i h)
    refine wpOp_mono (fun a' w' M' => mid_allA hN hQ hts hFs hn hs hc hB hl H hfin k _ a' w' ?_ M') (mid_step hN hQ hB hl H M hin hi)
    have hiu : listed.getD i false = false := by
      have := (mem_ready.1 hi).1
      exact getD_both this
    have key : ∀ m, m ≤ n → ((List.range m).filter fun j => !(listed.setIfInBounds i true).getD j false).length = ((List.range m).filter fun j => !listed.getD j false).length - if i < m then 1 else 0 := by
      intro m
      induction m with
      | zero => intro _; simp
      | succ m ih =>
        intro hm
        rw [List.range_succ, List.filter_append, List.filter_append, List.length_append, List.length_append, ih (by omega)]
        have hpos : i < m → 1 ≤ ((List.range m).filter fun j => !listed.getD j false).length := fun him => by
          have : i ∈ (List.range m).filter fun j => !listed.getD j false := by simp [him]; simpa using hiu
          exact List.length_pos_of_mem this
        by_cases e : i = m
        · subst e
          have h1 : (listed.setIfInBounds i true).getD i false = true := by
            have : i < listed.size := by rw [M.inv.size]; omega
            simp [this]
          simp only [List.filter_cons, List.filter_nil, h1, hiu]
          simp
        · simp only [List.filter_cons, List.filter_nil]
          rw [getD_set_ne false e]
          by_cases him : i < m
          · have := hpos him
            have e1 : (if i < m then 1 else 0) = 1 := if_pos him
            have e2 : (if i < m + 1 then 1 else 0) = 1 := if_pos (by omega)
            rw [e1, e2]; omega
          · have e1 : (if i < m then 1 else 0) = 0 := if_neg him
            have e2 : (if i < m + 1 then 1 else 0) = 0 := if_neg (by omega)
            rw [e1, e2]; omega
    rw [key n (Nat.le_refl _), hk, if_pos hin]; omega
/-- A region that draws its order: its first operations each by a fact of its own, the others, which wait for all of them, in whatever order. -/
theorem wp_region_abs_any {id : Nat} {Q : Exit → Act → World → Prop} {a : Act} {w : World} {l : List Oper} (n N : Nat) (Fs : List Say) (ts : List Tmp) (Ds : List (List Nat)) (hm : P.follows .mixedOrders = true) (hN : a.tmps.size = N) (hFs : Fs.length = n) (hDs : Ds.length = n)
    (hB : absA l.toArray n N ts Ds = true) (hQ : ∀ c a b w, Q (.panic c) a w → Q (.panic c) b w)
    (H : Heads P l.toArray Q Fs ts a w.drew (l.take n) Ds Fs)
    (R : ∀ w', Ext w.drew w' → Behind w.drew w' [] Fs ts Ds a (fun a' => wpAny P .any l.toArray Q (l.drop n).length ((Array.replicate n true) ++ Array.replicate (l.toArray.size - n) false) a' w')) : (Code.region id l.toArray true).wp P Q a w := by
  simp only [absA, Bool.and_eq_true, decide_eq_true_eq] at hB
  obtain ⟨⟨⟨⟨hts, hn⟩, hs⟩, hc⟩, hh⟩ := hB
  have hn' : n < l.length := by simpa using hn
  refine wp_region_any hm ?_
  have inv0 : HeadInv .any l.toArray n (Array.replicate l.toArray.size false) :=
    ⟨by simp, fun j oj _ hl => (by rw [getD_replicate_false] at hl; cases hl), fun t _ ht => getD_in (by simpa using ht) (getD_replicate_false _ _)⟩
  have key := mid_allA (g := (l.drop n).length) hN hQ hts hFs hn hs hc hh (fun i hi => by simp [hi]) H (fun listed a' w' hl hz hx ha hf => by
    have hl2 : listed = (Array.replicate n true) ++ Array.replicate (l.toArray.size - n) false := by
      apply Array.ext
      · rw [hz]; simp; omega
      · intro i h1 h2
        have h3 := hl i (by rw [← hz]; exact h1)
        rw [Array.getElem_append]
        by_cases hin : i < n
        · rw [decide_eq_true hin] at h3
          simp [hin]
          simpa [h1] using h3
        · rw [decide_eq_false hin] at h3
          simp [hin]
          simpa [h1] using h3
    rw [hl2]
    obtain ⟨B, A, hf⟩ := hf
    have := Behind.at (m := 0) (G := fun j => Fs.getD j any) (V := fun j => a'.tmps.getD (ts.getD j 0) undef) (A := A) (B := B) (s := fun t => a'.tmps.getD t undef) (R w' hx) (by rw [hFs, hts]) (by rw [hDs, hts]) (fun i hi => by
      rw [hts] at hi
      obtain ⟨h1, h2, h3, h4⟩ := hf i hi
      rw [Nat.zero_add]
      refine ⟨rfl, rfl, h1, h2, fun j hj => ⟨?_, h3 j hj⟩, h4⟩
      obtain ⟨oi, hoi, _, _, _, hdi, _, _, hei⟩ := headB_at hh hi
      obtain ⟨oj, hoj, e', he', hb', hon⟩ := Region.waitsFor_spec (hdi j hj).2
      obtain rfl : oi = oj := Option.some.inj (hoi.symm.trans hoj)
      rw [← hon]; exact hei e' he' hb')
    rw [hts, ← ha] at this
    exact this) _ (Array.replicate l.toArray.size false) a w.drew rfl ⟨inv0, Below.refl _ _, rfl, rfl, fun _ _ => rfl, fun _ => w, fun _ => w, fun i _ hi => by rw [getD_replicate_false] at hi; cases hi⟩
  have e : ((List.range n).filter fun i => !(Array.replicate l.toArray.size false).getD i false).length = n := by
    rw [List.filter_eq_self.2 (fun i _ => by rw [getD_replicate_false]; rfl), List.length_range]
  rw [e, List.length_drop, show n + (l.length - n) = l.toArray.size by simp; omega] at key
  exact key
end
end Go.Proofs.Ythmebgpleegonaa
