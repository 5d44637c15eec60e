/- DReg0, VPass, VStepM: put together. -/
import Derived.Test.YtejpjbmbcdgomaaPe12
import Derived.Test.YtejpjbmbcdgomaaPe32
import Derived.Test.YtejpjbmbcdgomaaPe28
/- The same, where the first operation is waited for by the last ones alone: it is taken first. -/
namespace Go.Proofs.Ytejpjbmbcdgomaa
open Go Go.RowKit

section
variable {P : Program} {ops : Array Oper} {Q : Exit → Act → World → Prop} {md : Region.Mode}
def sink0 (md : Region.Mode) (ops : Array Oper) (n : Nat) : Bool :=
  (List.range n).all fun i => i == 0 || (List.range (n + 1)).any fun j => decide (i < j) && Region.waitsFor md ops j i
def abs0 (ops : Array Oper) (n N : Nat) (ts : List Tmp) (Ds : List (List Nat)) : Bool :=
  decide (ts.length = n) && decide (n < ops.size) && sink0 .any ops n && Region.chainB .any ops n && headB .any ops n N ts Ds &&
    Region.seqB .any ops (ops.size - n) n ((Array.replicate n true) ++ Array.replicate (ops.size - n) false)
theorem tail_waits0 {n : Nat} {listed : Array Bool} (hs : sink0 md ops n = true) (hc : Region.chainB md ops n = true) (hn : n < ops.size) (inv : HeadInv md ops n listed) :
    ∀ (d i : Nat), n - i = d → i ≠ 0 → i < n → listed.getD i true = false → ∀ t, n ≤ t → t ∉ Region.ready md ops listed := by
  intro d
  induction d using Nat.strongRecOn with
  | _ d ih =>
    intro i hd hi0 hi hun t ht hr
    obtain ⟨_, ot, hot, hall⟩ := mem_ready.1 hr
    have htlt : t < ops.size := (Array.getElem?_eq_some_iff.1 hot).1
    by_cases htn : t = n
    · subst htn
      have h1 := List.all_eq_true.1 hs i (List.mem_range.2 hi)
      rw [Bool.or_eq_true] at h1
      have h1 := h1.resolve_left (by simpa using hi0)
      obtain ⟨j, hj, hj2⟩ := List.any_eq_true.1 h1
      simp only [Bool.and_eq_true, decide_eq_true_eq] at hj2
      obtain ⟨oj, hoj, e, he, hb, hon⟩ := Region.waitsFor_spec hj2.2
      have hjle : j ≤ t := by have := List.mem_range.1 hj; omega
      by_cases hjt : j = t
      · subst hjt
        have : oj = ot := Option.some.inj (hoj.symm.trans hot)
        subst this
        have h2 := hall e he hb
        rw [hon, getD_both hun] at h2
        cases h2
      · cases hl : listed.getD j false with
        | true =>
          have h2 := inv.closed j oj hoj hl e he hb
          rw [hon, getD_both hun] at h2
          cases h2
        | false =>
          have hjs : j < listed.size := by rw [inv.size]; omega
          exact ih (t - j) (by omega) j rfl (by omega) (by omega) (getD_in hjs hl) t (Nat.le_refl _) hr
    · have h1 := List.all_eq_true.1 hc t (List.mem_range.2 htlt)
      simp only [Bool.or_eq_true, decide_eq_true_eq] at h1
      rcases h1 with h1 | h1
      · omega
      · obtain ⟨o', ho', e, he, hb, hon⟩ := Region.waitsFor_spec h1
        have : o' = ot := Option.some.inj (ho'.symm.trans hot)
        subst this
        have h2 := hall e he hb
        rw [hon, getD_both (inv.tail (t - 1) (by omega) (by omega))] at h2
        cases h2
theorem mid_all0 {n N : Nat} {Fs : List Say} {ts : List Tmp} {Ds : List (List Nat)} {a0 : Act} {w0 : World} {l : List Oper} (hN : a0.tmps.size = N) (hQ : ∀ c a b w, Q (.panic c) a w → Q (.panic c) b w)
    (hts : ts.length = n) (hFs : Fs.length = n) (hn : n < ops.size) (hs : sink0 .any ops n = true) (hc : Region.chainB .any ops n = true)
    (hB : headB .any ops n N ts Ds = true) (hl : ∀ i, i < n → l[i]? = ops[i]?) (H : Heads P ops Q Fs ts a0 w0 l Ds Fs) {g : Nat}
    (hfin : ∀ listed a w, (∀ i, i < ops.size → listed.getD i false = decide (i < n)) → listed.size = ops.size → Ext w0 w → a = putAll ts (fun t => a.tmps.getD t undef) (List.range n) a0 → (∃ B A : Nat → World, ∀ i, i < n → (Fs.getD i any).fact ((Ds.getD i []).map fun j => (Fs.getD j any).past w0 (a.tmps.getD (ts.getD j 0) undef) (B j) (A j)) (a.tmps.getD (ts.getD i 0) undef) (B i) (A i) ∧ Ext (A i) w ∧ (∀ j ∈ Ds.getD i [], Ext (A j) (B i)) ∧ Ext w0 (B i)) → wpAny P .any ops Q g listed a w) :
    ∀ (k : Nat) (listed : Array Bool) (a : Act) (w : World), ((List.range n).filter fun i => !listed.getD i false).length = k → listed.getD 0 false = true → Mid n Fs ts Ds ops a0 w0 listed a w → wpAny P .any ops Q (k + g) listed a w
  | 0, listed, a, w, hk, _, M => by
    have hall : ∀ i, i < n → listed.getD i false = true := fun i hi => by
      have h0 := List.eq_nil_of_length_eq_zero hk
      have := (List.filter_eq_nil_iff.1 h0) i (List.mem_range.2 hi)
      simpa using this
    rw [Nat.zero_add]
    refine hfin listed a w (fun i hi => ?_) M.inv.size M.ext ?_ (by
      obtain ⟨B, A, hf⟩ := M.facts
      exact ⟨B, A, fun i hi => hf i hi (hall i hi)⟩)
    · by_cases hin : i < n
      · rw [hall i hin, decide_eq_true hin]
      · rw [decide_eq_false hin]
        exact getD_both (M.inv.tail i (by omega) hi)
    · obtain ⟨h1, h2⟩ := putAll_size ts (fun t => a.tmps.getD t undef) (List.range n) a0
      have et : a.tmps = (putAll ts (fun t => a.tmps.getD t undef) (List.range n) a0).tmps := by
        apply Array.ext_getElem?
        intro t
        rcases Nat.lt_or_ge t a0.tmps.size with hlt | hge
        · rw [putAll_at _ _ _ _ _ hlt]
          by_cases hj : ∃ j ∈ List.range n, ts.getD j 0 = t
          · rw [if_pos hj]
            have : t < a.tmps.size := by rw [M.size]; exact hlt
            simp [this]
          · rw [if_neg hj]
            exact M.old t fun j hj1 _ e => hj ⟨j, List.mem_range.2 hj1, e⟩
        · rw [Array.getElem?_eq_none (by rw [M.size]; exact hge), Array.getElem?_eq_none (by rw [h1]; exact hge)]
      have ed := M.defers.trans h2.symm
      cases a with
      | mk ta da =>
        cases hp : putAll ts (fun t => (Act.mk ta da).tmps.getD t undef) (List.range n) a0 with
        | mk tb db =>
          rw [hp] at et ed
          simp only at et ed
          rw [et, ed]
  | k + 1, listed, a, w, hk, h00, M => by
    have hex : ∃ i, i < n ∧ listed.getD i false = false := by
      have : ((List.range n).filter fun i => !listed.getD i false) ≠ [] := fun h => by rw [h] at hk; simp at hk
      obtain ⟨i, hi⟩ := List.exists_mem_of_ne_nil _ this
      simp only [List.mem_filter, List.mem_range, Bool.not_eq_true'] at hi
      exact ⟨i, hi.1, hi.2⟩
    obtain ⟨u, hu, hlu⟩ := hex
    have hlt : ∀ t, n ≤ t → t ∉ Region.ready .any ops listed := tail_waits0 hs hc hn M.inv (n - u) u rfl (fun e => by rw [e, h00] at hlu; cases hlu) hu (getD_in (by rw [M.inv.size]; omega) hlu)
    have hne : Region.ready .any ops listed ≠ [] := by
      have least : ∀ m, ∀ u, u ≤ m → u < n → listed.getD u false = false → ∃ v, v < n ∧ listed.getD v false = false ∧ ∀ x, x < v → listed.getD x false = true := by
        intro m
        induction m with
        | zero => intro u hm hu hlu; exact ⟨u, hu, hlu, fun x hx => by omega⟩
        | succ m ih =>
          intro u hm hu hlu
          by_cases hx : ∃ x, x < u ∧ listed.getD x false = false
          · obtain ⟨x, hxu, hlx⟩ := hx
            exact ih x (by omega) (by omega) hlx
          · refine ⟨u, hu, hlu, fun x hxu => ?_⟩
            cases hlx : listed.getD x false with
            | true => rfl
            | false => exact absurd ⟨x, hxu, hlx⟩ hx
      obtain ⟨v, hv, hlv, hbelow⟩ := least u u (Nat.le_refl _) hu hlu
      obtain ⟨o, ho, _, _, _, _, _, _, hed⟩ := headB_at hB hv
      have hm : v ∈ Region.ready .any ops listed := mem_ready.2 ⟨getD_in (by rw [M.inv.size]; omega) hlv, o, ho, fun e he hb => hbelow _ (hed e he hb)⟩
      exact fun h => by rw [h] at hm; cases hm
    rw [show k + 1 + g = (k + g) + 1 by omega]
    refine ⟨fun h => absurd h hne, fun i hi => ?_⟩
    have hin : i < n := by
      rcases Nat.lt_or_ge i n with h | h
      · exact h
      · exact absurd hi (hlt i h)
    refine wpOp_mono (fun a' w' M' => mid_all0 hN hQ hts hFs hn hs hc hB hl H hfin k _ a' w' ?_ (getD_set_true h00) M') (mid_step hN hQ hB hl H M hin hi)
    have hiu : listed.getD i false = false := by
      have := (mem_ready.1 hi).1
      exact getD_both this
    have key : ∀ m, m ≤ n → ((List.range m).filter fun j => !(listed.setIfInBounds i true).getD j false).length = ((List.range m).filter fun j => !listed.getD j false).length - if i < m then 1 else 0 := by
      intro m
      induction m with
      | zero => intro _; simp
      | succ m ih =>
        intro hm
        rw [List.range_succ, List.filter_append, List.filter_append, List.length_append, List.length_append, ih (by omega)]
        have hpos : i < m → 1 ≤ ((List.range m).filter fun j => !listed.getD j false).length := fun him => by
          have : i ∈ (List.range m).filter fun j => !listed.getD j false := by simp [him]; simpa using hiu
          exact List.length_pos_of_mem this
        by_cases e : i = m
        · subst e
          have h1 : (listed.setIfInBounds i true).getD i false = true := by
            have : i < listed.size := by rw [M.inv.size]; omega
            simp [this]
          simp only [List.filter_cons, List.filter_nil, h1, hiu]
          simp
        · simp only [List.filter_cons, List.filter_nil]
          rw [getD_set_ne false e]
          by_cases him : i < m
          · have := hpos him
            have e1 : (if i < m then 1 else 0) = 1 := if_pos him
            have e2 : (if i < m + 1 then 1 else 0) = 1 := if_pos (by omega)
            rw [e1, e2]; omega
          · have e1 : (if i < m then 1 else 0) = 0 := if_neg him
            have e2 : (if i < m + 1 then 1 else 0) = 0 := if_neg (by omega)
            rw [e1, e2]; omega
    rw [key n (Nat.le_refl _), hk, if_pos hin]; omega
/-- A region that draws its order: its first operations each by a fact of its own, the others, which wait for all of them, one behind the other. -/
theorem wp_region_abs0 {id : Nat} {Q : Exit → Act → World → Prop} {a : Act} {w : World} {l : List Oper} (n N : Nat) (o0 : Oper) (v0 : Value) (Fs : List Say) (ts : List Tmp) (Ds : List (List Nat)) (hm : P.follows .mixedOrders = true) (hN : a.tmps.size = N) (hFs : Fs.length = n) (hDs : Ds.length = n)
    (ho0 : l[0]? = some o0) (hF0 : Fs.getD 0 any = .is v0) (hns : Region.noSelect l.toArray = true) (hfr : Region.free .any l.toArray (Array.replicate l.toArray.size false) 0 = true) (hrd : (Region.ready .any l.toArray (Array.replicate l.toArray.size false)).contains 0 = true) (hy : Yields P l.toArray o0 v0 a)
    (hB : abs0 l.toArray n N ts Ds = true) (hQ : ∀ c a b w, Q (.panic c) a w → Q (.panic c) b w)
    (H : Heads P l.toArray Q Fs ts a w.drew (l.take n) Ds Fs)
    (R : ∀ w', Ext w.drew w' → Behind w.drew w' [] Fs ts Ds a (fun a' => wpList P l.toArray Q (l.drop n) a' w')) : (Code.region id l.toArray true).wp P Q a w := by
  simp only [abs0, Bool.and_eq_true, decide_eq_true_eq] at hB
  obtain ⟨⟨⟨⟨⟨hts, hn⟩, hs⟩, hc⟩, hh⟩, hseq⟩ := hB
  have hn' : n < l.length := by simpa using hn
  have hn0 : 0 < n := by
    rcases Nat.eq_zero_or_pos n with e | e
    · subst e
      rw [List.length_eq_zero_iff.1 hFs] at hF0
      cases hF0
    · exact e
  obtain ⟨ob, hob, hd0, hd1, _, _, _, _, _⟩ := headB_at hh hn0
  have hoo : l.toArray[0]? = some o0 := by simpa using ho0
  obtain rfl : o0 = ob := Option.some.inj (hoo.symm.trans hob)
  refine wp_region_any hm ?_
  rw [show l.toArray.size = (l.toArray.size - 1) + 1 by omega]
  rw [show (l.toArray.size - 1) + 1 = l.toArray.size by omega]
  have hsz1 : l.toArray.size = (l.toArray.size - 1) + 1 := by omega
  have inv00 : HeadInv .any l.toArray n (Array.replicate l.toArray.size false) :=
    ⟨by simp, fun j oj _ hl => (by rw [getD_replicate_false] at hl; cases hl), fun t _ ht => getD_in (by simpa using ht) (getD_replicate_false _ _)⟩
  have inv0 := inv00.set (i := 0) (by simpa using hrd) hn0
  have key := mid_all0 (g := (l.drop n).length) hN hQ hts hFs hn hs hc hh (fun i hi => by simp [hi]) H (fun listed a' w' hl hz hx ha hf => by
    have hl2 : listed = (Array.replicate n true) ++ Array.replicate (l.toArray.size - n) false := by
      apply Array.ext
      · rw [hz]; simp; omega
      · intro i h1 h2
        have h3 := hl i (by rw [← hz]; exact h1)
        rw [Array.getElem_append]
        by_cases hin : i < n
        · rw [decide_eq_true hin] at h3
          simp [hin]
          simpa [h1] using h3
        · rw [decide_eq_false hin] at h3
          simp [hin]
          simpa [h1] using h3
    rw [hl2]
    refine wpAny_of_seq (l.drop n) n _ a' w' (fun j => by simp) (by simpa using hseq) ?_
    obtain ⟨B, A, hf⟩ := hf
    have := Behind.at (m := 0) (G := fun j => Fs.getD j any) (V := fun j => a'.tmps.getD (ts.getD j 0) undef) (A := A) (B := B) (s := fun t => a'.tmps.getD t undef) (R w' hx) (by rw [hFs, hts]) (by rw [hDs, hts]) (fun i hi => by
      rw [hts] at hi
      obtain ⟨h1, h2, h3, h4⟩ := hf i hi
      rw [Nat.zero_add]
      refine ⟨rfl, rfl, h1, h2, fun j hj => ⟨?_, h3 j hj⟩, h4⟩
      obtain ⟨oi, hoi, _, _, _, hdi, _, _, hei⟩ := headB_at hh hi
      obtain ⟨oj, hoj, e', he', hb', hon⟩ := Region.waitsFor_spec (hdi j hj).2
      obtain rfl : oi = oj := Option.some.inj (hoi.symm.trans hoj)
      rw [← hon]; exact hei e' he' hb')
    rw [hts, ← ha] at this
    exact this) _ ((Array.replicate l.toArray.size false).setIfInBounds 0 true) (a.put o0.dst v0) w.drew rfl (by simp; omega) ⟨inv0, Below.refl _ _, by rw [hd0]; rfl, by rw [hd0]; simp [Act.put], fun t ht => ?_, fun _ => w.drew, fun _ => w.drew, fun i hi hl => ?_⟩
  · have e : ((List.range n).filter fun i => !((Array.replicate l.toArray.size false).setIfInBounds 0 true).getD i false).length = n - 1 := by
      have h0l : ((Array.replicate l.toArray.size false).setIfInBounds 0 true).getD 0 false = true := by simp; omega
      obtain ⟨q, hq⟩ : ∃ q, n = q + 1 := ⟨n - 1, by omega⟩
      rw [hq, List.range_succ_eq_map, List.filter_cons_of_neg (by rw [h0l]; decide), List.filter_eq_self.2 (fun i hi => by
        obtain ⟨k, _, rfl⟩ := List.mem_map.1 hi
        rw [getD_set_ne false (by omega), getD_replicate_false]; rfl)]
      simp
    rw [e, List.length_drop, show n - 1 + (l.length - n) = l.toArray.size - 1 by rw [List.size_toArray]; omega] at key
    show wpAny P .any l.toArray Q l.toArray.size (Array.replicate l.toArray.size false) a w.drew
    generalize Array.replicate l.toArray.size false = li at *
    rw [hsz1]
    exact wpAny_take hoo hns hfr hrd (fun c a' w' h => hQ _ _ _ _ h) hy key
  · have h0l : ((Array.replicate l.toArray.size false).setIfInBounds 0 true).getD 0 false = true := by simp; omega
    rw [hd0]
    simp only [Act.put]
    rw [Array.getElem?_setIfInBounds_ne (ht 0 hn0 h0l)]
  · have hi0 : i = 0 := by
      rcases Nat.eq_zero_or_pos i with e | e
      · exact e
      · rw [getD_set_ne false (by omega), getD_replicate_false] at hl; cases hl
    subst hi0
    have hds : Ds.getD 0 [] = [] := by
      obtain ⟨oi, hoi, _, _, _, hdi, _, _, hei⟩ := headB_at hh hn0
      cases hq : Ds.getD 0 [] with
      | nil => rfl
      | cons j js =>
        obtain ⟨oj, hoj, e', he', hb', hon⟩ := Region.waitsFor_spec (hdi j (by rw [hq]; simp)).2
        obtain rfl : oi = oj := Option.some.inj (hoi.symm.trans hoj)
        have := hei e' he' hb'
        omega
    refine ⟨?_, Below.refl _ _, fun j hj => Below.refl _ _, Below.refl _ _⟩
    rw [hF0, hds, hd0]
    show (a.put (some (ts.getD 0 0)) v0).tmps.getD (ts.getD 0 0) undef = v0
    simp only [Act.put, Array.getD_eq_getD_getElem?]
    rw [Array.getElem?_setIfInBounds_self_of_lt (by rw [hN]; exact hd1)]
    rfl
end
end Go.Proofs.Ytejpjbmbcdgomaa

/- A sweep goes past an entry. Written by gen_vpass.py. -/
namespace Go.Proofs.Ytejpjbmbcdgomaa
set_option maxRecDepth 100000
open Go.RowKit

theorem rdv_atE {w : World} {p : Nat} {e : En} {T : TypeId} (hb : w.heap[p]? = some (.cells #[.int .i64 (e.t : Int), .int .i64 e.x.k, .int .i64 e.x.c.v, .int .i64 e.x.c.s, .bool e.x.c.dead] T (0, 0))) : Rdv w (some ⟨p, 0, none⟩) 1 5 e.vals :=
  ⟨rfl, fun _ => ⟨p, 0, rfl, fun j u hj => by
    rw [Nat.zero_add, cell_of_row _ p j _ T (0, 0) hb]
    unfold En.vals at hj
    simpa using hj⟩⟩
theorem swm_cur {w : World} {xb : Nat} {so : Option Addr} {ct ck : Int} {nv tv : Value} {d : Bool} (h : SwM w xb so ct ck nv tv d) (a b : Int) : SwM ((w.setCell ⟨xb, 1, none⟩ (.int .i64 a)).setCell ⟨xb, 2, none⟩ (.int .i64 b)) xb so a b nv tv d := (heap_set _ xb 2 (.int .i64 b) (heap_set w xb 1 (.int .i64 a) h)).trans rfl
theorem Touch.later {w w1 w2 : World} {g : Nat} {r : Option Nat} (h : Touch w w1 g r) (hb : Below w1.heap.size w1 w2) : Touch w w2 g r := ⟨hb.os.trans h.os, hb.tape.trans h.tape, hb.output.trans h.output, Nat.le_trans h.size hb.size, fun k hk h1 h2 => (hb.block k (Nat.lt_of_lt_of_le hk h.size)).trans (h.block k hk h1 h2)⟩
theorem Touch.set {w w1 : World} {g j : Nat} {r : Option Nat} {u : Value} (h : Touch w w1 g r) : Touch w (w1.setCell ⟨g, j, none⟩ u) g r := ⟨h.os, h.tape, h.output, by rw [World.size_setCell]; exact h.size, fun k hk h1 h2 => (heap_ne _ _ _ _ h1).trans (h.block k hk h1 h2)⟩
theorem Touch.grown {w w1 w2 : World} {g : Nat} {r : Option Nat} (h : Touch w w1 g r) (hg : w1.grownBy w2 r) : Touch w w2 g r := ⟨hg.os.trans h.os, hg.tape.trans h.tape, hg.output.trans h.output, Nat.le_trans h.size hg.size, fun k hk h1 h2 => (hg.block k (Nat.lt_of_lt_of_le hk h.size) (fun e => h2 e.symm)).trans (h.block k hk h1 h2)⟩
theorem Touch.of {w w1 : World} {g : Nat} {r : Option Nat} (hb : Below w.heap.size w w1) : Touch w w1 g r := ⟨hb.os, hb.tape, hb.output, hb.size, fun k hk _ _ => hb.block k hk⟩
set_option maxHeartbeats 8000000 in
theorem swpass_take {w : World} {B xb : Nat} {so : Option Addr} {ct ck : Int} {nv tv : Value} {d : Bool} {T : List En} (h : SwM w xb so ct ck nv tv d) (hB : B ≤ xb) (ho : Sno w B tv T) (hT : T.length ≤ 100000) (e : En) (he : e.t ≤ 4) (hk : Fits e.x.k) (lv : Bool) :
    Calls Try.prog 84 #[.pointer (some ⟨xb, 0, none⟩), .agg e.vals.toArray, .bool lv] w fun r w' => r = .returned (.tuple #[]) ∧ ∃ tv', SwM w' xb so (bhT (e.t : Int) e.x.k) (bhK e.x.k) nv tv' d ∧ Sno w' B tv' (if lv then T ++ [e] else T) ∧ Touch w w' xb tv.ownBlock ∧ (∀ q, tv'.ownBlock = some q → tv.ownBlock = some q ∨ w.heap.size ≤ q) := by
  have hne : tv.ownBlock ≠ some xb := fun c => by
    obtain ⟨cur, e7⟩ := own_at ho c
    have e8 : w.heap[xb]? = some (.cells #[.pointer so, .int .i64 ct, .int .i64 ck, nv, tv, .bool d] 145 (0, 0)) := h
    rw [e8] at e7
    injection e7 with e7
    injection e7 with _ e9 _
    revert e9
    decide
  obtain ⟨A9, c9, htv⟩ := own_form ho
  obtain ⟨n9, hn9⟩ : ∃ n9, n9 = T.length := ⟨_, rfl⟩
  rw [← hn9] at htv
  subst htv
  have ho9 : w.ownsRow B 112 5 (.slice A9 n9 c9) n9 (rowV En.vals T) := by rw [hn9] at ho ⊢; exact ho
  have HN9 := Lib.hid (And.intro hn9 ho9)
  obtain ⟨p4, hp4⟩ : ∃ p4, p4 = w.heap.size := ⟨_, rfl⟩
  obtain ⟨W1, hW1⟩ : ∃ W1, W1 = w.alloc (.cells #[.int .i64 (e.t : Int), .int .i64 e.x.k, .int .i64 e.x.c.v, .int .i64 e.x.c.s, .bool e.x.c.dead] 112) := ⟨_, rfl⟩
  have hb1 : Below w.heap.size w W1 := by rw [hW1]; exact (Below.refl _ _).alloc (Nat.le_refl _) _
  have hx4 : W1.heap[p4]? = some (.cells #[.int .i64 (e.t : Int), .int .i64 e.x.k, .int .i64 e.x.c.v, .int .i64 e.x.c.s, .bool e.x.c.dead] 112 (0, 0)) := by rw [hW1, hp4]; exact heap_alloc_new w _
  have HIN := Lib.hid (And.intro h (And.intro hB (And.intro ho (And.intro hT (And.intro he (And.intro hk hne))))))
  have HW := Lib.hid (And.intro hW1 hp4)
  have H1 := Lib.hid (And.intro hb1 (And.intro hx4 (SwM.below h hb1)))
  have hr : rowV En.vals T = rowV En.vals T := rfl
  clear hn9 ho9 h hB ho hT he hk hne hp4 hW1 hb1 hx4 hr
  unfold En.vals
  go_enter Try.func84, Try.ntmps84
  go_upto_region 1 with fail
  rw [← HW.out.1, ← HW.out.2]
  cases lv with
  | false =>
    have HE : Hid (SwM W1 xb so ct ck nv (.slice A9 n9 c9) d ∧ W1.heap[p4]? = some (.cells #[.int .i64 (e.t : Int), .int .i64 e.x.k, .int .i64 e.x.c.v, .int .i64 e.x.c.s, .bool e.x.c.dead] 112 (0, 0)) ∧ Sno W1 B (.slice A9 n9 c9) T ∧ Touch w W1 xb (Value.slice A9 n9 c9).ownBlock ∧ (∀ q, (Value.slice A9 n9 c9).ownBlock = some q → (Value.slice A9 n9 c9).ownBlock = some q ∨ w.heap.size ≤ q)) := Lib.hid ⟨H1.out.2.2, H1.out.2.1, HIN.out.2.2.1.below H1.out.1, Touch.of H1.out.1, fun q e => .inl e⟩
    go_upto_region 3 with fail
    have c0 : W1.cell? ⟨p4, 0, none⟩ = some (.int .i64 (e.t : Int)) := by rw [cell_of_row _ _ 0 _ _ _ HE.out.2.1]; rfl
    have c1 : W1.cell? ⟨p4, 1, none⟩ = some (.int .i64 e.x.k) := by rw [cell_of_row _ _ 1 _ _ _ HE.out.2.1]; rfl
    have HBE := Lib.hid (behind_any W1 (e.t : Int) e.x.k (by have := HIN.out.2.2.2.2.1; omega) HIN.out.2.2.2.2.2.1)
    go_wp2_with fail
    refine Calls.mono HBE.out ?_
    rintro r w3 ⟨rfl, hb3⟩
    have h3 := SwM.below HE.out.1 hb3
    obtain ⟨_, z1, z2, _, _, _⟩ := SwM.at h3
    have zf := frozen_of h3
    have HF : Hid (SwM ((w3.setCell ⟨xb, 1, none⟩ (.int .i64 (bhT (e.t : Int) e.x.k))).setCell ⟨xb, 2, none⟩ (.int .i64 (bhK e.x.k))) xb so (bhT (e.t : Int) e.x.k) (bhK e.x.k) nv (.slice A9 n9 c9) d ∧ Sno ((w3.setCell ⟨xb, 1, none⟩ (.int .i64 (bhT (e.t : Int) e.x.k))).setCell ⟨xb, 2, none⟩ (.int .i64 (bhK e.x.k))) B (.slice A9 n9 c9) T ∧ Touch w ((w3.setCell ⟨xb, 1, none⟩ (.int .i64 (bhT (e.t : Int) e.x.k))).setCell ⟨xb, 2, none⟩ (.int .i64 (bhK e.x.k))) xb (Value.slice A9 n9 c9).ownBlock) := Lib.hid ⟨swm_cur h3 _ _, own_same (HE.out.2.2.1.below hb3) fun q hq => (heap_ne _ _ _ _ (fun e2 => HIN.out.2.2.2.2.2.2 (by rw [hq, e2]))).trans (heap_ne _ _ _ _ (fun e2 => HIN.out.2.2.2.2.2.2 (by rw [hq, e2]))), (HE.out.2.2.2.1.later hb3).set.set⟩
    clear hb3 h3 c0 c1
    go_wp2_with fail
    exact bodyPost_end (v := .tuple #[]) (by simp [results, Try.results84, go_sem]) rfl ⟨rfl, _, HF.out.1, HF.out.2.1, HF.out.2.2, HE.out.2.2.2.2⟩
  | true =>
    have HCE : Hid (∀ W2, Below W1.drew.heap.size W1.drew W2 → W2.cell? ⟨xb, 4, none⟩ = some (.slice A9 n9 c9) ∧ W2.cell? ⟨p4, 0, none⟩ = some (.int .i64 (e.t : Int)) ∧ W2.cell? ⟨p4, 1, none⟩ = some (.int .i64 e.x.k) ∧ W2.cell? ⟨p4, 2, none⟩ = some (.int .i64 e.x.c.v) ∧ W2.cell? ⟨p4, 3, none⟩ = some (.int .i64 e.x.c.s) ∧ W2.cell? ⟨p4, 4, none⟩ = some (.bool e.x.c.dead)) := Lib.hid fun W2 hw => by
      have hw2 : Below W1.heap.size W1 W2 := (Below.refl _ _).drew.trans hw
      have e4 := (hw2.block p4 (Array.getElem?_eq_some_iff.1 H1.out.2.1).1).trans H1.out.2.1
      exact ⟨(H1.out.2.2.below hw2).at.2.2.2.2.1, by rw [cell_of_row _ _ 0 _ _ _ e4]; rfl, by rw [cell_of_row _ _ 1 _ _ _ e4]; rfl, by rw [cell_of_row _ _ 2 _ _ _ e4]; rfl, by rw [cell_of_row _ _ 3 _ _ _ e4]; rfl, by rw [cell_of_row _ _ 4 _ _ _ e4]; rfl⟩
    go_upto_region 2 with fail
    refine wp_region_noPanic ?_
    refine wp_region_abs0 7 23 _ (.pointer (some ⟨xb, 0, none⟩)) [
      .is (.pointer (some ⟨xb, 0, none⟩)),
      .is (.pointer (some ⟨xb, 0, none⟩)),
      .is (.pointer (some ⟨xb, 0, none⟩)),
      .is (.pointer (some ⟨xb, 4, none⟩)),
      .is (.slice A9 n9 c9),
      .is (.agg #[.int .i64 (e.t : Int), .int .i64 e.x.k, .int .i64 e.x.c.v, .int .i64 e.x.c.s, .bool e.x.c.dead]),
      .tells (fun _ v wb wa => v = .slice (some ⟨wb.heap.size, 0, none⟩) 1 1 ∧ wa.heap[wb.heap.size]? = some (.cells #[.int .i64 (e.t : Int), .int .i64 e.x.k, .int .i64 e.x.c.v, .int .i64 e.x.c.s, .bool e.x.c.dead] 112 (0, 0)))]
      [7, 8, 9, 10, 11, 12, 13]
      [[], [], [1], [2], [3], [], [5]] (by kernel_rfl) (by rfl) rfl rfl (by rfl) rfl (by kernel_rfl) (by kernel_rfl) (by kernel_rfl) (.inl ⟨rfl, fun _ => rfl⟩) (by kernel_rfl) (fun _ _ _ _ h => h.elim) ?_ ?_
    · refine ⟨?_, ?_, ?_, ?_, ?_, ?_, ?_, trivial⟩
      · intro W2 hw K hK
        go_simp
        exact hK _ _ rfl (Below.refl _ _)
      · intro W2 hw K hK
        go_simp
        exact hK _ _ rfl (Below.refl _ _)
      · intro W2 hw K hK
        go_simp
        exact hK _ _ rfl (Below.refl _ _)
      · intro W2 hw K hK
        go_simp
        exact hK _ _ rfl (Below.refl _ _)
      · intro W2 hw K hK
        obtain ⟨s0, s1, s2, s3, s4, s5⟩ := HCE.out W2 hw
        go_simp
        exact hK _ _ rfl (Below.refl _ _)
      · intro W2 hw K hK
        obtain ⟨s0, s1, s2, s3, s4, s5⟩ := HCE.out W2 hw
        go_simp
        exact hK _ _ rfl (Below.refl _ _)
      · intro W2 hw K hK
        go_simp
        exact hK _ _ ⟨rfl, heap_alloc_new W2 _⟩ ((Below.refl _ _).alloc (Nat.le_refl _) _)
    · intro W2 hw2
      simp only [Behind]
      rintro v6 wb6 wa6 ⟨rfl, hrow⟩ hx6 _ _
      have hB2 : Below W1.heap.size W1 W2 := (Below.refl _ W1).drew.trans hw2
      obtain ⟨p6, hp6⟩ : ∃ p6, p6 = wb6.heap.size := ⟨_, rfl⟩
      rw [← hp6] at hrow ⊢
      have g6 := (hx6.block p6 (Array.getElem?_eq_some_iff.1 hrow).1).trans hrow
      have hsw : SwM W2 xb so ct ck nv (.slice A9 n9 c9) d := H1.out.2.2.below hB2
      have h4 := (hB2.block p4 (Array.getElem?_eq_some_iff.1 H1.out.2.1).1).trans H1.out.2.1
      have H2 := Lib.hid (And.intro hsw (And.intro (own_same HN9.out.2 fun q hq => by obtain ⟨_, e9⟩ := own_at HN9.out.2 hq; exact (H1.out.1.trans (hB2.mono H1.out.1.size)).block q (Array.getElem?_eq_some_iff.1 e9).1) (And.intro (rdv_atE g6) (And.intro (H1.out.1.trans (hB2.mono H1.out.1.size)) h4))))
      have HBS : Hid (B ≤ W2.heap.size) := Lib.hid (by have := HIN.out.2.1; have := hsw.lt; omega)
      clear hw2 hrow hx6 hB2 hp6 g6 hsw h4
      simp only [List.drop, Act.put, List.setIfInBounds_toArray, List.set_cons_zero, List.set_cons_succ]
      go_wp2_with (at_builtin; refine wpList_append_rowg elemSn rfl (.tmp 11) (.tmp 13) rfl B (.slice A9 n9 c9) n9 (rowV En.vals T) rfl H2.out.2.1 (some ⟨p6, 0, none⟩) 1 1 (En.vals e) rfl H2.out.2.2.1 (en1 _) (fun h => by cases h) (by have := HIN.out.2.2.2.1; have := HN9.out.1; unfold maxLen; omega) (by have := HIN.out.2.2.2.1; have := HN9.out.1; omega) HBS.out ?_; intro v' w' ho hg hq; have hblk := (hg.block xb (SwM.lt H2.out.1) (fun he => HIN.out.2.2.2.2.2.2 he.symm)).trans H2.out.1; have c3 : w'.cell? ⟨xb, 4, none⟩ = some (.slice A9 n9 c9) := (by rw [cell_of_row _ _ 4 _ _ _ hblk]; rfl); have f3 := frozen_of hblk 4; obtain ⟨A8, c8, rfl⟩ := own_form ho; have HO8 := Lib.hid (And.intro ho (And.intro hg (And.intro hq hblk))); clear ho hg hq hblk)
      refine NoPanic.normal ?_
      obtain ⟨Wt, hWt⟩ : ∃ Wt, Wt = w'.setCell ⟨xb, 4, none⟩ (.slice A8 (n9 + 1) c8) := ⟨_, rfl⟩
      rw [← hWt]
      obtain ⟨ho, hg, hq, hblk⟩ := HO8.out
      have hw2 := H2.out.2.2.2.1
      have hxl := SwM.lt H2.out.1
      have hqx : ∀ q, (Value.slice A8 (n9 + 1) c8).ownBlock = some q → q ≠ xb := fun q e e2 => by
        rcases hq q e with e3 | e3
        · exact HIN.out.2.2.2.2.2.2 (by rw [e3, e2])
        · omega
      have hpx : p4 ≠ xb := by have := HW.out.2; have := SwM.lt HIN.out.1; omega
      have hp4 : (Value.slice A9 n9 c9).ownBlock ≠ some p4 := fun c => by
        obtain ⟨_, e9⟩ := own_at HN9.out.2 c
        have := (Array.getElem?_eq_some_iff.1 e9).1
        have := HW.out.2
        omega
      have HE : Hid (SwM Wt xb so ct ck nv (.slice A8 (n9 + 1) c8) d ∧ Wt.heap[p4]? = some (.cells #[.int .i64 (e.t : Int), .int .i64 e.x.k, .int .i64 e.x.c.v, .int .i64 e.x.c.s, .bool e.x.c.dead] 112 (0, 0)) ∧ Sno Wt B (.slice A8 (n9 + 1) c8) (T ++ [e]) ∧ Touch w Wt xb (Value.slice A9 n9 c9).ownBlock ∧ (∀ q, (Value.slice A8 (n9 + 1) c8).ownBlock = some q → (Value.slice A9 n9 c9).ownBlock = some q ∨ w.heap.size ≤ q)) := Lib.hid (by
        rw [hWt]
        refine ⟨(heap_set w' xb 4 _ hblk).trans rfl, (heap_ne _ _ _ _ hpx).trans ((hg.block p4 (Array.getElem?_eq_some_iff.1 H2.out.2.2.2.2).1 (fun e => hp4 e.symm)).trans H2.out.2.2.2.2), ?_, ((Touch.of hw2).grown hg).set, fun q e => (hq q e).imp id fun e => Nat.le_trans hw2.size e⟩
        have h9 : w'.ownsRow B 112 5 (.slice A8 (n9 + 1) c8) (T ++ [e]).length (rowV En.vals (T ++ [e])) := by
          rw [List.length_append, rowV_append, ← HN9.out.1]
          simpa [rowV] using ho
        exact own_same h9 fun q hq2 => heap_ne _ _ _ _ (hqx q hq2))
      have HQX := Lib.hid hqx
      clear hWt ho hg hq hblk hw2 hxl hqx hpx hp4 c3 f3
      have c0 : Wt.cell? ⟨p4, 0, none⟩ = some (.int .i64 (e.t : Int)) := by rw [cell_of_row _ _ 0 _ _ _ HE.out.2.1]; rfl
      have c1 : Wt.cell? ⟨p4, 1, none⟩ = some (.int .i64 e.x.k) := by rw [cell_of_row _ _ 1 _ _ _ HE.out.2.1]; rfl
      have HBE := Lib.hid (behind_any Wt (e.t : Int) e.x.k (by have := HIN.out.2.2.2.2.1; omega) HIN.out.2.2.2.2.2.1)
      go_wp2_with fail
      refine Calls.mono HBE.out ?_
      rintro r w3 ⟨rfl, hb3⟩
      have h3 := SwM.below HE.out.1 hb3
      obtain ⟨_, z1, z2, _, _, _⟩ := SwM.at h3
      have zf := frozen_of h3
      have HF : Hid (SwM ((w3.setCell ⟨xb, 1, none⟩ (.int .i64 (bhT (e.t : Int) e.x.k))).setCell ⟨xb, 2, none⟩ (.int .i64 (bhK e.x.k))) xb so (bhT (e.t : Int) e.x.k) (bhK e.x.k) nv (.slice A8 (n9 + 1) c8) d ∧ Sno ((w3.setCell ⟨xb, 1, none⟩ (.int .i64 (bhT (e.t : Int) e.x.k))).setCell ⟨xb, 2, none⟩ (.int .i64 (bhK e.x.k))) B (.slice A8 (n9 + 1) c8) (T ++ [e]) ∧ Touch w ((w3.setCell ⟨xb, 1, none⟩ (.int .i64 (bhT (e.t : Int) e.x.k))).setCell ⟨xb, 2, none⟩ (.int .i64 (bhK e.x.k))) xb (Value.slice A9 n9 c9).ownBlock) := Lib.hid ⟨swm_cur h3 _ _, own_same (HE.out.2.2.1.below hb3) fun q hq => (heap_ne _ _ _ _ (HQX.out q hq)).trans (heap_ne _ _ _ _ (HQX.out q hq)), (HE.out.2.2.2.1.later hb3).set.set⟩
      clear hb3 h3 c0 c1
      go_wp2_with fail
      exact bodyPost_end (v := .tuple #[]) (by simp [results, Try.results84, go_sem]) rfl ⟨rfl, _, HF.out.1, HF.out.2.1, HF.out.2.2, HE.out.2.2.2.2⟩
end Go.Proofs.Ytejpjbmbcdgomaa

/- A sweep's step, pure; rows of entries and of notes, cut from ahead. -/
namespace Go.Proofs.Ytejpjbmbcdgomaa
set_option maxRecDepth 100000
open Go.RowKit

/-- A note: what stood at a key, and whether it lived. -/
structure Nt where
  e : En
  live : Bool
def Nt.vals (x : Nt) : List Value := [.int .i64 (x.e.t : Int), .int .i64 x.e.x.k, .int .i64 x.e.x.c.v, .int .i64 x.e.x.c.s, .bool x.e.x.c.dead, .bool x.live]
theorem Nt.vlen (x : Nt) : x.vals.length = 6 := rfl
def passT (T : List En) (e : En) (lv : Bool) : List En := if lv then T ++ [e] else T
def sameK (a b : En) : Bool := decide ((a.t : Int) = b.t) && decide (a.x.k = b.x.k)
/-- What a step comes to: notes, what was taken, cursor, done. -/
def stepS : Nat → List En → List Nt → List En → Int → Int → List Nt × List En × Int × Int × Bool
  | 0, _, NS, T, ct, ck => (NS, T, ct, ck, false)
  | _ + 1, [], [], T, ct, ck => ([], T, ct, ck, true)
  | n + 1, [], x :: NS, T, _, _ => stepS n [] NS (passT T x.e x.live) (bhT x.e.t x.e.x.k) (bhK x.e.x.k)
  | n + 1, y :: L, [], T, _, _ => stepS n L [] (T ++ [y]) (bhT y.t y.x.k) (bhK y.x.k)
  | n + 1, y :: L, x :: NS, T, _, _ =>
    if lessK y.t y.x.k x.e.t x.e.x.k then stepS n L (x :: NS) (T ++ [y]) (bhT y.t y.x.k) (bhK y.x.k)
    else stepS n (if sameK y x.e then L else y :: L) NS (passT T x.e x.live) (bhT x.e.t x.e.x.k) (bhK x.e.x.k)
abbrev Nts (w : World) (A : Option Addr) (l : List Nt) : Prop := RowAt Nt.vals 6 w A l.length l
/-- A row, cut from ahead. -/
theorem RowAt.tail {α : Type} {f : α → List Value} {k : Nat} {w : World} {b off : Nat} {x : α} {l : List α} (hf : ∀ x, (f x).length = k) (h : RowAt f k w (some ⟨b, off, none⟩) (x :: l).length (x :: l)) : RowAt f k w (some ⟨b, off + k, none⟩) l.length l := by
  have hl : ∀ l : List α, (rowV f l).length = l.length * k := fun l => by
    induction l with
    | nil => simp [rowV]
    | cons a l ih =>
      have e : rowV f (a :: l) = f a ++ rowV f l := by simp [rowV]
      rw [e, List.length_append, ih, hf, List.length_cons, Nat.succ_mul, Nat.add_comm]
  refine ⟨rfl, hl l, fun hn => ⟨b, off + k, rfl, fun j u hj => ?_⟩⟩
  obtain ⟨b', off', e, hc⟩ := h.row.2 (by simp)
  have e1 : b = b' ∧ off = off' := by simpa using e
  obtain ⟨rfl, rfl⟩ := e1
  have e2 : rowV f (x :: l) = f x ++ rowV f l := by simp [rowV]
  have h9 := hc (k + j) u (by rw [e2, List.getElem?_append_right (by rw [hf]; omega), hf, Nat.add_sub_cancel_left]; exact hj)
  rw [Nat.add_assoc]
  exact h9
theorem RowAt.head {α : Type} {f : α → List Value} {k : Nat} {w : World} {A : Option Addr} {x : α} {l : List α} (hf : ∀ x, (f x).length = k) (h : RowAt f k w A (x :: l).length (x :: l)) : ∃ b off, A = some ⟨b, off, none⟩ ∧ ∀ r u, r < k → (f x)[r]? = some u → w.cell? ⟨b, off + r, none⟩ = some u := by
  obtain ⟨b, off, e, hc⟩ := h.row.2 (by simp)
  refine ⟨b, off, e, fun r u hr hu => hc r u ?_⟩
  have e2 : rowV f (x :: l) = f x ++ rowV f l := by simp [rowV]
  rw [e2, List.getElem?_append_left (by rw [hf]; exact hr)]
  exact hu
end Go.Proofs.Ytejpjbmbcdgomaa
