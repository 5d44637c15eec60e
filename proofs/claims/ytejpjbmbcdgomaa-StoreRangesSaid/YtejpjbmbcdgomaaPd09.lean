/- SRegIn: put together. -/
import Derived.Test.YtejpjbmbcdgomaaPc12
import Derived.Test.YtejpjbmbcdgomaaPc25
/- A region that draws its order inside a round of a range over a function: as anywhere. -/
namespace Go.Proofs.Ytejpjbmbcdgomaa
set_option maxRecDepth 100000
open Go.RowKit

section
variable {P : Program} {ops : Array Oper} {Q : Exit → Act → World → Prop} {md : Region.Mode} {l n : Nat}
def noDefer (ops : Array Oper) : Bool := ops.all fun o => match o.op with | .defer _ => false | _ => true
theorem noDefer_at (h : noDefer ops = true) {i : Nat} {o : Oper} (hi : ops[i]? = some o) : ∀ c, o.op ≠ .defer c := fun c e => by
  have h1 := (Array.all_eq_true_iff_forall_mem.1 h) o (Array.mem_of_getElem? hi)
  simp [e] at h1
theorem opIn_of {o : Oper} {a : Act} {w : World} {K : Act → World → Prop} (hd : ∀ c, o.op ≠ .defer c) (h : o.wp P a w K Q) : o.wpIn (Fence.wide.inRound l) n P a w K Q := by
  refine ⟨fun _ _ => trivial, ?_⟩
  rw [Oper.semAt_plain _ _ _ hd]
  unfold Oper.wp at h
  generalize (execOp a.eval o).run P w = r at h ⊢
  cases r with
  | ok m w' =>
    cases m <;> simp only [Oper.upon, Oper.uponIn] at h ⊢
    case value u => exact h
    case skip => exact h
    case defer d => exact h
    case enter f args => exact ⟨fun q => by simp [Fence.wide] at q, callsIn_round h⟩
    case row row args =>
      refine ⟨fun q => by simp [Fence.wide] at q, fun c cs _ => ?_⟩
      obtain ⟨v, w2, r, s⟩ := h c cs
      exact ⟨v, w2, r, stepsIn_wide.2 s⟩
  | halt x w' =>
    cases x <;> simp only [Oper.upon, Oper.uponIn] at h ⊢
    case panic u => exact h
theorem wpOpIn_of (hd : noDefer ops = true) (hL : ¬ LetsOut Q) {i : Nat} {K K' : Act → World → Prop} (hK : ∀ a w, K a w → K' a w) {a : Act} {w : World} (h : wpOp P ops Q i K a w) : wpOpIn (Fence.wide.inRound l) n P ops Q i K' a w := by
  unfold wpOp at h
  unfold wpOpIn
  cases ho : ops[i]? with
  | none => simp only [ho] at h ⊢; exact hK _ _ h
  | some o =>
    simp only [ho] at h ⊢
    split
    · rename_i hw
      rw [if_pos hw] at h
      exact opIn_of (noDefer_at hd ho) (Oper.wp_mono hK (h.resolve_right fun h => hL h.2))
    · rename_i hw
      rw [if_neg hw] at h
      exact ⟨fun _ _ => trivial, hK _ _ h⟩
theorem wpAnyIn_of (hd : noDefer ops = true) (hL : ¬ LetsOut Q) : ∀ (fuel : Nat) (listed : Array Bool) (a : Act) (w : World), wpAny P md ops Q fuel listed a w → wpAnyIn (Fence.wide.inRound l) n P md ops Q fuel listed a w
  | 0, _, _, _, h => h
  | fuel + 1, _, _, _, h => ⟨h.1, fun i hi => wpOpIn_of hd hL (fun a w => wpAnyIn_of hd hL fuel _ a w) (h.2 i hi)⟩
theorem region_inRound {id : Nat} {a : Act} {w : World} (hm : P.follows .mixedOrders = true) (hd : noDefer ops = true) (hL : ¬ LetsOut Q) (h : wpAny P .any ops Q ops.size (Array.replicate ops.size false) a w.drew) : (Code.region id ops true).wpIn (Fence.wide.inRound l) n P Q a w :=
  wpIn_region_any hm (wpAnyIn_of hd hL _ _ _ _ h)
/-- Its first operations each by a fact of its own, the others, which wait for all of them, one behind the other. -/
theorem roundIn_region_abs {id l0 r : Nat} {Q : Exit → Act → World → Prop} {a : Act} {w : World} {l : List Oper} (n N : Nat) (Fs : List Say) (ts : List Tmp) (Ds : List (List Nat)) (hm : P.follows .mixedOrders = true) (hd : noDefer l.toArray = true) (hL : ¬ LetsOut Q) (hN : a.tmps.size = N) (hFs : Fs.length = n) (hDs : Ds.length = n)
    (hB : absB l.toArray n N ts Ds = true) (hQ : ∀ c a b w, Q (.panic c) a w → Q (.panic c) b w)
    (H : Heads P l.toArray Q Fs ts a w.drew (l.take n) Ds Fs)
    (R : ∀ w', Ext w.drew w' → Behind w.drew w' [] Fs ts Ds a (fun a' => wpList P l.toArray Q (l.drop n) a' w')) : (Code.region id l.toArray true).wpIn (Fence.wide.inRound l0) r P Q a w := by
  simp only [absB, Bool.and_eq_true, decide_eq_true_eq] at hB
  obtain ⟨⟨⟨⟨⟨hts, hn⟩, hs⟩, hc⟩, hh⟩, hseq⟩ := hB
  have hn' : n < l.length := by simpa using hn
  refine region_inRound hm hd hL ?_
  have inv0 : HeadInv .any l.toArray n (Array.replicate l.toArray.size false) :=
    ⟨by simp, fun j oj _ hl => (by rw [getD_replicate_false] at hl; cases hl), fun t _ ht => getD_in (by simpa using ht) (getD_replicate_false _ _)⟩
  have key := mid_all (g := (l.drop n).length) hN hQ hts hFs hn hs hc hh (fun i hi => by simp [hi]) H (fun listed a' w' hl hz hx ha hf => by
    have hl2 : listed = (Array.replicate n true) ++ Array.replicate (l.toArray.size - n) false := by
      apply Array.ext
      · rw [hz]; simp; omega
      · intro i h1 h2
        have h3 := hl i (by rw [← hz]; exact h1)
        rw [Array.getElem_append]
        by_cases hin : i < n
        · rw [decide_eq_true hin] at h3
          simp [hin]
          simpa [h1] using h3
        · rw [decide_eq_false hin] at h3
          simp [hin]
          simpa [h1] using h3
    rw [hl2]
    refine wpAny_of_seq (l.drop n) n _ a' w' (fun j => by simp) (by simpa using hseq) ?_
    obtain ⟨B, A, hf⟩ := hf
    have := Behind.at (m := 0) (G := fun j => Fs.getD j any) (V := fun j => a'.tmps.getD (ts.getD j 0) undef) (A := A) (B := B) (s := fun t => a'.tmps.getD t undef) (R w' hx) (by rw [hFs, hts]) (by rw [hDs, hts]) (fun i hi => by
      rw [hts] at hi
      obtain ⟨h1, h2, h3, h4⟩ := hf i hi
      rw [Nat.zero_add]
      refine ⟨rfl, rfl, h1, h2, fun j hj => ⟨?_, h3 j hj⟩, h4⟩
      obtain ⟨oi, hoi, _, _, _, hdi, _, _, hei⟩ := headB_at hh hi
      obtain ⟨oj, hoj, e', he', hb', hon⟩ := Region.waitsFor_spec (hdi j hj).2
      obtain rfl : oi = oj := Option.some.inj (hoi.symm.trans hoj)
      rw [← hon]; exact hei e' he' hb')
    rw [hts, ← ha] at this
    exact this) _ (Array.replicate l.toArray.size false) a w.drew rfl ⟨inv0, Below.refl _ _, rfl, rfl, fun _ _ => rfl, fun _ => w, fun _ => w, fun i _ hi => by rw [getD_replicate_false] at hi; cases hi⟩
  have e : ((List.range n).filter fun i => !(Array.replicate l.toArray.size false).getD i false).length = n := by
    rw [List.filter_eq_self.2 (fun i _ => by rw [getD_replicate_false]; rfl), List.length_range]
  rw [e, List.length_drop, show n + (l.length - n) = l.toArray.size by simp; omega] at key
  exact key
end
/-- A piece that ends as it should, in one frame. -/
theorem wpIn_normal {F : Fence} {n : Nat} {P : Program} {c : Code} {Q : Exit → Act → World → Prop} {a a1 : Act} {w : World} {R : World → Prop} (h : c.wpIn F n P (fun e a' w' => e = .normal ∧ a' = a1 ∧ R w') a w) (hq : ∀ w', R w' → Q .normal a1 w') : c.wpIn F n P Q a w :=
  wpIn_mono h fun _ _ _ ⟨h1, h2, h3⟩ => by subst h1 h2; exact hq _ h3
theorem not_out {a1 : Act} {R : World → Prop} : ¬ LetsOut fun e a' w' => e = Exit.normal ∧ a' = a1 ∧ R w' := fun ⟨_, _, h, _⟩ => by cases h
theorem not_panic {a1 : Act} {R : World → Prop} : ∀ (c : List PanicEntry) (a b : Act) (w : World), (fun e a' w' => e = Exit.normal ∧ a' = a1 ∧ R w') (.panic c) a w → (fun e a' w' => e = Exit.normal ∧ a' = a1 ∧ R w') (.panic c) b w := fun _ _ _ _ ⟨h, _⟩ => by cases h
/-- A piece that ends as it should, whatever its frame. -/
theorem wpIn_world {F : Fence} {n : Nat} {P : Program} {c : Code} {Q : Exit → Act → World → Prop} {a : Act} {w : World} {R : World → Prop} (h : c.wpIn F n P (fun e _ w' => e = .normal ∧ R w') a w) (hq : ∀ a' w', R w' → Q .normal a' w') : c.wpIn F n P Q a w :=
  wpIn_mono h fun _ _ _ ⟨h1, h3⟩ => by subst h1; exact hq _ _ h3
theorem not_out' {R : World → Prop} : ¬ LetsOut fun e (_ : Act) w' => e = Exit.normal ∧ R w' := fun ⟨_, _, h, _⟩ => by cases h
theorem not_panic' {R : World → Prop} : ∀ (c : List PanicEntry) (a b : Act) (w : World), (fun e (_ : Act) w' => e = Exit.normal ∧ R w') (.panic c) a w → (fun e (_ : Act) w' => e = Exit.normal ∧ R w') (.panic c) b w := fun _ _ _ _ ⟨h, _⟩ => by cases h
end Go.Proofs.Ytejpjbmbcdgomaa
