/- SlabTorn answers true of whatever slabs and tear. -/
import Derived.Test.YtiemjgkpjmncfaaTorn
namespace Go.Proofs.Ytiemjgkpjmncfaa
set_option maxRecDepth 100000
open Go.RowKit

/-- A slab that is sealed. -/
def Good (st kd : Int) (n : Nat) : Prop := 1 ≤ st ∧ st ≤ 281474976710655 ∧ 1 ≤ kd ∧ kd ≤ 255 ∧ n ≤ 50
theorem seal_good (st kd : Int) (A : Option Addr) (n c : Nat) (ds : List Nat) (w : World) (h : Good st kd n) (hr : Rdv w A n 1 (valsB ds)) (hnil : A = none → c = 0) :
    Calls Try.prog 37 #[.agg #[.int .i64 st, .int .i64 kd, .slice A n c]] w fun e w' => e = .returned (.tuple #[.agg (secV (sealN st.toNat kd.toNat ds)), .nilIface]) ∧ Below w.heap.size w w' := by
  obtain ⟨h1, h2, h3, h4, h5⟩ := h
  obtain ⟨s, rfl⟩ := Int.eq_ofNat_of_zero_le (show 0 ≤ st by omega)
  obtain ⟨k, rfl⟩ := Int.eq_ofNat_of_zero_le (show 0 ≤ kd by omega)
  refine seal_ok s k A n c ds w (by omega) (by omega) (by omega) (by omega) h5 hr (fun he => ⟨hnil he, ?_⟩)
  rcases Nat.eq_zero_or_pos n with h0 | h0
  · exact h0
  · obtain ⟨b, off, e, _⟩ := hr.2 h0
    rw [he] at e; cases e
theorem seal_bad (st kd : Int) (A : Option Addr) (n c : Nat) (w : World) (h : ¬ Good st kd n) (hn : n ≤ 9223372036854775807) :
    ∃ k : Int, (k = 1 ∨ k = 2) ∧ Calls Try.prog 37 #[.agg #[.int .i64 st, .int .i64 kd, .slice A n c]] w fun e w' => e = .returned (.tuple #[.agg (secV (noughts 64)), .iface 71 (.int .i64 k)]) ∧ Below w.heap.size w w' := by
  by_cases h1 : st < 1 ∨ 281474976710655 < st ∨ kd < 1 ∨ 255 < kd
  · exact ⟨1, .inl rfl, seal_range st kd A n c w h1⟩
  · refine ⟨2, .inr rfl, seal_form st kd A n c w (by omega) (by omega) (by omega) (by omega) ?_ hn⟩
    unfold Good at h
    omega
theorem good_open {st kd : Int} {n : Nat} {ds : List Nat} (h : Good st kd n) (hd : ds.length = n) : openN (sealN st.toNat kd.toNat ds) = some (st.toNat, kd.toNat, ds) := by
  unfold Good at h
  exact openN_sealN _ _ _ (by omega) (by omega) (by omega) (by omega)
theorem good_len {st kd : Int} {n : Nat} {ds : List Nat} (h : Good st kd n) (hd : ds.length = n) : (sealN st.toNat kd.toNat ds).length = 64 := sealN_length _ _ _ (by rw [hd]; exact h.2.2.2.2)
theorem good_small {st kd : Int} {n : Nat} {ds : List Nat} (h : Good st kd n) (hd : ds.length = n) (hs : ∀ x ∈ ds, x < 256) : ∀ x ∈ sealN st.toNat kd.toNat ds, x < 256 := by
  unfold Good at h
  exact sealN_small _ _ _ (by omega) (by omega) hs
theorem noughts_small (k : Nat) : ∀ x ∈ noughts k, x < 256 := fun x hx => by rw [(List.mem_replicate.1 hx).2]; omega
theorem sealN_ends (st kd : Nat) (d : List Nat) (hd : d.length ≤ 50) : (sealN st kd d).take 6 = leN st 6 ∧ (sealN st kd d).drop 58 = leN st 6 := by
  constructor
  · unfold sealN
    rw [List.append_assoc, List.take_append_of_le_length (by rw [leN_length]; omega), List.take_of_length_le (by rw [leN_length]; omega)]
  · unfold sealN
    rw [List.drop_append_of_le_length (by simp [leN_length, noughts_length]; omega), List.drop_eq_nil_of_le (by simp [leN_length, noughts_length]; omega), List.nil_append]
/-- What is opened of the torn sector: nothing, or it is one of the two. -/
theorem torn_sealed {a k b l : Int} {n m : Nat} {ds es : List Nat} (hf : Good b l m) (hd : ds.length = n) (he : es.length = m) (hds : ∀ x ∈ ds, x < 256) (hes : ∀ x ∈ es, x < 256) (hne : a ≠ b) (t : Nat) (ht : t ≤ 64) (o : List Nat)
    (ho : (Good a k n ∧ o = sealN a.toNat k.toNat ds) ∨ o = noughts 64) : openN (tornN o (sealN b.toNat l.toNat es) t) = none ∨ tornN o (sealN b.toNat l.toNat es) t = o ∨ tornN o (sealN b.toNat l.toNat es) t = sealN b.toNat l.toNat es := by
  obtain ⟨q1, q2⟩ := sealN_ends b.toNat l.toNat es (by rw [he]; exact hf.2.2.2.2)
  cases h : openN (tornN o (sealN b.toNat l.toNat es) t) with
  | none => exact .inl rfl
  | some r =>
    right
    rcases ho with ⟨hg, rfl⟩ | rfl
    · obtain ⟨p1, p2⟩ := sealN_ends a.toNat k.toNat ds (by rw [hd]; exact hg.2.2.2.2)
      refine torn_open _ _ t (good_len hg hd) (good_len hf he) (good_small hg hd hds) (good_small hf he hes) (by rw [p1, p2]) (by rw [q1, q2]) ?_ ht r h
      rw [p1, q1]
      intro e
      have := leN_inj (k := 6) (show a.toNat < 256 ^ 6 by have := hg.1; have := hg.2.1; omega) (show b.toNat < 256 ^ 6 by have := hf.1; have := hf.2.1; omega) e
      have := hg.1
      have := hf.1
      omega
    · refine torn_open _ _ t noughts64 (good_len hf he) (noughts_small 64) (good_small hf he hes) (by rfl) (by rw [q1, q2]) ?_ ht r h
      rw [q1, show (noughts 64).take 6 = leN 0 6 from rfl]
      intro e
      have := leN_inj (k := 6) (show (0 : Nat) < 256 ^ 6 by decide) (show b.toNat < 256 ^ 6 by have := hf.1; have := hf.2.1; omega) e
      have := hf.1
      omega
end Go.Proofs.Ytiemjgkpjmncfaa
