/- A set's answers by what its devices are; what is kept of the devices by each act. -/
import Derived.Test.YthmebgpleegonaaDGen
namespace Go.Proofs.Ythmebgpleegonaa
set_option maxRecDepth 100000
open Go.RowKit

def sureV (ds : List Dk) (d i : Int) : Sx := if hasB ds d i = true then (match ds[d.toNat]? with | some k => k.sure i | none => Sx.zero) else Sx.zero
def sizeV (ds : List Dk) (d : Int) : Nat := if hasB ds d 0 = true then (match ds[d.toNat]? with | some k => k.size | none => 0) else 0
def waitV (ds : List Dk) (d : Int) : Nat := if hasB ds d 0 = true then (match ds[d.toNat]? with | some k => k.waits.length | none => 0) else 0
section
variable {w : World} {F : Nat → Prop} {g : Nat} {p : Pw} {ds : List Dk} {K : Nat}
theorem st_read_gen (h : St w F g p ds K) (d i : Int) (hl : ds.length ≤ 1000) (hk : K ≤ 1000000000) :
    Calls Try.prog 21 #[.pointer (some ⟨g, 0, none⟩), .int .i64 d, .int .i64 i] w fun e w' => e = .returned (.tuple #[(readV p ds d i).1.val, eV (readV p ds d i).2]) ∧ Below w.heap.size w w' := by
  by_cases hg : p.gone = true
  · have e : readV p ds d i = (Sx.zero, 3) := by unfold readV; rw [if_pos hg]
    rw [e]
    obtain ⟨v, L, h1, h2, h3, h4⟩ := h
    have hLl : L.length = ds.length := by rw [← h2, List.length_map]
    have := read_err h1 d i (by omega) (.inl hg)
    rw [if_pos hg] at this
    exact this
  · by_cases hb : hasB ds d i = false
    · have e : readV p ds d i = (Sx.zero, 1) := by unfold readV; rw [if_neg hg, if_pos hb]
      rw [e]
      obtain ⟨v, L, h1, h2, h3, h4⟩ := h
      have hLl : L.length = ds.length := by rw [← h2, List.length_map]
      have := read_err h1 d i (by omega) (.inr (by rw [h2]; exact hb))
      rw [if_neg hg] at this
      exact this
    · obtain ⟨j, rfl, hj, hi1, hi2⟩ := hasB_true (show hasB ds d i = true by simpa using hb)
      have e : readV p ds (j : Int) i = (readM ds[j] i, 0) := by unfold readV; rw [if_neg hg, if_neg hb, Int.toNat_natCast, List.getElem?_eq_getElem hj]
      rw [e]
      exact st_read h j hj i hl hk ⟨hi1, hi2⟩ (by simpa using hg)
theorem st_sure_gen (h : St w F g p ds K) (d i : Int) (hl : ds.length ≤ 1000) :
    Calls Try.prog 22 #[.pointer (some ⟨g, 0, none⟩), .int .i64 d, .int .i64 i] w fun e w' => e = .returned (sureV ds d i).val ∧ Below w.heap.size w w' := by
  by_cases hb : hasB ds d i = true
  · obtain ⟨j, rfl, hj, hi1, hi2⟩ := hasB_true hb
    have e : sureV ds (j : Int) i = ds[j].sure i := by unfold sureV; rw [if_pos hb, Int.toNat_natCast, List.getElem?_eq_getElem hj]
    rw [e]
    exact st_sure h j hj i hl ⟨hi1, hi2⟩
  · have e : sureV ds d i = Sx.zero := by unfold sureV; rw [if_neg hb]
    rw [e]
    obtain ⟨v, L, h1, h2, h3, h4⟩ := h
    have hLl : L.length = ds.length := by rw [← h2, List.length_map]
    exact sure_none h1 d i (by omega) (by rw [h2]; simpa using hb)
theorem st_size_gen (h : St w F g p ds K) (d : Int) (hl : ds.length ≤ 1000) :
    Calls Try.prog 29 #[.pointer (some ⟨g, 0, none⟩), .int .i64 d] w fun e w' => e = .returned (.int .i64 (sizeV ds d : Int)) ∧ w = w' := by
  obtain ⟨v, L, h1, h2, h3, h4⟩ := h
  have hLl : L.length = ds.length := by rw [← h2, List.length_map]
  by_cases hb : hasB ds d 0 = true
  · obtain ⟨j, rfl, hj, hi1, hi2⟩ := hasB_true hb
    have hjL : j < L.length := by omega
    have hdk : L[j].dk = ds[j] := by subst h2; rw [List.getElem_map]
    have e : sizeV ds (j : Int) = L[j].dk.size := by unfold sizeV; rw [if_pos hb, Int.toNat_natCast, List.getElem?_eq_getElem hj, hdk]
    rw [e]
    exact size_any h1 j hjL (by omega) (by rw [hdk]; omega)
  · have e : sizeV ds d = 0 := by unfold sizeV; rw [if_neg hb]
    rw [e]
    exact size_none h1 d (by omega) (by rw [h2]; simpa using hb)
theorem st_waiting_gen (h : St w F g p ds K) (d : Int) (hl : ds.length ≤ 1000) :
    Calls Try.prog 23 #[.pointer (some ⟨g, 0, none⟩), .int .i64 d] w fun e w' => e = .returned (.int .i64 (waitV ds d : Int)) ∧ w = w' := by
  by_cases hb : hasB ds d 0 = true
  · obtain ⟨j, rfl, hj, hi1, hi2⟩ := hasB_true hb
    have e : waitV ds (j : Int) = ds[j].waits.length := by unfold waitV; rw [if_pos hb, Int.toNat_natCast, List.getElem?_eq_getElem hj]
    rw [e]
    exact st_waiting h j hj hl (by omega)
  · have e : waitV ds d = 0 := by unfold waitV; rw [if_neg hb]
    rw [e]
    obtain ⟨v, L, h1, h2, h3, h4⟩ := h
    have hLl : L.length = ds.length := by rw [← h2, List.length_map]
    exact waiting_none h1 d (by omega) (by rw [h2]; simpa using hb)
theorem st_arm_neg (h : St w F g p ds K) (n : Int) (hn : n < 0) : Calls Try.prog 25 #[.pointer (some ⟨g, 0, none⟩), .int .i64 n] w fun e w' => e = .returned (eV 1) ∧ w = w' := by
  obtain ⟨v, L, h1, h2, h3, h4⟩ := h
  exact arm_neg h1 n hn
end
/-- Devices as an act may find them: n: how many writes wait at most. -/
def OkN (n : Nat) (ds : List Dk) : Prop := ∀ d ∈ ds, d.waits.length ≤ n ∧ 1 ≤ d.size ∧ d.size ≤ 4096 ∧ ∀ y ∈ d.waits, 0 ≤ y.i ∧ y.i < (d.size : Int)
theorem OkN.mono {n m : Nat} {ds : List Dk} (h : OkN n ds) (hm : n ≤ m) : OkN m ds := fun d hd => ⟨Nat.le_trans (h d hd).1 hm, (h d hd).2⟩
theorem OkN.new {l : List Nat} (h : ∀ n ∈ l, 1 ≤ n ∧ n ≤ 4096) : OkN 0 (l.map Dk.new) := fun d hd => by
  obtain ⟨n, hn, rfl⟩ := List.mem_map.1 hd
  exact ⟨Nat.le_refl _, (h n hn).1, (h n hn).2, fun y hy => by cases hy⟩
theorem OkN.set {n : Nat} {ds : List Dk} (h : OkN n ds) (j : Nat) (f : Dk → Dk) (hf : ∀ hj : j < ds.length, (f ds[j]).waits.length ≤ n ∧ 1 ≤ (f ds[j]).size ∧ (f ds[j]).size ≤ 4096 ∧ ∀ y ∈ (f ds[j]).waits, 0 ≤ y.i ∧ y.i < ((f ds[j]).size : Int)) : OkN n (setAt ds j f) := by
  by_cases hj : j < ds.length
  · rw [setAt_some hj]
    intro d hd
    rcases List.mem_or_eq_of_mem_set hd with e | e
    · exact h d e
    · rw [e]; exact hf hj
  · have e : setAt ds j f = ds := by unfold setAt; rw [List.getElem?_eq_none (by omega)]
    rw [e]; exact h
theorem OkN.write {n : Nat} {p : Pw} {ds : List Dk} (h : OkN n ds) (d i : Int) (x : Sx) : OkN (n + 1) (writeM p ds d i x).2.2 := by
  unfold writeM
  by_cases hb : hasB ds d i = false
  · rw [if_pos hb]; exact h.mono (by omega)
  · rw [if_neg hb]
    split
    · exact h.mono (by omega)
    · obtain ⟨j, rfl, hj, hi1, hi2⟩ := hasB_true (show hasB ds d i = true by simpa using hb)
      refine (h.mono (Nat.le_succ n)).set _ _ fun hj' => ?_
      simp only [Int.toNat_natCast] at hj' ⊢
      have h1 := h _ (List.getElem_mem hj)
      refine ⟨?_, h1.2.1, h1.2.2.1, fun y hy => ?_⟩
      · show (ds[j].waits ++ [_]).length ≤ n + 1
        rw [List.length_append]
        have := h1.1
        simp
        omega
      · rcases List.mem_append.1 (show y ∈ ds[j].waits ++ [_] from hy) with e | e
        · exact h1.2.2.2 y e
        · rw [List.mem_singleton.1 e]; exact ⟨hi1, hi2⟩
theorem OkN.flush {n : Nat} {p : Pw} {ds : List Dk} (h : OkN n ds) (d : Int) : OkN n (flushM p ds d).2.2 := by
  unfold flushM
  split
  · exact h
  · split
    · exact h
    · exact h.set _ _ fun hj => ⟨Nat.zero_le _, (h _ (List.getElem_mem hj)).2.1, (h _ (List.getElem_mem hj)).2.2.1, fun y hy => by cases hy⟩
theorem OkN.crash {n : Nat} {ds : List Dk} (h : OkN n ds) (l : List Kp) : OkN n (crashM l ds) := fun d hd => by
  obtain ⟨i, hi, rfl⟩ := List.getElem_of_mem hd
  have hi2 : i < ds.length := by simpa [crashM] using hi
  rw [crashM_get l ds i hi2]
  exact ⟨Nat.zero_le _, (h _ (List.getElem_mem hi2)).2.1, (h _ (List.getElem_mem hi2)).2.2.1, fun y hy => by cases hy⟩
theorem stepP_le (p : Pw) : (stepP p).2.steps ≤ p.steps + 1 ∧ (stepP p).2.armed ≤ p.armed := by
  obtain ⟨st, ar, ia, gn⟩ := p
  unfold stepP
  cases gn <;> cases ia <;> simp
  by_cases h : ar = 0 <;> simp [h]
theorem writeM_le (p : Pw) (ds : List Dk) (d i : Int) (x : Sx) : (writeM p ds d i x).2.1.steps ≤ p.steps + 1 ∧ (writeM p ds d i x).2.1.armed ≤ p.armed ∧ (writeM p ds d i x).2.2.map Dk.size = ds.map Dk.size := by
  unfold writeM
  split
  · exact ⟨Nat.le_succ _, Nat.le_refl _, rfl⟩
  · split
    · exact ⟨(stepP_le p).1, (stepP_le p).2, rfl⟩
    · exact ⟨(stepP_le p).1, (stepP_le p).2, setAt_size _ _ _ fun _ => rfl⟩
theorem flushM_le (p : Pw) (ds : List Dk) (d : Int) : (flushM p ds d).2.1.steps ≤ p.steps + 1 ∧ (flushM p ds d).2.1.armed ≤ p.armed ∧ (flushM p ds d).2.2.map Dk.size = ds.map Dk.size := by
  unfold flushM
  split
  · exact ⟨Nat.le_succ _, Nat.le_refl _, rfl⟩
  · split
    · exact ⟨(stepP_le p).1, (stepP_le p).2, rfl⟩
    · exact ⟨(stepP_le p).1, (stepP_le p).2, setAt_size _ _ _ fun _ => rfl⟩
theorem crashM_size (l : List Kp) (ds : List Dk) : (crashM l ds).map Dk.size = ds.map Dk.size := by
  apply List.ext_getElem
  · simp [crashM]
  · intro i a b
    have hi : i < ds.length := by simpa using b
    rw [List.getElem_map, List.getElem_map, crashM_get l ds i hi]
    rfl
end Go.Proofs.Ythmebgpleegonaa
