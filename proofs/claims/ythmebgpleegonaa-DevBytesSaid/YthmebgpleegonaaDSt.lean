/- A set of devices, by what its devices are. -/
import Derived.Test.YthmebgpleegonaaDRead
namespace Go.Proofs.Ythmebgpleegonaa
set_option maxRecDepth 100000
open Go.RowKit

/-- A set in memory: its power, its devices; K: how many writes it has seen at most. -/
def St (w : World) (F : Nat → Prop) (g : Nat) (p : Pw) (ds : List Dk) (K : Nat) : Prop :=
  ∃ v L, SetM w F g p v L ∧ L.map DM.dk = ds ∧ (∀ d ∈ L, d.n + d.dk.waits.length ≤ K) ∧ ∀ d ∈ ds, (d.size ≤ 4096 ∧ ∀ y ∈ d.waits, WfI y.i)
theorem St.below {w w' : World} {F : Nat → Prop} {g : Nat} {p : Pw} {ds : List Dk} {K : Nat} (h : St w F g p ds K) (hb : Below w.heap.size w w') : St w' F g p ds K := by
  obtain ⟨v, L, h1, h2⟩ := h
  exact ⟨v, L, h1.below hb, h2⟩
theorem St.mono {w : World} {F : Nat → Prop} {g : Nat} {p : Pw} {ds : List Dk} {K K' : Nat} (h : St w F g p ds K) (hk : K ≤ K') : St w F g p ds K' := by
  obtain ⟨v, L, h1, h2, h3, h4⟩ := h
  exact ⟨v, L, h1, h2, fun d hd => Nat.le_trans (h3 d hd) hk, h4⟩
def Dk.more (d : Dk) (y : Wx) : Dk := ⟨d.size, d.sure, d.waits ++ [y]⟩
def Dk.flushed (d : Dk) : Dk := ⟨d.size, foldW d.sure d.waits, []⟩
def setAt (ds : List Dk) (j : Nat) (f : Dk → Dk) : List Dk := match ds[j]? with
  | none => ds
  | some d => ds.set j (f d)
/-- What a write comes to. -/
def writeM (p : Pw) (ds : List Dk) (d i : Int) (x : Sx) : Value × Pw × List Dk :=
  if hasB ds d i = false then (eRange, p, ds) else if (stepP p).1 = false then (eDown, (stepP p).2, ds) else (.nilIface, (stepP p).2, setAt ds d.toNat fun e => e.more ⟨i, x⟩)
def flushM (p : Pw) (ds : List Dk) (d : Int) : Value × Pw × List Dk :=
  if hasB ds d 0 = false then (eRange, p, ds) else if (stepP p).1 = false then (eDown, (stepP p).2, ds) else (.nilIface, (stepP p).2, setAt ds d.toNat Dk.flushed)
theorem hasB_true {ds : List Dk} {d i : Int} (h : hasB ds d i = true) : ∃ j : Nat, d = (j : Int) ∧ ∃ hj : j < ds.length, 0 ≤ i ∧ i < (ds[j].size : Int) := by
  unfold hasB at h
  simp only [Bool.and_eq_true, decide_eq_true_iff] at h
  obtain ⟨h1, h2, h3, h4⟩ := h
  have hj : d.toNat < ds.length := by omega
  refine ⟨d.toNat, by omega, hj, h3, ?_⟩
  rw [List.getElem?_eq_getElem hj] at h4
  exact h4
section
variable {w : World} {F : Nat → Prop} {g : Nat} {p : Pw} {ds : List Dk} {K : Nat}
theorem st_new (A : Option Addr) (c : Nat) (l : List Nat) (w : World) (h : Sz w A l) (hl : 1 ≤ l.length ∧ l.length ≤ 5) (hs : ∀ n ∈ l, 1 ≤ n ∧ n ≤ 4096) :
    Calls Try.prog 10 #[.slice A l.length c] w fun e w' => ∃ F g, e = .returned (.tuple #[.pointer (some ⟨g, 0, none⟩), .nilIface]) ∧ St w' F g pw0 (l.map Dk.new) 0 ∧ Chg w w' (fun _ => False) F := by
  refine Calls.mono (new_yes A c l w h hl hs) ?_
  rintro e w' ⟨F, g, v, L, rfl, h1, h2, h3, h4⟩
  refine ⟨F, g, rfl, ⟨v, L, h1, h2, fun d hd => ?_, fun d hd => ?_⟩, h4⟩
  · have h5 : d.dk ∈ l.map Dk.new := by rw [← h2]; exact List.mem_map_of_mem hd
    obtain ⟨n, _, e⟩ := List.mem_map.1 h5
    rw [h3 d hd, ← e]
    simp [Dk.new]
  · obtain ⟨n, hn, rfl⟩ := List.mem_map.1 hd
    exact ⟨(hs n hn).2, fun y hy => by cases hy⟩
theorem st_write (h : St w F g p ds K) (d i : Int) (x : Sx) (hl : ds.length ≤ 1000) (hk : K ≤ 1000000000) (hs : p.steps ≤ 1000000000) (ha : p.armed ≤ 9223372036854775807) :
    Calls Try.prog 16 #[.pointer (some ⟨g, 0, none⟩), .int .i64 d, .int .i64 i, x.val] w fun e w' => e = .returned (writeM p ds d i x).1 ∧ ∃ F', St w' F' g (writeM p ds d i x).2.1 (writeM p ds d i x).2.2 (K + 1) ∧ Chg w w' F F' := by
  obtain ⟨v, L, h1, h2, h3, h4⟩ := h
  have hLl : L.length = ds.length := by rw [← h2, List.length_map]
  unfold writeM
  by_cases hb : hasB ds d i = false
  · rw [if_pos hb]
    rw [← h2] at hb
    refine Calls.mono (write_range h1 d i x (by omega) hb) ?_
    rintro e w' ⟨rfl, hbw⟩
    exact ⟨rfl, F, St.mono (St.below ⟨v, L, h1, h2, h3, h4⟩ hbw) (by omega), Chg.of_below hbw F⟩
  · rw [if_neg hb]
    have hb' : hasB ds d i = true := by simpa using hb
    by_cases hp : (stepP p).1 = false
    · rw [if_pos hp]
      refine Calls.mono (write_down h1 d i x (by omega) (by rw [h2]; exact hb') hs ha hp) ?_
      rintro e w' ⟨rfl, h5, h6⟩
      exact ⟨rfl, F, ⟨v, L, h5, h2, fun d hd => Nat.le_succ_of_le (h3 d hd), h4⟩, h6⟩
    · rw [if_neg hp]
      have hp' : (stepP p).1 = true := by simpa using hp
      obtain ⟨j, rfl, hj, hi1, hi2⟩ := hasB_true hb'
      have hjL : j < L.length := by omega
      have hdk : L[j].dk = ds[j] := by subst h2; rw [List.getElem_map]
      have hm := h4 _ (List.getElem_mem hj)
      refine Calls.mono (write_yes h1 j hjL i x (by omega) (by rw [hdk]; exact ⟨hi1, hi2⟩) (by have := h3 _ (List.getElem_mem hjL); omega) hs ha hp') ?_
      rintro e w' ⟨rfl, F', vw, h5, h6⟩
      refine ⟨rfl, F', ⟨v, _, h5, ?_, fun d hd => ?_, ?_⟩, h6⟩
      · unfold setAt
        rw [Int.toNat_natCast, List.getElem?_eq_getElem hj, List.map_set, h2, ← hdk]
        rfl
      · rcases List.mem_or_eq_of_mem_set hd with e | e
        · have := h3 d e; omega
        · have := h3 _ (List.getElem_mem hjL)
          rw [e]
          simp only [List.length_append, List.length_singleton]
          omega
      · intro d hd
        unfold setAt at hd
        rw [Int.toNat_natCast, List.getElem?_eq_getElem hj] at hd
        rcases List.mem_or_eq_of_mem_set hd with e | e
        · exact h4 d e
        · rw [e]
          refine ⟨hm.1, fun y hy => ?_⟩
          rcases List.mem_append.1 hy with e2 | e2
          · exact hm.2 y e2
          · rw [List.mem_singleton.1 e2]
            exact wfI (i := i) ⟨by omega, by have := hm.1; omega⟩
theorem st_flush (h : St w F g p ds K) (d : Int) (hl : ds.length ≤ 1000) (hk : K ≤ 1000000000) (hs : p.steps ≤ 1000000000) (ha : p.armed ≤ 9223372036854775807) :
    Calls Try.prog 18 #[.pointer (some ⟨g, 0, none⟩), .int .i64 d] w fun e w' => e = .returned (flushM p ds d).1 ∧ St w' F g (flushM p ds d).2.1 (flushM p ds d).2.2 K ∧ Chg w w' F F := by
  obtain ⟨v, L, h1, h2, h3, h4⟩ := h
  have hLl : L.length = ds.length := by rw [← h2, List.length_map]
  unfold flushM
  by_cases hb : hasB ds d 0 = false
  · rw [if_pos hb]
    rw [← h2] at hb
    refine Calls.mono (flush_range h1 d (by omega) hb) ?_
    rintro e w' ⟨rfl, rfl⟩
    exact ⟨rfl, ⟨v, L, h1, h2, h3, h4⟩, Chg.refl _ _⟩
  · rw [if_neg hb]
    have hb' : hasB ds d 0 = true := by simpa using hb
    by_cases hp : (stepP p).1 = false
    · rw [if_pos hp]
      refine Calls.mono (flush_down h1 d (by omega) (by rw [h2]; exact hb') hs ha hp) ?_
      rintro e w' ⟨rfl, h5, h6⟩
      exact ⟨rfl, ⟨v, L, h5, h2, h3, h4⟩, h6⟩
    · rw [if_neg hp]
      have hp' : (stepP p).1 = true := by simpa using hp
      obtain ⟨j, rfl, hj, hi1, hi2⟩ := hasB_true hb'
      have hjL : j < L.length := by omega
      have hdk : L[j].dk = ds[j] := by subst h2; rw [List.getElem_map]
      have hm := h4 _ (List.getElem_mem hj)
      have h3j := h3 _ (List.getElem_mem hjL)
      refine Calls.mono (flush_yes h1 j hjL (by omega) (by rw [hdk]; omega) (by omega) (by rw [hdk]; exact hm.2) hs ha hp') ?_
      rintro e w' ⟨rfl, h5, h6⟩
      refine ⟨rfl, ⟨v, _, h5, ?_, fun d hd => ?_, ?_⟩, h6⟩
      · unfold setAt
        rw [Int.toNat_natCast, List.getElem?_eq_getElem hj, List.map_set, h2, ← hdk]
        rfl
      · rcases List.mem_or_eq_of_mem_set hd with e | e
        · exact h3 d e
        · rw [e]
          simp only [List.length_nil]
          omega
      · intro d hd
        unfold setAt at hd
        rw [Int.toNat_natCast, List.getElem?_eq_getElem hj] at hd
        rcases List.mem_or_eq_of_mem_set hd with e | e
        · exact h4 d e
        · rw [e]
          exact ⟨hm.1, fun y hy => by cases hy⟩
/-- What a crash makes of all devices. -/
def crashM (l : List Kp) (ds : List Dk) : List Dk := ds.mapIdx fun j d => crashDk l j d
theorem crashM_get (l : List Kp) (ds : List Dk) (i : Nat) (hi : i < ds.length) {h : i < (crashM l ds).length} : (crashM l ds)[i] = crashDk l i ds[i] := by simp [crashM]
theorem st_crash (h : St w F g p ds K) (hl : ds.length ≤ 1000) (hk : K ≤ 1000000000) (A : Option Addr) (c : Nat) (l : List Kp) (hll : l.length ≤ 1000000) (hkp : ∀ w', Chg w w' F F → Kps w' A l) :
    Calls Try.prog 19 #[.pointer (some ⟨g, 0, none⟩), .slice A l.length c] w fun e w' => e = .returned (.tuple #[]) ∧ St w' F g ⟨p.steps, 0, false, false⟩ (crashM l ds) K ∧ Chg w w' F F := by
  obtain ⟨v, L, h1, h2, h3, h4⟩ := h
  have hLl : L.length = ds.length := by rw [← h2, List.length_map]
  refine Calls.mono (crash_any h1 (by omega) (fun d hd => by have := h3 d hd; omega) (fun d hd => (h4 _ (by rw [← h2]; exact List.mem_map_of_mem hd)).2) A c l hll hkp) ?_
  rintro e w' ⟨rfl, L', ⟨h5, h6⟩, h7, h8⟩
  have hds : L'.map DM.dk = crashM l ds := by
    apply List.ext_getElem
    · rw [List.length_map, h5, hLl]; simp [crashM]
    · intro i a b
      have hi : i < L.length := by rw [List.length_map, h5] at a; exact a
      have hi' : i < L'.length := by rw [h5]; exact hi
      rw [List.getElem_map, ((h6 i hi hi').1 hi).1]
      rw [crashM_get l ds i (by omega)]
      congr 1
      subst h2
      rw [List.getElem_map]
  refine ⟨rfl, ⟨v, L', h7, hds, fun d hd => ?_, fun d hd => ?_⟩, h8⟩
  · obtain ⟨i, hi', rfl⟩ := List.getElem_of_mem hd
    have hi : i < L.length := by rw [← h5]; exact hi'
    obtain ⟨e1, e2⟩ := (h6 i hi hi').1 hi
    have := h3 _ (List.getElem_mem hi)
    have e3 : L'[i].dk.waits.length = 0 := by rw [e1]; rfl
    omega
  · unfold crashM at hd
    obtain ⟨i, hi, rfl⟩ := List.getElem_of_mem hd
    rw [List.getElem_mapIdx]
    have hi2 : i < ds.length := by simpa using hi
    exact ⟨(h4 _ (List.getElem_mem hi2)).1, fun y hy => by cases hy⟩
theorem st_read (h : St w F g p ds K) (j : Nat) (hj : j < ds.length) (i : Int) (hl : ds.length ≤ 1000) (hk : K ≤ 1000000000) (hi : 0 ≤ i ∧ i < (ds[j].size : Int)) (hg : p.gone = false) :
    Calls Try.prog 21 #[.pointer (some ⟨g, 0, none⟩), .int .i64 (j : Int), .int .i64 i] w fun e w' => e = .returned (.tuple #[(readM ds[j] i).val, .nilIface]) ∧ Below w.heap.size w w' := by
  obtain ⟨v, L, h1, h2, h3, h4⟩ := h
  have hLl : L.length = ds.length := by rw [← h2, List.length_map]
  have hjL : j < L.length := by omega
  have hdk : L[j].dk = ds[j] := by subst h2; rw [List.getElem_map]
  have h3j := h3 _ (List.getElem_mem hjL)
  have hm := (h4 _ (List.getElem_mem hj)).1
  have := read_any h1 (by omega) j hjL i (by rw [hdk]; exact hi) (wfI (by omega)) hg (by omega)
  rw [hdk] at this
  exact this
theorem st_sure (h : St w F g p ds K) (j : Nat) (hj : j < ds.length) (i : Int) (hl : ds.length ≤ 1000) (hi : 0 ≤ i ∧ i < (ds[j].size : Int)) :
    Calls Try.prog 22 #[.pointer (some ⟨g, 0, none⟩), .int .i64 (j : Int), .int .i64 i] w fun e w' => e = .returned (ds[j].sure i).val ∧ Below w.heap.size w w' := by
  obtain ⟨v, L, h1, h2, h3, h4⟩ := h
  have hLl : L.length = ds.length := by rw [← h2, List.length_map]
  have hjL : j < L.length := by omega
  have hdk : L[j].dk = ds[j] := by subst h2; rw [List.getElem_map]
  have hm := (h4 _ (List.getElem_mem hj)).1
  have := sure_any h1 j hjL i (by omega) (by rw [hdk]; exact hi) (wfI (by omega))
  rw [hdk] at this
  exact this
theorem st_waiting (h : St w F g p ds K) (j : Nat) (hj : j < ds.length) (hl : ds.length ≤ 1000) (hz : 0 < ds[j].size) :
    Calls Try.prog 23 #[.pointer (some ⟨g, 0, none⟩), .int .i64 (j : Int)] w fun e w' => e = .returned (.int .i64 (ds[j].waits.length : Int)) ∧ w = w' := by
  obtain ⟨v, L, h1, h2, h3, h4⟩ := h
  have hLl : L.length = ds.length := by rw [← h2, List.length_map]
  have hjL : j < L.length := by omega
  have hdk : L[j].dk = ds[j] := by subst h2; rw [List.getElem_map]
  have := waiting_any h1 j hjL (by omega) (by rw [hdk]; exact hz)
  rw [hdk] at this
  exact this
theorem st_steps (h : St w F g p ds K) : Calls Try.prog 26 #[.pointer (some ⟨g, 0, none⟩)] w fun e w' => e = .returned (.int .i64 (p.steps : Int)) ∧ w = w' := by
  obtain ⟨v, L, h1, _⟩ := h
  exact steps_any h1
theorem st_down (h : St w F g p ds K) : Calls Try.prog 24 #[.pointer (some ⟨g, 0, none⟩)] w fun e w' => e = .returned (.bool p.gone) ∧ w = w' := by
  obtain ⟨v, L, h1, _⟩ := h
  exact down_any h1
theorem st_many (h : St w F g p ds K) (hl : ds.length ≤ 1000) : Calls Try.prog 13 #[.pointer (some ⟨g, 0, none⟩)] w fun e w' => e = .returned (.int .i64 (ds.length : Int)) ∧ w = w' := by
  obtain ⟨v, L, h1, h2, _⟩ := h
  have hLl : L.length = ds.length := by rw [← h2, List.length_map]
  have := many_any h1 (by omega)
  rw [hLl] at this
  exact this
theorem st_arm (h : St w F g p ds K) (n : Nat) (hn : n ≤ 9223372036854775807) : Calls Try.prog 25 #[.pointer (some ⟨g, 0, none⟩), .int .i64 (n : Int)] w fun e w' => e = .returned .nilIface ∧ St w' F g { p with armed := n, ia := true } ds K ∧ Chg w w' F F := by
  obtain ⟨v, L, h1, h2⟩ := h
  refine Calls.mono (arm_any h1 n hn) ?_
  rintro e w' ⟨rfl, h5, h6⟩
  exact ⟨rfl, ⟨v, L, h5, h2⟩, h6⟩
end
end Go.Proofs.Ythmebgpleegonaa
