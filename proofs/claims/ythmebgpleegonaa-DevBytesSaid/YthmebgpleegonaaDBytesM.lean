/- What each byte may be: of a device's history; behind a crash. -/
import Derived.Test.YthmebgpleegonaaDSt
namespace Go.Proofs.Ythmebgpleegonaa
set_option maxRecDepth 100000
open Go.RowKit

def Sx.hd (x : Sx) : Nat := x.l.getD 0 0
/-- A sector of one byte. -/
def Uni (x : Sx) : Prop := x.l = List.replicate 64 x.hd
theorem hd_full (b : Nat) (hb : b < 256) : (Sx.full b hb).hd = b := by simp [Sx.hd, Sx.full]
theorem uni_full (b : Nat) (hb : b < 256) : Uni (Sx.full b hb) := by unfold Uni; rw [hd_full]; rfl
theorem Sx.hd_lt (x : Sx) : x.hd < 256 := by
  unfold Sx.hd
  rw [List.getD_eq_getElem?_getD, List.getElem?_eq_getElem (by rw [x.len]; decide)]
  exact x.small _ (List.getElem_mem _)
theorem Uni.eq {x : Sx} (h : Uni x) : x = Sx.full x.hd x.hd_lt := Sx.same h
/-- The bytes that wait for a sector. -/
def wb (ws : List Wx) (i : Int) : List Nat := (ws.filter fun y => y.i == i).map fun y => y.x.hd
/-- What each byte of a device may be. -/
structure Hist (d : Dk) (R : Int → List Nat) : Prop where
  uni : ∀ y ∈ d.waits, Uni y.x
  sure : ∀ i, 0 ≤ i → i < 5 → Uni (d.sure i)
  row : ∀ i, 0 ≤ i → i < 5 → R i = (d.sure i).hd :: wb d.waits i
theorem wb_append (a : List Wx) (y : Wx) (i : Int) : wb (a ++ [y]) i = wb a i ++ (if y.i = i then [y.x.hd] else []) := by
  unfold wb
  rw [List.filter_append, List.map_append]
  congr 1
  by_cases h : y.i = i
  · rw [if_pos h]; simp [h]
  · rw [if_neg h]; simp [h]
theorem Hist.more {d : Dk} {R : Int → List Nat} (h : Hist d R) (n : Int) (b : Nat) (hb : b < 256) : Hist (d.more ⟨n, Sx.full b hb⟩) (fun i => if n = i then R i ++ [b] else R i) := by
  refine ⟨fun y hy => ?_, h.sure, fun i h0 h1 => ?_⟩
  · unfold Dk.more at hy
    rcases List.mem_append.1 hy with e | e
    · exact h.uni y e
    · rw [List.mem_singleton.1 e]; exact uni_full b hb
  · unfold Dk.more
    simp only [wb_append, hd_full]
    rw [h.row i h0 h1]
    by_cases e : n = i
    · rw [if_pos e, if_pos e]; rfl
    · rw [if_neg e, if_neg e, List.append_nil]
theorem last_cons (a b : Nat) (r : List Nat) : (a :: b :: r).drop ((a :: b :: r).length - 1) = (b :: r).drop ((b :: r).length - 1) := by simp
theorem fold_last (i : Int) : ∀ (l : List Wx) (f : Int → Sx), (∀ y ∈ l, Uni y.x) → Uni (f i) → Uni (foldW f l i) ∧ ((f i).hd :: wb l i).drop (((f i).hd :: wb l i).length - 1) = [(foldW f l i).hd]
  | [], f, _, hf => ⟨hf, by simp [wb, foldW]⟩
  | y :: l, f, hl, hf => by
    have e : foldW f (y :: l) = foldW (upd f y.i y.x) l := rfl
    rw [e]
    by_cases h : i = y.i
    · have hu : upd f y.i y.x i = y.x := by unfold upd; rw [if_pos h]
      have ih := fold_last i l (upd f y.i y.x) (fun z hz => hl z (List.mem_cons_of_mem _ hz)) (by rw [hu]; exact hl y (by simp))
      rw [hu] at ih
      refine ⟨ih.1, ?_⟩
      have e2 : wb (y :: l) i = y.x.hd :: wb l i := by unfold wb; rw [List.filter_cons_of_pos (by simp [h])]; rfl
      rw [e2, last_cons]
      exact ih.2
    · have hu : upd f y.i y.x i = f i := by unfold upd; rw [if_neg h]
      have ih := fold_last i l (upd f y.i y.x) (fun z hz => hl z (List.mem_cons_of_mem _ hz)) (by rw [hu]; exact hf)
      rw [hu] at ih
      have e2 : wb (y :: l) i = wb l i := by unfold wb; rw [List.filter_cons_of_neg (by simp; exact fun e => h e.symm)]
      rw [e2]
      exact ih
theorem Hist.flushed {d : Dk} {R : Int → List Nat} (h : Hist d R) : Hist d.flushed (fun i => (R i).drop ((R i).length - 1)) := by
  refine ⟨(fun y hy => by cases hy), fun i h0 h1 => (fold_last i d.waits d.sure h.uni (h.sure i h0 h1)).1, fun i h0 h1 => ?_⟩
  rw [h.row i h0 h1, (fold_last i d.waits d.sure h.uni (h.sure i h0 h1)).2]
  rfl
theorem mixS_whole (x y : Sx) : mixS x y 64 = y := Sx.same (by
  show y.l.take 64 ++ x.l.drop 64 = y.l
  rw [List.take_of_length_le (by rw [y.len]; omega), List.drop_of_length_le (by rw [x.len]; omega), List.append_nil])
theorem getD_mem {l : List Wx} {q : Nat} (hq : q < l.length) (d : Wx) : l.getD q d ∈ l := by
  rw [List.getD_eq_getElem?_getD, List.getElem?_eq_getElem hq]
  exact List.getElem_mem hq
theorem crash_bytes (kf : Nat → Nat) (f : Int → Sx) (l : List Wx) (hl : ∀ y ∈ l, Uni y.x) : ∀ (q : Nat), q ≤ l.length → ∀ (i : Int) (z : Nat), z ∈ (crashW kf f l q i).l → z ∈ (f i).l ∨ z ∈ wb l i
  | 0, _, i, z, h => .inl h
  | q + 1, hq, i, z, h => by
    unfold crashW at h
    split at h
    · exact crash_bytes kf f l hl q (by omega) i z h
    · have hm := getD_mem (l := l) (q := q) (by omega) ⟨0, Sx.zero⟩
      obtain ⟨y, hy⟩ : ∃ y, y = l.getD q ⟨0, Sx.zero⟩ := ⟨_, rfl⟩
      rw [← hy] at h hm
      unfold upd at h
      split at h
      · rename_i e
        subst e
        unfold mixS at h
        rcases List.mem_append.1 h with h | h
        · have h := List.mem_of_mem_take h
          right
          unfold wb
          rw [hl y hm] at h
          rw [(List.mem_replicate.1 h).2]
          exact List.mem_map.2 ⟨y, List.mem_filter.2 ⟨hm, by simp⟩, rfl⟩
        · exact crash_bytes kf f l hl q (by omega) _ z (List.mem_of_mem_drop h)
      · exact crash_bytes kf f l hl q (by omega) i z h
theorem crash_uni (kf : Nat → Nat) (hk : ∀ q, kf q = 0 ∨ kf q = 64) (f : Int → Sx) (l : List Wx) (hl : ∀ y ∈ l, Uni y.x) (i : Int) (hf : Uni (f i)) : ∀ (q : Nat), q ≤ l.length → Uni (crashW kf f l q i)
  | 0, _ => hf
  | q + 1, hq => by
    unfold crashW
    split
    · exact crash_uni kf hk f l hl i hf q (by omega)
    · rename_i h0
      have h64 := (hk q).resolve_left h0
      have hm := getD_mem (l := l) (q := q) (by omega) ⟨0, Sx.zero⟩
      rw [h64, mixS_whole]
      unfold upd
      split
      · exact hl _ hm
      · exact crash_uni kf hk f l hl i hf q (by omega)
/-- Is there a write of which some bytes are kept? -/
def tornK (k : Kp) : Bool := decide (0 < k.tear) && decide (k.tear < 64)
theorem keptM_whole (l : List Kp) (d n : Int) (h : l.any tornK = false) : keptM l d n = 0 ∨ keptM l d n = 64 := by
  unfold keptM
  cases hf : l.find? (isK d n) with
  | none => exact .inl rfl
  | some k =>
    right
    have hm := List.mem_of_find?_eq_some hf
    have := List.any_eq_false.1 h k hm
    unfold tornK at this
    simp at this
    show tornM k = 64
    unfold tornM
    rw [if_neg (by omega)]
theorem Hist.crash {d : Dk} {R : Int → List Nat} (h : Hist d R) (l : List Kp) (j : Nat) (i : Int) (h0 : 0 ≤ i) (h1 : i < 5) :
    (∀ z ∈ ((crashDk l j d).sure i).l, z ∈ R i) ∧ (l.any tornK = false → Uni ((crashDk l j d).sure i)) := by
  refine ⟨fun z hz => ?_, fun ht => ?_⟩
  · rw [h.row i h0 h1]
    rcases crash_bytes (kfOf l j) d.sure d.waits h.uni d.waits.length (Nat.le_refl _) i z hz with e | e
    · rw [h.sure i h0 h1] at e
      rw [(List.mem_replicate.1 e).2]
      exact List.mem_cons_self
    · exact List.mem_cons_of_mem _ e
  · refine crash_uni (kfOf l j) (fun q => ?_) d.sure d.waits h.uni i (h.sure i h0 h1) d.waits.length (Nat.le_refl _)
    have := keptM_whole l (j : Int) (q : Int) ht
    unfold kfOf
    omega
end Go.Proofs.Ythmebgpleegonaa
