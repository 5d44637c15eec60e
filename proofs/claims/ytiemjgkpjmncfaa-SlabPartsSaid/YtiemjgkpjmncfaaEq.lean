/- Sectors that are compared. -/
import Derived.Test.YtiemjgkpjmncfaaAlive
import Derived.DeepKeys
namespace Go.Proofs.Ytiemjgkpjmncfaa
set_option maxRecDepth 100000
open Go.RowKit

theorem mapM_some {α β : Type} (f : α → Option β) (g : α → β) : ∀ is : List α, (∀ i ∈ is, f i = some (g i)) → is.mapM f = some (is.map g)
  | [], _ => rfl
  | i :: is, h => by
    rw [List.mapM_cons, h i (List.mem_cons_self ..), mapM_some f g is (fun j hj => h j (List.mem_cons_of_mem _ hj))]
    rfl
theorem cells50 : Try.prog.cellsOf 50 = 64 := by kernel_rfl
theorem cells5' : Try.prog.cellsOf 5 = 1 := by kernel_rfl
theorem wf_u8 (x : Nat) (h : x < 256) : (Lit.int .u8 (x : Int)).wf = true := by
  have key : ∀ y : Fin 256, (Lit.int .u8 ((y.val : Nat) : Int)).wf = true := by decide +kernel
  exact key ⟨x, h⟩
def litsB (l : List Nat) : List Lit := l.map fun (x : Nat) => Lit.int .u8 (x : Int)
theorem keyLits_byte (x : Nat) (h : x < 256) : Try.prog.keyLits 1 5 [.int .u8 (x : Int)] = some [.int .u8 (x : Int)] := by
  unfold Program.keyLits
  rw [Try.underlying5]
  simp [wf_u8 x h]
theorem keyLits_sec (l : List Nat) (hl : l.length = 64) (hs : ∀ x ∈ l, x < 256) : Try.prog.keyLits 2 50 (valsB l) = some (litsB l) := by
  unfold Program.keyLits
  rw [Try.underlying50]
  dsimp only
  rw [if_pos (by rw [valsB_length, hl, cells50]), cells5']
  rw [mapM_some _ (fun i => [Lit.int .u8 ((l.getD i 0 : Nat) : Int)]) (List.range 64) (fun i hi => by
    have hi64 : i < 64 := List.mem_range.1 hi
    have e : ((valsB l).drop (i * 1)).take 1 = [.int .u8 ((l.getD i 0 : Nat) : Int)] := by
      rw [Nat.mul_one, List.drop_eq_getElem_cons (by rw [valsB_length]; omega)]
      simp [valsB, List.getD_eq_getElem?_getD, List.getElem?_eq_getElem (show i < l.length by omega)]
    rw [e]
    exact keyLits_byte _ (getD_small hs i))]
  have e2 : ((List.range 64).map fun i => [Lit.int .u8 ((l.getD i 0 : Nat) : Int)]).flatten = litsB l := by
    rw [← List.flatMap_def]
    have : ((List.range 64).flatMap fun i => [Lit.int .u8 ((l.getD i 0 : Nat) : Int)]) = (List.range 64).map fun i => Lit.int .u8 ((l.getD i 0 : Nat) : Int) := by
      induction List.range 64 with
      | nil => rfl
      | cons a t ih => rw [List.flatMap_cons, ih]; rfl
    rw [this]
    unfold litsB
    refine List.ext_getElem (by simp [hl]) fun i h1 h2 => ?_
    simp [List.getD_eq_getElem?_getD, List.getElem?_eq_getElem (show i < l.length by simpa using h2)]
  show some (List.flatten _) = _
  rw [e2]
theorem litsB_inj : ∀ {l m : List Nat}, litsB l = litsB m → l = m
  | [], [], _ => rfl
  | [], _ :: _, h => by simp [litsB] at h
  | _ :: _, [], h => by simp [litsB] at h
  | a :: l, b :: m, h => by
    simp only [litsB, List.map_cons, List.cons.injEq] at h
    obtain ⟨h1, h2⟩ := h
    injection h1 with _ h1
    rw [litsB_inj (l := l) (m := m) h2]
    congr 1
    omega
theorem run_equalIn_deep' (d : Nat) (w : World) (l m : List Nat) (hl : l.length = 64) (hm : m.length = 64) (hls : ∀ x ∈ l, x < 256) (hms : ∀ x ∈ m, x < 256) :
    (Op.equalIn (d + 2) 50 (.agg (secV l)) (.agg (secV m))).run Try.prog w = .ok (decide (l = m)) w := by
  obtain ⟨r, hr, hiff⟩ := run_equalIn_deep (P := Try.prog) d 2 50 (by kernel_rfl) w 2 2 (.agg (secV l)) (.agg (secV m)) (litsB l) (litsB m)
    (by unfold Value.formed; dsimp only; rw [Try.underlying50]; dsimp only; rw [cells50, secV_size, hl]; rfl) (by unfold Value.formed; dsimp only; rw [Try.underlying50]; dsimp only; rw [cells50, secV_size, hm]; rfl) (keyLits_sec l hl hls) (keyLits_sec m hm hms)
  rw [hr]
  congr 1
  rw [Bool.eq_iff_iff, hiff, decide_eq_true_iff]
  exact ⟨litsB_inj, fun h => by rw [h]⟩
theorem eql_sec (w : World) (l m : List Nat) (hl : l.length = 64) (hm : m.length = 64) (hls : ∀ x ∈ l, x < 256) (hms : ∀ x ∈ m, x < 256) :
    (binOp .eql 50 (.agg (secV l)) (.agg (secV m))).run Try.prog w = .ok (.bool (decide (l = m))) w := by
  rw [run_eql_struct]
  rw [show (10000 : Nat) = 9998 + 2 from rfl, run_equalIn_deep' 9998 w l m hl hm hls hms]
  rfl
theorem neq_sec (w : World) (l m : List Nat) (hl : l.length = 64) (hm : m.length = 64) (hls : ∀ x ∈ l, x < 256) (hms : ∀ x ∈ m, x < 256) :
    (binOp .neq 50 (.agg (secV l)) (.agg (secV m))).run Try.prog w = .ok (.bool (!decide (l = m))) w := by
  rw [run_neq_struct]
  rw [show (10000 : Nat) = 9998 + 2 from rfl, run_equalIn_deep' 9998 w l m hl hm hls hms]
  rfl
end Go.Proofs.Ytiemjgkpjmncfaa
