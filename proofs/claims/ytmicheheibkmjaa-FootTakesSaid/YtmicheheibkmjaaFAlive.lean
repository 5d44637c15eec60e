/- Layer 10's fixed fact. -/
import Derived.Test.YtmicheheibkmjaaFJoinW
import Derived.Test.YtmicheheibkmjaaFGood2
namespace Go.Proofs.Ytmicheheibkmjaa
set_option maxRecDepth 100000
open Go.RowKit Go.Shelf

theorem fields54 : (Try.prog.fieldsOf 54).toList = [{ name := "Table", type := 3, offset := 0, embedded := false, tag := "", pkgPath := "", byteOffset := 0 }, { name := "Lo", type := 3, offset := 1, embedded := false, tag := "", pkgPath := "", byteOffset := 8 }, { name := "Hi", type := 3, offset := 2, embedded := false, tag := "", pkgPath := "", byteOffset := 16 }] := by kernel_rfl
theorem run_span (d : Nat) (w : World) (x y : Sp) : (Op.equalIn (d + 2) 54 x.val y.val).run Try.prog w = .ok (decide (x = y)) w := by
  have e : decide (x = y) = (decide (x.t = y.t) && (decide (x.lo = y.lo) && (decide (x.hi = y.hi) && true))) := by
    rw [Bool.eq_iff_iff]
    simp only [decide_eq_true_iff, Bool.and_eq_true]
    cases x; cases y; simp
  rw [e]
  unfold Sp.val
  rw [run_equalIn_struct w (d + 1) 54 _ _ Try.underlying54 (by kernel_rfl), fields54]
  refine eq_step _ w _ _ _ _ _ _ _ rfl (by decide) (part_int w _ _ _ rfl) (part_int w _ _ _ rfl) ?_
  refine eq_step _ w _ _ _ _ _ _ _ rfl (by decide) (part_int w _ _ _ rfl) (part_int w _ _ _ rfl) ?_
  refine eq_step _ w _ _ _ _ _ _ _ rfl (by decide) (part_int w _ _ _ rfl) (part_int w _ _ _ rfl) ?_
  simp [Op.eqFields]
theorem eql_span (w : World) (x y : Sp) : (binOp .eql 54 x.val y.val).run Try.prog w = .ok (.bool (decide (x = y))) w := by
  have h := run_span 9998 w x y
  unfold Sp.val at h ⊢
  rw [run_eql_struct, show (10000 : Nat) = 9998 + 2 from rfl, h]
  rfl
def exF : Ft := ⟨[], [⟨1, 4, 5⟩, ⟨1, 1, 3⟩], []⟩
def exJ : Ft := ⟨[], [⟨1, 1, 5⟩], []⟩
theorem ex_join : joinF [exF] = exJ := by
  have e : addAll [] [(⟨1, 4, 5⟩ : Sp), ⟨1, 1, 3⟩] = [⟨1, 1, 5⟩] := by
    simp [addAll, add, near, far, tch, hull, putA]
  show (⟨[], addAll [] [(⟨1, 4, 5⟩ : Sp), ⟨1, 1, 3⟩], []⟩ : Ft) = exJ
  rw [e]
  rfl
theorem ex_good : goodB exJ = true := by
  have h1 : kgB [] = true := kg_true fun j hj => by simp at hj
  have h2 : sgB [(⟨1, 1, 5⟩ : Sp)] = true := sg_true fun j hj hj2 => by
    obtain rfl : j = 0 := by simp at hj; omega
    exact ⟨rfl, rfl, fun h => absurd h (by omega)⟩
  show (kgB [] && (kgB [] && sgB [(⟨1, 1, 5⟩ : Sp)])) = true
  rw [h1, h2]; rfl
theorem ex_in (w : World) : FtsG ((w.alloc (.cells #[.int .i64 1, .int .i64 4, .int .i64 5, .int .i64 1, .int .i64 1, .int .i64 3] 54)).alloc (.cells #[.slice none 0 0, .slice (some ⟨w.heap.size, 0, none⟩) 2 2, .slice none 0 0] 30)) (some ⟨w.heap.size + 1, 0, none⟩) 1 [exF] := by
  obtain ⟨h1, h2, h3⟩ := alloc2g w (.cells #[.int .i64 1, .int .i64 4, .int .i64 5, .int .i64 1, .int .i64 1, .int .i64 3] 54) (.cells #[.slice none 0 0, .slice (some ⟨w.heap.size, 0, none⟩) 2 2, .slice none 0 0] 30)
  refine ⟨rfl, fun _ => ⟨_, _, rfl, fun j hj => ?_⟩⟩
  obtain rfl : j = 0 := by omega
  have hk : ∀ W : World, Keys W none 0 [] := fun W => ⟨rfl, by simp [rowV], fun h => absurd h (by omega)⟩
  refine ⟨⟨none, 0, 0, some ⟨w.heap.size, 0, none⟩, 2, 2, none, 0, 0⟩, ⟨⟨hk _, ⟨rfl, rfl, fun _ => ⟨_, _, rfl, fun q u hq => ?_⟩⟩, hk _, ⟨Nat.zero_le _, by show 2 ≤ _; omega, Nat.zero_le _⟩⟩, fun _ => rfl, fun h => absurd h (by simp), fun _ => rfl, ?_⟩, ?_, ?_, ?_⟩
  · have hc := cell_of_row _ w.heap.size q _ 54 (0, 0) h1
    rw [Nat.zero_add, hc]
    rw [← hq]
    rcases q with _ | _ | _ | _ | _ | _ | q <;> rfl
  · intro s hs
    have hs' : s ∈ [(⟨1, 4, 5⟩ : Sp), ⟨1, 1, 3⟩] := hs
    simp at hs'
    rcases hs' with rfl | rfl <;> (unfold FitS; simp)
  · exact (cell_of_row _ _ 0 _ 30 (0, 0) h2).trans rfl
  · exact (cell_of_row _ _ 1 _ 30 (0, 0) h2).trans rfl
  · exact (cell_of_row _ _ 2 _ 30 (0, 0) h2).trans rfl
set_option maxHeartbeats 4000000 in
theorem alive_any (w : World) : Calls Try.prog 8 #[] w fun e w' => e = .returned (.bool true) ∧ Below w.heap.size w w' := by
  have HJ := Lib.hid (join_any _ 1 1 [exF] _ (ex_in w) (by omega) (fun f hf => by simp at hf; subst hf; simp [exF]))
  have HB0 := Lib.hid (alloc2g w (.cells #[.int .i64 1, .int .i64 4, .int .i64 5, .int .i64 1, .int .i64 1, .int .i64 3] 54) (.cells #[.slice none 0 0, .slice (some ⟨w.heap.size, 0, none⟩) 2 2, .slice none 0 0] 30)).2.2
  go_enter Try.func8, Try.ntmps8
  go_wp2_with fail
  refine Calls.mono HJ.out ?_
  rintro e w1 ⟨x, rfl, hx, hb1⟩
  rw [ex_join] at hx
  have HB1 := Lib.hid (HB0.out.trans (hb1.mono HB0.out.size))
  have hbx := (Below.refl w1.heap.size w1).alloc (Nat.le_refl _) (.cells x.cs 30)
  have HB2 := Lib.hid (HB1.out.trans (hbx.mono HB1.out.size))
  have HF := Lib.hid (show FBox (w1.alloc (.cells x.cs 30)) w1.heap.size x from heap_alloc_new w1 _)
  have HX := Lib.hid (hx.below hbx)
  have HG := Lib.hid (good_any x exJ _ (hx.below hbx).at_ hx.fit)
  rw [ex_good] at HG
  have hn2 := hx.at_.sp.len
  clear hb1 hx hbx
  have hs1 : x.n2 = 1 := hn2.symm
  have hsp := HX.out.at_.sp
  rw [hs1] at hsp
  obtain ⟨b, off, hA, hc⟩ := Spans.cells hsp (by omega)
  obtain ⟨c0, c1, c2⟩ := hc 0 (by show 0 < 1; omega)
  have e0 : (w1.alloc (.cells x.cs 30)).cell? ⟨b, off, none⟩ = some (.int .i64 1) := c0
  have e1 : (w1.alloc (.cells x.cs 30)).cell? ⟨b, off + 1, none⟩ = some (.int .i64 1) := c1
  have e2 : (w1.alloc (.cells x.cs 30)).cell? ⟨b, off + 2, none⟩ = some (.int .i64 5) := c2
  have y0 := HF.out.c0
  have y1 := HF.out.c1
  have y2 := HF.out.c2
  rw [hs1, hA] at y1
  have heq := fun W => eql_span W ⟨1, 1, 5⟩ ⟨1, 1, 5⟩
  rw [decide_eq_true rfl] at heq
  unfold Sp.val at heq
  have hval : x.val = .agg #[.slice x.A x.n x.c, .slice (some ⟨b, off, none⟩) 1 x.c2, .slice x.A3 x.n3 x.c3] := by unfold FV.val FV.cs; rw [hA, hs1]
  have hcs : x.cs = #[.slice x.A x.n x.c, .slice (some ⟨b, off, none⟩) 1 x.c2, .slice x.A3 x.n3 x.c3] := by unfold FV.cs; rw [hA, hs1]
  rw [hval] at HG ⊢
  rw [hcs] at HB2 HG e0 e1 e2 y0 y1 y2
  clear c0 c1 c2 hc hsp hn2 HX HF hval hcs hs1 hA
  go_wp2_with fail
  refine Calls.mono HG.out ?_
  rintro e w3 ⟨rfl, hb3⟩
  have HB3 := Lib.hid (HB2.out.trans (hb3.mono HB2.out.size))
  clear hb3 e0 e1 e2 y0 y1 y2
  go_wp2_with fail
  go_ret
  exact ⟨rfl, HB3.out⟩
end Go.Proofs.Ytmicheheibkmjaa
