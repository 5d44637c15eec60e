/- alive: the chapter's example; long. -/
import Derived.Test.YthmebgpleegonaaDSt
namespace Go.Proofs.Ythmebgpleegonaa
set_option maxRecDepth 100000
open Go.RowKit

theorem sz_two (w : World) (a b : Nat) : Sz (w.alloc (.cells #[.int .i64 (a : Int), .int .i64 (b : Int)] 3)) (some ⟨w.heap.size, 0, none⟩) [a, b] :=
  ⟨rfl, rfl, fun _ => ⟨_, _, rfl, fun j u hj => by
    rw [Nat.zero_add, cell_of_row _ _ j #[.int .i64 (a : Int), .int .i64 (b : Int)] _ (0, 0) (heap_alloc_new w _)]
    have e : rowV numV [a, b] = [.int .i64 (a : Int), .int .i64 (b : Int)] := rfl
    rw [e] at hj
    simpa using hj⟩⟩
theorem St.lt {w : World} {F : Nat → Prop} {g : Nat} {p : Pw} {ds : List Dk} {K : Nat} (h : St w F g p ds K) : ∀ k, F k → k < w.heap.size := by
  obtain ⟨v, L, h1, _⟩ := h
  exact h1.Flt
theorem kps_one (w : World) (a b c : Int) : Kps (w.alloc (.cells #[.int .i64 a, .int .i64 b, .int .i64 c] 68)) (some ⟨w.heap.size, 0, none⟩) [⟨a, b, c⟩] :=
  ⟨rfl, rfl, fun _ => ⟨_, _, rfl, fun j u hj => by
    rw [Nat.zero_add, cell_of_row _ _ j #[.int .i64 a, .int .i64 b, .int .i64 c] _ (0, 0) (heap_alloc_new w _)]
    have e : rowV Kp.vals [⟨a, b, c⟩] = [.int .i64 a, .int .i64 b, .int .i64 c] := rfl
    rw [e] at hj
    simpa using hj⟩⟩
theorem kps_keep {w w' : World} {A : Option Addr} {l : List Kp} {F F' : Nat → Prop} (h : Kps w A l) (hc : Chg w w' F F') (hA : ∀ b o, A = some ⟨b, o, none⟩ → b < w.heap.size ∧ ¬ F b) : Kps w' A l :=
  ⟨h.1, h.2.1, fun hp => by
    obtain ⟨b, off, e, hcell⟩ := h.2.2 hp
    obtain ⟨h1, h2⟩ := hA b off e
    exact ⟨b, off, e, fun j u hj => (hc.cell' (p := ⟨b, off + j, none⟩) h1 h2).trans (hcell j u hj)⟩⟩
theorem SBlk.byte {w : World} {b : Nat} {x : Sx} (h : SBlk w b x) (j : Nat) (u : Nat) (hj : x.l[j]? = some u) : w.cell? ⟨b, j, none⟩ = some (.int .u8 (u : Int)) := by
  have := h.at j (.int .u8 (u : Int)) (by
    show (valsB x.l)[j]? = _
    rw [valsB_get, hj]; rfl)
  rwa [Nat.zero_add] at this
set_option maxHeartbeats 4000000 in
theorem alive_true (w : World) : Calls Try.prog 8 #[] w fun e w' => e = .returned (.bool true) ∧ Below w.heap.size w w' := by
  have hba : Below w.heap.size w (w.alloc (.cells #[.int .i64 4, .int .i64 2] 3)) := (Below.refl _ _).alloc (Nat.le_refl _) _
  have HB1 := Lib.hid hba
  have HN := Lib.hid (st_new _ 2 [4, 2] _ (sz_two w 4 2) (by decide) (by decide))
  clear hba
  go_enter Try.func8, Try.ntmps8
  go_wp2_with fail
  refine Calls.mono HN.out ?_
  rintro e w1 ⟨F1, g, rfl, s1, c1⟩
  have S1 := Lib.hid s1
  have C1 := Lib.hid ((Chg.of_below HB1.out (fun _ => False)).trans c1)
  clear s1 c1 HN HB1
  go_wp2_with fail
  refine Calls.mono (full_any 1 (by decide) w1) ?_
  rintro e w2 ⟨rfl, b2⟩
  have C2 := Lib.hid (C1.out.trans (Chg.of_below b2 F1))
  have S2 := Lib.hid (S1.out.below b2)
  have HW := Lib.hid (st_write S2.out 0 0 (Sx.full 1 (by decide)) (by decide) (by decide) (by decide) (by decide))
  obtain ⟨x1, hx1⟩ : ∃ x, x = Sx.full 1 (by decide) := ⟨_, rfl⟩
  have HX1 := Lib.hid hx1
  rw [← hx1] at HW ⊢
  clear b2 S1 C1 S2 hx1
  go_wp2_with fail
  refine Calls.mono HW.out ?_
  rintro e w3 ⟨rfl, F3, s3, c3⟩
  have s3' : St w3 F3 g ⟨1, 0, false, false⟩ [⟨4, fun _ => Sx.zero, [⟨0, x1⟩]⟩, ⟨2, fun _ => Sx.zero, []⟩] 1 := s3
  rw [show (writeM pw0 (List.map Dk.new [4, 2]) 0 0 x1).1 = .nilIface from rfl]
  have C3 := Lib.hid (C2.out.trans c3)
  have HF := Lib.hid (st_flush s3' 0 (by simp) (by omega) (by simp) (by simp))
  clear s3 c3 s3' HW C2
  go_wp2_with fail
  refine Calls.mono HF.out ?_
  rintro e w4 ⟨rfl, s4, c4⟩
  have s4' : St w4 F3 g ⟨2, 0, false, false⟩ [⟨4, upd (fun _ => Sx.zero) 0 x1, []⟩, ⟨2, fun _ => Sx.zero, []⟩] 1 := s4
  rw [show (flushM ⟨1, 0, false, false⟩ [⟨4, fun _ => Sx.zero, [⟨0, x1⟩]⟩, ⟨2, fun _ => Sx.zero, []⟩] 0).1 = .nilIface from rfl]
  have C4 := Lib.hid (C3.out.trans c4)
  have S4 := Lib.hid s4'
  clear s4 c4 s4' HF C3
  go_wp2_with fail
  refine Calls.mono (full_any 2 (by decide) w4) ?_
  rintro e w5 ⟨rfl, b5⟩
  have C5 := Lib.hid (C4.out.trans (Chg.of_below b5 F3))
  have S5 := Lib.hid (S4.out.below b5)
  have HW := Lib.hid (st_write S5.out 0 0 (Sx.full 2 (by decide)) (by simp) (by omega) (by simp) (by simp))
  obtain ⟨x2, hx2⟩ : ∃ x, x = Sx.full 2 (by decide) := ⟨_, rfl⟩
  have HX2 := Lib.hid hx2
  rw [← hx2] at HW ⊢
  clear b5 S4 C4 S5 hx2
  go_wp2_with fail
  refine Calls.mono HW.out ?_
  rintro e w6 ⟨rfl, F6, s6, c6⟩
  have s6' : St w6 F6 g ⟨3, 0, false, false⟩ [⟨4, upd (fun _ => Sx.zero) 0 x1, [⟨0, x2⟩]⟩, ⟨2, fun _ => Sx.zero, []⟩] 2 := s6
  rw [show (writeM ⟨2, 0, false, false⟩ [⟨4, upd (fun _ => Sx.zero) 0 x1, []⟩, ⟨2, fun _ => Sx.zero, []⟩] 0 0 x2).1 = .nilIface from rfl]
  have C6 := Lib.hid (C5.out.trans c6)
  have S6 := Lib.hid s6'
  have HWT := Lib.hid (st_waiting s6' 0 (by simp) (by simp) (by simp))
  clear s6 c6 s6' HW C5
  go_wp2_with fail
  refine Calls.mono HWT.out ?_
  rintro e w7 ⟨rfl, rfl⟩
  have hbk : Below w6.heap.size w6 (w6.alloc (.cells #[.int .i64 0, .int .i64 0, .int .i64 3] 68)) := (Below.refl _ _).alloc (Nat.le_refl _) _
  have hlt := S6.out.lt
  have HCR := Lib.hid (st_crash (S6.out.below hbk) (by simp) (by omega) (some ⟨w6.heap.size, 0, none⟩) 1 [⟨0, 0, 3⟩] (by simp) (fun w' hc => kps_keep (kps_one w6 0 0 3) hc (fun b o e => by
    injection e with e
    injection e with e
    subst e
    exact ⟨by rw [World.size_alloc]; omega, fun e => by have := hlt _ e; omega⟩)))
  have C7 := Lib.hid (C6.out.trans (Chg.of_below hbk F6))
  clear hbk hlt HWT S6 C6
  go_wp2_with fail
  refine Calls.mono HCR.out ?_
  rintro e w8 ⟨rfl, s8, c8⟩
  obtain ⟨x3, hx3⟩ : ∃ x, x = mixS x1 x2 3 := ⟨_, rfl⟩
  have hrd : readM ((crashM [⟨0, 0, 3⟩] [⟨4, upd (fun _ => Sx.zero) 0 x1, [⟨0, x2⟩]⟩, ⟨2, fun _ => Sx.zero, []⟩])[0]'(by simp [crashM])) 0 = x3 := by rw [hx3]; rfl
  have C8 := Lib.hid (C7.out.trans c8)
  have S8 := Lib.hid s8
  have HRD := Lib.hid (st_read s8 0 (by simp [crashM]) 0 (by simp [crashM]) (by omega) ⟨by omega, by simp [crashM, crashDk]⟩ rfl)
  rw [hrd] at HRD
  have hb0 : x3.l[0]? = some 2 := by rw [hx3, HX1.out, HX2.out]; rfl
  have hb2 : x3.l[2]? = some 2 := by rw [hx3, HX1.out, HX2.out]; rfl
  have hb3 : x3.l[3]? = some 1 := by rw [hx3, HX1.out, HX2.out]; rfl
  have hb63 : x3.l[63]? = some 1 := by rw [hx3, HX1.out, HX2.out]; rfl
  have HBS := Lib.hid (And.intro hb0 (And.intro hb2 (And.intro hb3 hb63)))
  clear s8 c8 HCR C7 hrd hb0 hb2 hb3 hb63 hx3 HX1 HX2
  go_wp2_with fail
  refine Calls.mono HRD.out ?_
  rintro e w9 ⟨rfl, b9⟩
  have S9 := Lib.hid (S8.out.below b9)
  have C9 := Lib.hid (C8.out.trans (Chg.of_below b9 F6))
  clear b9 S8 C8 HRD
  have hst := SBlk.store (w := w9.alloc (.cells Sx.zero.arr 50)) (z := Sx.zero) (heap_alloc_new w9 _) x3
  rw [World.setRow_alloc_new, ← zero_arr] at hst
  go_upto_region 8 with (refine wpList_store_val rfl (.tmp 3) (.tmp 42) rfl rfl x3.val rfl hst ?_)
  have hbx : SBlk (w9.alloc (.cells x3.arr 50)) w9.heap.size x3 := heap_alloc_new w9 _
  obtain ⟨b0, b2, b3, b63⟩ := HBS.out
  have y0 := hbx.byte 0 _ b0
  have y2 := hbx.byte 2 _ b2
  have y3 := hbx.byte 3 _ b3
  have y63 := hbx.byte 63 _ b63
  have hbb : Below w9.heap.size w9 (w9.alloc (.cells x3.arr 50)) := (Below.refl _ _).alloc (Nat.le_refl _) _
  have HST := Lib.hid (st_steps (S9.out.below hbb))
  have HMN := Lib.hid (st_many (S9.out.below hbb) (by simp [crashM]))
  have HC := Lib.hid (C9.out.trans (Chg.of_below hbb F6))
  clear hst hbx b0 b2 b3 b63 hbb S9 C9 HBS
  go_wp2_with fail
  refine Calls.mono HST.out ?_
  rintro e wa ⟨rfl, rfl⟩
  go_wp2_with fail
  refine Calls.mono HMN.out ?_
  rintro e wb ⟨rfl, rfl⟩
  go_wp2_with fail
  go_ret
  exact ⟨rfl, HC.out.below (Nat.le_refl _) (fun _ h => h.elim)⟩
end Go.Proofs.Ythmebgpleegonaa
