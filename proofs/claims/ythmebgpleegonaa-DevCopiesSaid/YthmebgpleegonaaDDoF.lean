/- An act by both: a flush. -/
import Derived.Test.YthmebgpleegonaaDDo
namespace Go.Proofs.Ythmebgpleegonaa
set_option maxRecDepth 100000
open Go.RowKit

set_option maxHeartbeats 16000000 in
theorem do_flush {w : World} {F X : Nat → Prop} {g : Nat} {p : Pw} {ds : List Dk} {K : Nat} {A : Option Addr} {c : Nat} {left : Int} (h : St w F g p ds K) (hr : RSet w X A c ds) (hk : LeftOk p left) (hx : ∀ k, X k → ¬ F k) (hok : OkN K ds) (hl : ds.length ≤ 1000) (hKb : K ≤ 1000000) (hps : p.steps ≤ K) (hpa : p.armed ≤ 9223372036854775807)
    (dv n : Int) (b : Nat) (hb : b < 256) (Ak : Option Addr) (mk ck : Nat) :
    Calls Try.prog 14 #[.pointer (some ⟨g, 0, none⟩), rsV A c ds p left, .agg #[.int .i64 2, .int .i64 dv, .int .i64 n, .int .u8 (b : Int), .slice Ak mk ck]] w (DoPost w F X g K (flushM p ds dv).2.1 (flushM p ds dv).2.2) := by
  have HM := Lib.hid (DMid.start h hr hk hx #[.int .i64 2, .int .i64 dv, .int .i64 n, .int .u8 (b : Int), .slice Ak mk ck])
  have HOK := Lib.hid hok
  obtain ⟨N, hN⟩ : ∃ N, N = ds.length := ⟨_, rfl⟩
  have HN := Lib.hid hN
  obtain ⟨z, hz⟩ : ∃ z, z = w.heap.size := ⟨_, rfl⟩
  have HZ := Lib.hid hz
  unfold rsV
  rw [← hN] at HM ⊢
  rw [← hz] at HM
  clear h hr hk hx hok hN
  go_enter Try.func14, Try.ntmps14
  go_upto_region 1 with fail
  rw [← hz]
  clear hz
  revert HM
  generalize World.alloc _ _ = wb
  intro HM
  have HMB : Hid (DMid w wb z g K F X p ds A c left #[.int .i64 2, .int .i64 dv, .int .i64 n, .int .u8 (b : Int), .slice Ak mk ck] F X) := HM
  clear HM
  have k0 := (cell_of_row _ _ 0 _ _ (0, 0) HMB.out.box.b1).trans rfl
  have k1 := (cell_of_row _ _ 1 _ _ (0, 0) HMB.out.box.b1).trans rfl
  have HWR := Lib.hid (st_flush HMB.out.st dv hl (by omega) (by omega) hpa)
  rw [flushM_err] at HWR
  obtain ⟨wm, hwm⟩ : ∃ u, u = flushM p ds dv := ⟨_, rfl⟩
  obtain ⟨wn, hwn⟩ : ∃ u, u = flushN p ds dv := ⟨_, rfl⟩
  have HWM := Lib.hid hwm
  have HWN := Lib.hid hwn
  rw [← hwm, ← hwn] at HWR
  have hlen : wm.2.2.length = N := by
    have := congrArg List.length (flushM_le p ds dv).2.2
    rw [← hwm, List.length_map, List.length_map] at this
    rw [this]; exact HN.out.symm
  have HLEN := Lib.hid hlen
  clear hlen hwm hwn
  go_wp2_with fail
  refine Calls.mono HWR.out ?_
  rintro e w3 ⟨rfl, s3, c3⟩
  have HF3 := Lib.hid HMB.out.fz
  have HX3 := Lib.hid HMB.out.xf
  have HR3 := Lib.hid (HMB.out.rs.chg c3 HMB.out.xf)
  have HBX3 := Lib.hid (HMB.out.box.chg c3 HMB.out.fz)
  have HC3 := Lib.hid (HMB.out.ch.trans c3)
  have HS3 := Lib.hid (s3.mono (Nat.le_succ K))
  have HL3 := Lib.hid (And.intro HMB.out.lf (And.intro HMB.out.x0 (And.intro HMB.out.xz HMB.out.hz)))
  have HPT := Lib.hid (refflush_any HR3.out p left dv HL3.out.1 hl (by omega) hpa (fun d hd => by have := HOK.out d hd; exact ⟨by omega, this.2⟩))
  unfold rsV at HPT
  rw [← HWM.out, ← HWN.out, ← HN.out, HLEN.out] at HPT
  have kz := HBX3.out.bz
  rw [← HN.out] at kz
  have q0 := (cell_of_row _ _ 0 _ _ (0, 0) kz).trans rfl
  have q1 := (cell_of_row _ _ 1 _ _ (0, 0) kz).trans rfl
  have q2 := (cell_of_row _ _ 2 _ _ (0, 0) kz).trans rfl
  have q3 := (cell_of_row _ _ 3 _ _ (0, 0) kz).trans rfl
  have q4 := (cell_of_row _ _ 4 _ _ (0, 0) kz).trans rfl
  have y1 := (cell_of_row _ _ 1 _ _ (0, 0) HBX3.out.b1).trans rfl
  clear s3 c3 HWR HMB kz k0 k1
  go_wp2_with fail
  refine Calls.mono HPT.out ?_
  rintro e w5 ⟨X5, A5, c5, l5, rfl, r5, x5, f5, b5⟩
  have hbx5 := HBX3.out.below b5
  have HX5 := Lib.hid (show ∀ k, X5 k → X k ∨ z + 3 ≤ k from fun k e => by
    rcases x5 k e with e2 | e2
    · exact .inl e2
    · right; have := HBX3.out.lt; omega)
  have HXZ := Lib.hid (show ∀ k, X5 k → k < z ∨ z + 3 ≤ k from fun k e => by
    rcases HX5.out k e with e2 | e2
    · exact HL3.out.2.2.1 k e2
    · exact .inr e2)
  have HXF := Lib.hid (show ∀ k, X5 k → ¬ F k from fun k e e2 => by
    rcases x5 k e with e3 | e3
    · exact HX3.out k e3 e2
    · have := HS3.out.lt k e2; omega)
  have HD := Lib.hid (DMid.store (X0 := X) (HS3.out.below b5) r5 f5 hbx5 HXF.out HX5.out (HC3.out.trans (Chg.of_below b5 F)) HF3.out HXZ.out HL3.out.2.2.2)
  rw [HLEN.out] at HD
  have k0 := hbx5.bz
  rw [← HN.out] at k0
  have k1 := hbx5.b1
  clear q0 q1 q2 q3 q4
  have q0 := (cell_of_row _ _ 0 _ _ (0, 0) k0).trans rfl
  have q1 := (cell_of_row _ _ 1 _ _ (0, 0) k0).trans rfl
  have q2 := (cell_of_row _ _ 2 _ _ (0, 0) k0).trans rfl
  have q3 := (cell_of_row _ _ 3 _ _ (0, 0) k0).trans rfl
  have q4 := (cell_of_row _ _ 4 _ _ (0, 0) k0).trans rfl
  have f0 := frozen_at k0 0
  have f1 := frozen_at k0 1
  have f2 := frozen_at k0 2
  have f3 := frozen_at k0 3
  have f4 := frozen_at k0 4
  have hz5 : z < w5.heap.size := by have := hbx5.lt; omega
  clear r5 x5 f5 b5 hbx5 k0 k1 HPT HS3 HR3 HBX3 HC3 HX5 HXZ HXF HX3 HF3 y1
  go_upto_region 22 with fail
  clear q0 q1 q2 q3 q4 f0 f1 f2 f3 f4 hz5
  revert HD
  generalize World.setCell (World.setCell _ _ _) _ _ = w6
  intro HD
  have hbx := HD.out.box
  have k0 := hbx.bz
  rw [HLEN.out] at k0
  have k2 := hbx.b2
  have q0 := (cell_of_row _ _ 0 _ _ (0, 0) k0).trans rfl
  have q1 := (cell_of_row _ _ 1 _ _ (0, 0) k0).trans rfl
  have q2 := (cell_of_row _ _ 2 _ _ (0, 0) k0).trans rfl
  have q3 := (cell_of_row _ _ 3 _ _ (0, 0) k0).trans rfl
  have q4 := (cell_of_row _ _ 4 _ _ (0, 0) k0).trans rfl
  have pp0 := (cell_of_row _ _ 0 _ _ (0, 0) k2).trans rfl
  have pp1 := (cell_of_row _ _ 1 _ _ (0, 0) k2).trans rfl
  have pp2 := (cell_of_row _ _ 2 _ _ (0, 0) k2).trans rfl
  have pp3 := (cell_of_row _ _ 3 _ _ (0, 0) k2).trans rfl
  have pp4 := (cell_of_row _ _ 4 _ _ (0, 0) k2).trans rfl
  have f0 := frozen_at k2 0
  have f1 := frozen_at k2 1
  have f2 := frozen_at k2 2
  have f3 := frozen_at k2 3
  have f4 := frozen_at k2 4
  have hz6 := hbx.lt
  have hq1 : ((wn : Int) == (wn : Int)) = true := by simp
  have hq2 : (wn == wn) = true := by simp
  clear hbx k0 k2
  refine wp_region_any (by kernel_rfl) ?_
  change wpAny _ _ _ _ _ _ _ w6.drew
  refine wpAny_take (i := 1) (v := eV wn) rfl (by kernel_rfl) (by kernel_rfl) (by kernel_rfl) (fun _ _ _ h => h) (Or.inl ⟨by rfl, fun w => by go_simp⟩) ?_
  try simp only [Act.put, List.setIfInBounds_toArray, List.set_cons_zero, List.set_cons_succ]
  refine wpAny_take (i := 3) (v := .int .i64 (wn : Int)) rfl (by kernel_rfl) (by kernel_rfl) (by kernel_rfl) (fun _ _ _ h => h) (Or.inl ⟨by rfl, fun w => by go_simp⟩) ?_
  try simp only [Act.put, List.setIfInBounds_toArray, List.set_cons_zero, List.set_cons_succ]
  refine wpAny_ready (rs := [0, 2]) (by kernel_rfl) (by simp) ?_
  refine arms_cons (o := { dst := some 100, op := Op.load 33 (Operand.tmp 4), type := 33, pos := "law.go:96", after := #[], guard := none }) rfl (fun K hK => ?_) (arms_cons (o := { dst := some 102, op := Op.call { callee := Callee.value (Operand.func 12), args := #[Operand.tmp 101], argTypes := #[28] }, type := 3, pos := "law.go:96", after := #[{ on := 1, ground := Ground.data }], guard := none }) rfl (fun K hK => ?_) AllReady.nil)
  · refine arm_of rfl ?_
    go_simp
    refine hK _ _ ?_
    clear hK K
    try simp only [Act.put, List.setIfInBounds_toArray, List.set_cons_zero, List.set_cons_succ]
    refine wpAny_ready (rs := [2]) (by kernel_rfl) (by simp) ?_
    refine arms_cons (o := { dst := some 102, op := Op.call { callee := Callee.value (Operand.func 12), args := #[Operand.tmp 101], argTypes := #[28] }, type := 3, pos := "law.go:96", after := #[{ on := 1, ground := Ground.data }], guard := none }) rfl (fun K hK => ?_) AllReady.nil
    refine arm_of rfl ?_
    go_simp
    refine Calls.mono (num_ev wn _) ?_
    rintro e W9 ⟨rfl, rfl⟩
    refine hK _ _ ?_
    clear hK K
    try simp only [Act.put, List.setIfInBounds_toArray, List.set_cons_zero, List.set_cons_succ]
    refine wpAny_take (i := 4) (v := .bool true) rfl (by kernel_rfl) (by kernel_rfl) (by kernel_rfl) (fun _ _ _ h => h) (Or.inl ⟨by rfl, fun w => by go_simp⟩) ?_
    try simp only [Act.put, List.setIfInBounds_toArray, List.set_cons_zero, List.set_cons_succ]
    refine wpAny_take (i := 5) (v := .bool true) rfl (by kernel_rfl) (by kernel_rfl) (by kernel_rfl) (fun _ _ _ h => h) (Or.inl ⟨by rfl, fun w => by go_simp⟩) ?_
    try simp only [Act.put, List.setIfInBounds_toArray, List.set_cons_zero, List.set_cons_succ]
    refine wpAny_take (i := 6) (v := .bool true) rfl (by kernel_rfl) (by kernel_rfl) (by kernel_rfl) (fun _ _ _ h => h) (Or.inl ⟨by rfl, fun w => by go_simp⟩) ?_
    try simp only [Act.put, List.setIfInBounds_toArray, List.set_cons_zero, List.set_cons_succ]
    refine wpAny_take (i := 7) (v := .bool true) rfl (by kernel_rfl) (by kernel_rfl) (by kernel_rfl) (fun _ _ _ h => h) (Or.inl ⟨by rfl, fun w => by go_simp⟩) ?_
    try simp only [Act.put, List.setIfInBounds_toArray, List.set_cons_zero, List.set_cons_succ]
    refine wpAny_of_list (k := 8) (l := [{ dst := none, op := Op.store 33 (Operand.tmp 6) (Operand.tmp 100), type := 0, pos := "law.go:96", after := #[{ on := 0, ground := Ground.data }, { on := 5, ground := Ground.chain }, { on := 0, ground := Ground.phase }, { on := 1, ground := Ground.textOnly Departure.lateStores }, { on := 2, ground := Ground.textOnly Departure.lateStoresUnsure }, { on := 3, ground := Ground.textOnly Departure.lateStores }, { on := 4, ground := Ground.textOnly Departure.lateStores }, { on := 5, ground := Ground.textOnly Departure.lateStores }, { on := 6, ground := Ground.textOnly Departure.lateStores }, { on := 7, ground := Ground.textOnly Departure.lateStores }], guard := none }, { dst := some 7, op := Op.assign (Operand.tmp 107), type := 4, pos := "law.go:96", after := #[{ on := 7, ground := Ground.data }, { on := 8, ground := Ground.chain }, { on := 0, ground := Ground.phase }, { on := 1, ground := Ground.phase }, { on := 2, ground := Ground.phase }, { on := 3, ground := Ground.phase }, { on := 4, ground := Ground.phase }, { on := 5, ground := Ground.phase }, { on := 6, ground := Ground.phase }, { on := 7, ground := Ground.phase }, { on := 8, ground := Ground.phase }], guard := none }]) rfl rfl (by kernel_rfl) ?_
    go_wp2_with fail
    have HT := Lib.hid (HD.out.fin N HLEN.out _ rfl)
    revert HT
    generalize World.drew _ = w9
    intro HT
    obtain ⟨u, st9, rs9, ch9⟩ := HT.out
    have g0 := (cell_of_row _ _ 0 _ _ (0, 0) u).trans rfl
    have g1 := (cell_of_row _ _ 1 _ _ (0, 0) u).trans rfl
    have g2 := (cell_of_row _ _ 2 _ _ (0, 0) u).trans rfl
    have g3 := (cell_of_row _ _ 3 _ _ (0, 0) u).trans rfl
    have g4 := (cell_of_row _ _ 4 _ _ (0, 0) u).trans rfl
    refine bodyPost_ret (v := .tuple #[.agg #[.slice A5 N c5, .int .i64 (wm.2.1.steps : Int), .int .i64 l5, .bool wm.2.1.ia, .bool wm.2.1.gone], .bool true]) (by simp [results, Try.results14, go_sem, g0, g1, g2, g3, g4]) rfl ?_
    rw [← HWM.out]
    refine ⟨F, X5, A5, c5, l5, ?_, st9, rs9, HD.out.lf, HD.out.xf, fun k e => ?_, ch9⟩
    · unfold rsV
      rw [HLEN.out]
    · rcases HD.out.x0 k e with e2 | e2
      · exact .inl e2
      · right; have := HZ.out; omega
  · refine arm_of rfl ?_
    go_simp
    refine Calls.mono (num_ev wn _) ?_
    rintro e W9 ⟨rfl, rfl⟩
    refine hK _ _ ?_
    clear hK K
    try simp only [Act.put, List.setIfInBounds_toArray, List.set_cons_zero, List.set_cons_succ]
    refine wpAny_take (i := 4) (v := .bool true) rfl (by kernel_rfl) (by kernel_rfl) (by kernel_rfl) (fun _ _ _ h => h) (Or.inl ⟨by rfl, fun w => by go_simp⟩) ?_
    try simp only [Act.put, List.setIfInBounds_toArray, List.set_cons_zero, List.set_cons_succ]
    refine wpAny_take (i := 5) (v := .bool true) rfl (by kernel_rfl) (by kernel_rfl) (by kernel_rfl) (fun _ _ _ h => h) (Or.inl ⟨by rfl, fun w => by go_simp⟩) ?_
    try simp only [Act.put, List.setIfInBounds_toArray, List.set_cons_zero, List.set_cons_succ]
    refine wpAny_take (i := 6) (v := .bool true) rfl (by kernel_rfl) (by kernel_rfl) (by kernel_rfl) (fun _ _ _ h => h) (Or.inl ⟨by rfl, fun w => by go_simp⟩) ?_
    try simp only [Act.put, List.setIfInBounds_toArray, List.set_cons_zero, List.set_cons_succ]
    refine wpAny_take (i := 7) (v := .bool true) rfl (by kernel_rfl) (by kernel_rfl) (by kernel_rfl) (fun _ _ _ h => h) (Or.inl ⟨by rfl, fun w => by go_simp⟩) ?_
    try simp only [Act.put, List.setIfInBounds_toArray, List.set_cons_zero, List.set_cons_succ]
    refine wpAny_ready (rs := [0]) (by kernel_rfl) (by simp) ?_
    refine arms_cons (o := { dst := some 100, op := Op.load 33 (Operand.tmp 4), type := 33, pos := "law.go:96", after := #[], guard := none }) rfl (fun K hK => ?_) AllReady.nil
    refine arm_of rfl ?_
    go_simp
    refine hK _ _ ?_
    clear hK K
    try simp only [Act.put, List.setIfInBounds_toArray, List.set_cons_zero, List.set_cons_succ]
    refine wpAny_of_list (k := 8) (l := [{ dst := none, op := Op.store 33 (Operand.tmp 6) (Operand.tmp 100), type := 0, pos := "law.go:96", after := #[{ on := 0, ground := Ground.data }, { on := 5, ground := Ground.chain }, { on := 0, ground := Ground.phase }, { on := 1, ground := Ground.textOnly Departure.lateStores }, { on := 2, ground := Ground.textOnly Departure.lateStoresUnsure }, { on := 3, ground := Ground.textOnly Departure.lateStores }, { on := 4, ground := Ground.textOnly Departure.lateStores }, { on := 5, ground := Ground.textOnly Departure.lateStores }, { on := 6, ground := Ground.textOnly Departure.lateStores }, { on := 7, ground := Ground.textOnly Departure.lateStores }], guard := none }, { dst := some 7, op := Op.assign (Operand.tmp 107), type := 4, pos := "law.go:96", after := #[{ on := 7, ground := Ground.data }, { on := 8, ground := Ground.chain }, { on := 0, ground := Ground.phase }, { on := 1, ground := Ground.phase }, { on := 2, ground := Ground.phase }, { on := 3, ground := Ground.phase }, { on := 4, ground := Ground.phase }, { on := 5, ground := Ground.phase }, { on := 6, ground := Ground.phase }, { on := 7, ground := Ground.phase }, { on := 8, ground := Ground.phase }], guard := none }]) rfl rfl (by kernel_rfl) ?_
    go_wp2_with fail
    have HT := Lib.hid (HD.out.fin N HLEN.out _ rfl)
    revert HT
    generalize World.drew _ = w9
    intro HT
    obtain ⟨u, st9, rs9, ch9⟩ := HT.out
    have g0 := (cell_of_row _ _ 0 _ _ (0, 0) u).trans rfl
    have g1 := (cell_of_row _ _ 1 _ _ (0, 0) u).trans rfl
    have g2 := (cell_of_row _ _ 2 _ _ (0, 0) u).trans rfl
    have g3 := (cell_of_row _ _ 3 _ _ (0, 0) u).trans rfl
    have g4 := (cell_of_row _ _ 4 _ _ (0, 0) u).trans rfl
    refine bodyPost_ret (v := .tuple #[.agg #[.slice A5 N c5, .int .i64 (wm.2.1.steps : Int), .int .i64 l5, .bool wm.2.1.ia, .bool wm.2.1.gone], .bool true]) (by simp [results, Try.results14, go_sem, g0, g1, g2, g3, g4]) rfl ?_
    rw [← HWM.out]
    refine ⟨F, X5, A5, c5, l5, ?_, st9, rs9, HD.out.lf, HD.out.xf, fun k e => ?_, ch9⟩
    · unfold rsV
      rw [HLEN.out]
    · rcases HD.out.x0 k e with e2 | e2
      · exact .inl e2
      · right; have := HZ.out; omega
end Go.Proofs.Ythmebgpleegonaa
