/- An act by both: it is armed. -/
import Derived.Test.YthmebgpleegonaaDDoR
namespace Go.Proofs.Ythmebgpleegonaa
set_option maxRecDepth 100000
open Go.RowKit

set_option maxHeartbeats 16000000 in
theorem do_arm_no {w : World} {F X : Nat → Prop} {g : Nat} {p : Pw} {ds : List Dk} {K : Nat} {A : Option Addr} {c : Nat} {left : Int} (h : St w F g p ds K) (hr : RSet w X A c ds) (hk : LeftOk p left) (hx : ∀ k, X k → ¬ F k) (hok : OkN K ds) (hl : ds.length ≤ 1000) (hKb : K ≤ 1000000) (hps : p.steps ≤ K) (hpa : p.armed ≤ 9223372036854775807)
    (dv n : Int) (b : Nat) (hb : b < 256) (Ak : Option Addr) (mk ck : Nat) (hn : n < 0) :
    Calls Try.prog 14 #[.pointer (some ⟨g, 0, none⟩), rsV A c ds p left, .agg #[.int .i64 4, .int .i64 dv, .int .i64 n, .int .u8 (b : Int), .slice Ak mk ck]] w (DoPost w F X g K p ds) := by
  have HM := Lib.hid (DMid.start h hr hk hx #[.int .i64 4, .int .i64 dv, .int .i64 n, .int .u8 (b : Int), .slice Ak mk ck])
  have HOK := Lib.hid hok
  obtain ⟨N, hN⟩ : ∃ N, N = ds.length := ⟨_, rfl⟩
  have HN := Lib.hid hN
  obtain ⟨z, hz⟩ : ∃ z, z = w.heap.size := ⟨_, rfl⟩
  have HZ := Lib.hid hz
  unfold rsV
  rw [← hN] at HM ⊢
  rw [← hz] at HM
  clear h hr hk hx hok hN
  go_enter Try.func14, Try.ntmps14
  go_upto_region 1 with fail
  rw [← hz]
  clear hz
  revert HM
  generalize World.alloc _ _ = wb
  intro HM
  have HMB : Hid (DMid w wb z g K F X p ds A c left #[.int .i64 4, .int .i64 dv, .int .i64 n, .int .u8 (b : Int), .slice Ak mk ck] F X) := HM
  clear HM
  have k0 := (cell_of_row _ _ 0 _ _ (0, 0) HMB.out.box.b1).trans rfl
  have k2 := (cell_of_row _ _ 2 _ _ (0, 0) HMB.out.box.b1).trans rfl
  have d0 : decide (n < 0) = true := decide_eq_true hn
  have HAR := Lib.hid (st_arm_neg HMB.out.st n hn)
  clear hn
  go_wp2_with fail
  refine Calls.mono HAR.out ?_
  rintro e w3 ⟨rfl, rfl⟩
  go_upto_region 22 with fail
  clear k0 k2 HAR d0
  have HD := Lib.hid (HMB.out.mono (Nat.le_succ K))
  clear HMB
  revert HD
  generalize wb = w6
  intro HD
  have HLEN := Lib.hid HN.out.symm
  have hbx := HD.out.box
  have k0 := hbx.bz
  rw [HLEN.out] at k0
  have k2 := hbx.b2
  have q0 := (cell_of_row _ _ 0 _ _ (0, 0) k0).trans rfl
  have q1 := (cell_of_row _ _ 1 _ _ (0, 0) k0).trans rfl
  have q2 := (cell_of_row _ _ 2 _ _ (0, 0) k0).trans rfl
  have q3 := (cell_of_row _ _ 3 _ _ (0, 0) k0).trans rfl
  have q4 := (cell_of_row _ _ 4 _ _ (0, 0) k0).trans rfl
  have pp0 := (cell_of_row _ _ 0 _ _ (0, 0) k2).trans rfl
  have pp1 := (cell_of_row _ _ 1 _ _ (0, 0) k2).trans rfl
  have pp2 := (cell_of_row _ _ 2 _ _ (0, 0) k2).trans rfl
  have pp3 := (cell_of_row _ _ 3 _ _ (0, 0) k2).trans rfl
  have pp4 := (cell_of_row _ _ 4 _ _ (0, 0) k2).trans rfl
  have f0 := frozen_at k2 0
  have f1 := frozen_at k2 1
  have f2 := frozen_at k2 2
  have f3 := frozen_at k2 3
  have f4 := frozen_at k2 4
  have hz6 := hbx.lt
  have hq1 : ((1 : Int) == (1 : Int)) = true := by simp
  have hq2 : (1 == 1) = true := by simp
  clear hbx k0 k2
  refine wp_region_any (by kernel_rfl) ?_
  change wpAny _ _ _ _ _ _ _ w6.drew
  refine wpAny_take (i := 1) (v := eV 1) rfl (by kernel_rfl) (by kernel_rfl) (by kernel_rfl) (fun _ _ _ h => h) (Or.inl ⟨by rfl, fun w => by go_simp⟩) ?_
  try simp only [Act.put, List.setIfInBounds_toArray, List.set_cons_zero, List.set_cons_succ]
  refine wpAny_take (i := 3) (v := .int .i64 (1 : Int)) rfl (by kernel_rfl) (by kernel_rfl) (by kernel_rfl) (fun _ _ _ h => h) (Or.inl ⟨by rfl, fun w => by go_simp⟩) ?_
  try simp only [Act.put, List.setIfInBounds_toArray, List.set_cons_zero, List.set_cons_succ]
  refine wpAny_ready (rs := [0, 2]) (by kernel_rfl) (by simp) ?_
  refine arms_cons (o := { dst := some 100, op := Op.load 33 (Operand.tmp 4), type := 33, pos := "law.go:96", after := #[], guard := none }) rfl (fun K hK => ?_) (arms_cons (o := { dst := some 102, op := Op.call { callee := Callee.value (Operand.func 12), args := #[Operand.tmp 101], argTypes := #[28] }, type := 3, pos := "law.go:96", after := #[{ on := 1, ground := Ground.data }], guard := none }) rfl (fun K hK => ?_) AllReady.nil)
  · refine arm_of rfl ?_
    go_simp
    refine hK _ _ ?_
    clear hK K
    try simp only [Act.put, List.setIfInBounds_toArray, List.set_cons_zero, List.set_cons_succ]
    refine wpAny_ready (rs := [2]) (by kernel_rfl) (by simp) ?_
    refine arms_cons (o := { dst := some 102, op := Op.call { callee := Callee.value (Operand.func 12), args := #[Operand.tmp 101], argTypes := #[28] }, type := 3, pos := "law.go:96", after := #[{ on := 1, ground := Ground.data }], guard := none }) rfl (fun K hK => ?_) AllReady.nil
    refine arm_of rfl ?_
    go_simp
    refine Calls.mono (num_ev 1 _) ?_
    rintro e W9 ⟨rfl, rfl⟩
    refine hK _ _ ?_
    clear hK K
    try simp only [Act.put, List.setIfInBounds_toArray, List.set_cons_zero, List.set_cons_succ]
    refine wpAny_take (i := 4) (v := .bool true) rfl (by kernel_rfl) (by kernel_rfl) (by kernel_rfl) (fun _ _ _ h => h) (Or.inl ⟨by rfl, fun w => by go_simp⟩) ?_
    try simp only [Act.put, List.setIfInBounds_toArray, List.set_cons_zero, List.set_cons_succ]
    refine wpAny_take (i := 5) (v := .bool true) rfl (by kernel_rfl) (by kernel_rfl) (by kernel_rfl) (fun _ _ _ h => h) (Or.inl ⟨by rfl, fun w => by go_simp⟩) ?_
    try simp only [Act.put, List.setIfInBounds_toArray, List.set_cons_zero, List.set_cons_succ]
    refine wpAny_take (i := 6) (v := .bool true) rfl (by kernel_rfl) (by kernel_rfl) (by kernel_rfl) (fun _ _ _ h => h) (Or.inl ⟨by rfl, fun w => by go_simp⟩) ?_
    try simp only [Act.put, List.setIfInBounds_toArray, List.set_cons_zero, List.set_cons_succ]
    refine wpAny_take (i := 7) (v := .bool true) rfl (by kernel_rfl) (by kernel_rfl) (by kernel_rfl) (fun _ _ _ h => h) (Or.inl ⟨by rfl, fun w => by go_simp⟩) ?_
    try simp only [Act.put, List.setIfInBounds_toArray, List.set_cons_zero, List.set_cons_succ]
    refine wpAny_of_list (k := 8) (l := [{ dst := none, op := Op.store 33 (Operand.tmp 6) (Operand.tmp 100), type := 0, pos := "law.go:96", after := #[{ on := 0, ground := Ground.data }, { on := 5, ground := Ground.chain }, { on := 0, ground := Ground.phase }, { on := 1, ground := Ground.textOnly Departure.lateStores }, { on := 2, ground := Ground.textOnly Departure.lateStoresUnsure }, { on := 3, ground := Ground.textOnly Departure.lateStores }, { on := 4, ground := Ground.textOnly Departure.lateStores }, { on := 5, ground := Ground.textOnly Departure.lateStores }, { on := 6, ground := Ground.textOnly Departure.lateStores }, { on := 7, ground := Ground.textOnly Departure.lateStores }], guard := none }, { dst := some 7, op := Op.assign (Operand.tmp 107), type := 4, pos := "law.go:96", after := #[{ on := 7, ground := Ground.data }, { on := 8, ground := Ground.chain }, { on := 0, ground := Ground.phase }, { on := 1, ground := Ground.phase }, { on := 2, ground := Ground.phase }, { on := 3, ground := Ground.phase }, { on := 4, ground := Ground.phase }, { on := 5, ground := Ground.phase }, { on := 6, ground := Ground.phase }, { on := 7, ground := Ground.phase }, { on := 8, ground := Ground.phase }], guard := none }]) rfl rfl (by kernel_rfl) ?_
    go_wp2_with fail
    have HT := Lib.hid (HD.out.fin N HLEN.out _ rfl)
    revert HT
    generalize World.drew _ = w9
    intro HT
    obtain ⟨u, st9, rs9, ch9⟩ := HT.out
    have g0 := (cell_of_row _ _ 0 _ _ (0, 0) u).trans rfl
    have g1 := (cell_of_row _ _ 1 _ _ (0, 0) u).trans rfl
    have g2 := (cell_of_row _ _ 2 _ _ (0, 0) u).trans rfl
    have g3 := (cell_of_row _ _ 3 _ _ (0, 0) u).trans rfl
    have g4 := (cell_of_row _ _ 4 _ _ (0, 0) u).trans rfl
    refine bodyPost_ret (v := .tuple #[.agg #[.slice A N c, .int .i64 (p.steps : Int), .int .i64 left, .bool p.ia, .bool p.gone], .bool true]) (by simp [results, Try.results14, go_sem, g0, g1, g2, g3, g4]) rfl ?_
    refine ⟨F, X, A, c, left, ?_, st9, rs9, HD.out.lf, HD.out.xf, fun k e => ?_, ch9⟩
    · unfold rsV
      rw [HLEN.out]
    · rcases HD.out.x0 k e with e2 | e2
      · exact .inl e2
      · right; have := HZ.out; omega
  · refine arm_of rfl ?_
    go_simp
    refine Calls.mono (num_ev 1 _) ?_
    rintro e W9 ⟨rfl, rfl⟩
    refine hK _ _ ?_
    clear hK K
    try simp only [Act.put, List.setIfInBounds_toArray, List.set_cons_zero, List.set_cons_succ]
    refine wpAny_take (i := 4) (v := .bool true) rfl (by kernel_rfl) (by kernel_rfl) (by kernel_rfl) (fun _ _ _ h => h) (Or.inl ⟨by rfl, fun w => by go_simp⟩) ?_
    try simp only [Act.put, List.setIfInBounds_toArray, List.set_cons_zero, List.set_cons_succ]
    refine wpAny_take (i := 5) (v := .bool true) rfl (by kernel_rfl) (by kernel_rfl) (by kernel_rfl) (fun _ _ _ h => h) (Or.inl ⟨by rfl, fun w => by go_simp⟩) ?_
    try simp only [Act.put, List.setIfInBounds_toArray, List.set_cons_zero, List.set_cons_succ]
    refine wpAny_take (i := 6) (v := .bool true) rfl (by kernel_rfl) (by kernel_rfl) (by kernel_rfl) (fun _ _ _ h => h) (Or.inl ⟨by rfl, fun w => by go_simp⟩) ?_
    try simp only [Act.put, List.setIfInBounds_toArray, List.set_cons_zero, List.set_cons_succ]
    refine wpAny_take (i := 7) (v := .bool true) rfl (by kernel_rfl) (by kernel_rfl) (by kernel_rfl) (fun _ _ _ h => h) (Or.inl ⟨by rfl, fun w => by go_simp⟩) ?_
    try simp only [Act.put, List.setIfInBounds_toArray, List.set_cons_zero, List.set_cons_succ]
    refine wpAny_ready (rs := [0]) (by kernel_rfl) (by simp) ?_
    refine arms_cons (o := { dst := some 100, op := Op.load 33 (Operand.tmp 4), type := 33, pos := "law.go:96", after := #[], guard := none }) rfl (fun K hK => ?_) AllReady.nil
    refine arm_of rfl ?_
    go_simp
    refine hK _ _ ?_
    clear hK K
    try simp only [Act.put, List.setIfInBounds_toArray, List.set_cons_zero, List.set_cons_succ]
    refine wpAny_of_list (k := 8) (l := [{ dst := none, op := Op.store 33 (Operand.tmp 6) (Operand.tmp 100), type := 0, pos := "law.go:96", after := #[{ on := 0, ground := Ground.data }, { on := 5, ground := Ground.chain }, { on := 0, ground := Ground.phase }, { on := 1, ground := Ground.textOnly Departure.lateStores }, { on := 2, ground := Ground.textOnly Departure.lateStoresUnsure }, { on := 3, ground := Ground.textOnly Departure.lateStores }, { on := 4, ground := Ground.textOnly Departure.lateStores }, { on := 5, ground := Ground.textOnly Departure.lateStores }, { on := 6, ground := Ground.textOnly Departure.lateStores }, { on := 7, ground := Ground.textOnly Departure.lateStores }], guard := none }, { dst := some 7, op := Op.assign (Operand.tmp 107), type := 4, pos := "law.go:96", after := #[{ on := 7, ground := Ground.data }, { on := 8, ground := Ground.chain }, { on := 0, ground := Ground.phase }, { on := 1, ground := Ground.phase }, { on := 2, ground := Ground.phase }, { on := 3, ground := Ground.phase }, { on := 4, ground := Ground.phase }, { on := 5, ground := Ground.phase }, { on := 6, ground := Ground.phase }, { on := 7, ground := Ground.phase }, { on := 8, ground := Ground.phase }], guard := none }]) rfl rfl (by kernel_rfl) ?_
    go_wp2_with fail
    have HT := Lib.hid (HD.out.fin N HLEN.out _ rfl)
    revert HT
    generalize World.drew _ = w9
    intro HT
    obtain ⟨u, st9, rs9, ch9⟩ := HT.out
    have g0 := (cell_of_row _ _ 0 _ _ (0, 0) u).trans rfl
    have g1 := (cell_of_row _ _ 1 _ _ (0, 0) u).trans rfl
    have g2 := (cell_of_row _ _ 2 _ _ (0, 0) u).trans rfl
    have g3 := (cell_of_row _ _ 3 _ _ (0, 0) u).trans rfl
    have g4 := (cell_of_row _ _ 4 _ _ (0, 0) u).trans rfl
    refine bodyPost_ret (v := .tuple #[.agg #[.slice A N c, .int .i64 (p.steps : Int), .int .i64 left, .bool p.ia, .bool p.gone], .bool true]) (by simp [results, Try.results14, go_sem, g0, g1, g2, g3, g4]) rfl ?_
    refine ⟨F, X, A, c, left, ?_, st9, rs9, HD.out.lf, HD.out.xf, fun k e => ?_, ch9⟩
    · unfold rsV
      rw [HLEN.out]
    · rcases HD.out.x0 k e with e2 | e2
      · exact .inl e2
      · right; have := HZ.out; omega
set_option maxHeartbeats 16000000 in
theorem do_arm_yes {w : World} {F X : Nat → Prop} {g : Nat} {p : Pw} {ds : List Dk} {K : Nat} {A : Option Addr} {c : Nat} {left : Int} (h : St w F g p ds K) (hr : RSet w X A c ds) (hk : LeftOk p left) (hx : ∀ k, X k → ¬ F k) (hok : OkN K ds) (hl : ds.length ≤ 1000) (hKb : K ≤ 1000000) (hps : p.steps ≤ K) (hpa : p.armed ≤ 9223372036854775807)
    (dv : Int) (m : Nat) (b : Nat) (hb : b < 256) (Ak : Option Addr) (mk ck : Nat)  (hmb : m ≤ 9223372036854775807) :
    Calls Try.prog 14 #[.pointer (some ⟨g, 0, none⟩), rsV A c ds p left, .agg #[.int .i64 4, .int .i64 dv, .int .i64 (m : Int), .int .u8 (b : Int), .slice Ak mk ck]] w (DoPost w F X g K { p with armed := m, ia := true } ds) := by
  have HM := Lib.hid (DMid.start h hr hk hx #[.int .i64 4, .int .i64 dv, .int .i64 (m : Int), .int .u8 (b : Int), .slice Ak mk ck])
  have HOK := Lib.hid hok
  obtain ⟨N, hN⟩ : ∃ N, N = ds.length := ⟨_, rfl⟩
  have HN := Lib.hid hN
  obtain ⟨z, hz⟩ : ∃ z, z = w.heap.size := ⟨_, rfl⟩
  have HZ := Lib.hid hz
  unfold rsV
  rw [← hN] at HM ⊢
  rw [← hz] at HM
  clear h hr hk hx hok hN
  go_enter Try.func14, Try.ntmps14
  go_upto_region 1 with fail
  rw [← hz]
  clear hz
  revert HM
  generalize World.alloc _ _ = wb
  intro HM
  have HMB : Hid (DMid w wb z g K F X p ds A c left #[.int .i64 4, .int .i64 dv, .int .i64 (m : Int), .int .u8 (b : Int), .slice Ak mk ck] F X) := HM
  clear HM
  have k0 := (cell_of_row _ _ 0 _ _ (0, 0) HMB.out.box.b1).trans rfl
  have k2 := (cell_of_row _ _ 2 _ _ (0, 0) HMB.out.box.b1).trans rfl
  have d0 : decide ((m : Int) < 0) = false := decide_eq_false (by omega)
  have HAR := Lib.hid (st_arm HMB.out.st m hmb)
  go_wp2_with fail
  refine Calls.mono HAR.out ?_
  rintro e w3 ⟨rfl, s3, c3⟩
  have HBX3 := Lib.hid (HMB.out.box.chg c3 HMB.out.fz)
  have HSR := Lib.hid (And.intro (s3.mono (Nat.le_succ K)) (And.intro (HMB.out.rs.chg c3 HMB.out.xf) (HMB.out.ch.trans c3)))
  have HOT := Lib.hid (And.intro HMB.out.xf (And.intro HMB.out.x0 (And.intro HMB.out.fz (And.intro HMB.out.xz HMB.out.hz))))
  have y2 := (cell_of_row _ _ 2 _ _ (0, 0) HBX3.out.b1).trans rfl
  have kz := HBX3.out.bz
  rw [← HN.out] at kz
  have q0 := (cell_of_row _ _ 0 _ _ (0, 0) kz).trans rfl
  have q1 := (cell_of_row _ _ 1 _ _ (0, 0) kz).trans rfl
  have q2 := (cell_of_row _ _ 2 _ _ (0, 0) kz).trans rfl
  have q3 := (cell_of_row _ _ 3 _ _ (0, 0) kz).trans rfl
  have q4 := (cell_of_row _ _ 4 _ _ (0, 0) kz).trans rfl
  have f0 := frozen_at kz 0
  have f1 := frozen_at kz 1
  have f2 := frozen_at kz 2
  have f3 := frozen_at kz 3
  have f4 := frozen_at kz 4
  have hz5 : z < w3.heap.size := by have := HBX3.out.lt; omega
  clear s3 c3 HMB k0 k2 HAR kz
  go_upto_region 18 with fail
  clear d0
  have HD := Lib.hid (show DMid w (((w3.setCell ⟨z, 3, none⟩ (.bool true)).setCell ⟨z, 2, none⟩ (.int .i64 (m : Int))).drew) z g (K + 1) F X { p with armed := m, ia := true } ds A c (m : Int) #[.int .i64 4, .int .i64 dv, .int .i64 (m : Int), .int .u8 (b : Int), .slice Ak mk ck] F X from by
    have hc := (setCell_chg w3 z 3 (.bool true)).trans (setCell_chg (w3.setCell ⟨z, 3, none⟩ (.bool true)) z 2 (.int .i64 (m : Int)))
    have t := box_set (box_set HBX3.out.bz 3 (.bool true)) 2 (.int .i64 (m : Int))
    have hk : ∀ k, k ≠ z → ((w3.setCell ⟨z, 3, none⟩ (.bool true)).setCell ⟨z, 2, none⟩ (.int .i64 (m : Int))).heap[k]? = w3.heap[k]? := fun k hk => (Below.heap_setCell _ ⟨z, 2, none⟩ _ _ hk).trans (Below.heap_setCell _ ⟨z, 3, none⟩ _ _ hk)
    refine DMid.below (wr := (w3.setCell ⟨z, 3, none⟩ (.bool true)).setCell ⟨z, 2, none⟩ (.int .i64 (m : Int))) ⟨HSR.out.1.stay hc (fun k e e2 => by have := HOT.out.2.2.1 k e; omega), HSR.out.2.1.chg hc (fun k e e2 => by have := HOT.out.2.2.2.1 k e; omega), fun _ => rfl, ⟨t, (hk _ (by omega)).trans HBX3.out.b1, (hk _ (by omega)).trans HBX3.out.b2⟩, HOT.out.1, HOT.out.2.1, HSR.out.2.2.beside hc (fun q e => by have := HOT.out.2.2.2.2; omega), HOT.out.2.2.1, HOT.out.2.2.2.1, HOT.out.2.2.2.2⟩ (Below.drew (Below.refl _ _)))
  clear HBX3 HSR HOT
  refine wp_region_any (by kernel_rfl) ?_
  change wpAny _ _ _ _ _ _ _ w3.drew
  refine wpAny_take (i := 0) (v := .pointer (some ⟨z + 1, 2, none⟩)) rfl (by kernel_rfl) (by kernel_rfl) (by kernel_rfl) (fun _ _ _ h => h) (Or.inl ⟨by rfl, fun w => by go_simp⟩) ?_
  try simp only [Act.put, List.setIfInBounds_toArray, List.set_cons_zero, List.set_cons_succ]
  refine wpAny_take (i := 2) (v := .pointer (some ⟨z, 3, none⟩)) rfl (by kernel_rfl) (by kernel_rfl) (by kernel_rfl) (fun _ _ _ h => h) (Or.inl ⟨by rfl, fun w => by go_simp⟩) ?_
  try simp only [Act.put, List.setIfInBounds_toArray, List.set_cons_zero, List.set_cons_succ]
  refine wpAny_ready (rs := [1, 3]) (by kernel_rfl) (by simp) ?_
  refine arms_cons (o := { dst := some 86, op := Op.load 3 (Operand.tmp 85), type := 3, pos := "law.go:86", after := #[{ on := 0, ground := Ground.data }, { on := 3, ground := Ground.gcOnly Departure.lateStores }], guard := none }) rfl (fun K hK => ?_) (arms_cons (o := { dst := none, op := Op.store 4 (Operand.tmp 87) (Operand.const (Value.bool true)), type := 0, pos := "law.go:86", after := #[{ on := 2, ground := Ground.data }, { on := 0, ground := Ground.textOnly Departure.lateStores }, { on := 1, ground := Ground.textOnly Departure.lateStores }], guard := none }) rfl (fun K hK => ?_) AllReady.nil)
  · refine arm_of rfl ?_
    go_simp
    refine hK _ _ ?_
    clear hK K
    try simp only [Act.put, List.setIfInBounds_toArray, List.set_cons_zero, List.set_cons_succ]
    refine wpAny_of_list (k := 3) (l := [{ dst := none, op := Op.store 4 (Operand.tmp 87) (Operand.const (Value.bool true)), type := 0, pos := "law.go:86", after := #[{ on := 2, ground := Ground.data }, { on := 0, ground := Ground.textOnly Departure.lateStores }, { on := 1, ground := Ground.textOnly Departure.lateStores }], guard := none }, { dst := some 88, op := Op.fieldAddr 33 (Operand.tmp 4) 2, type := 0, pos := "law.go:86", after := #[{ on := 0, ground := Ground.phase }, { on := 1, ground := Ground.phase }, { on := 2, ground := Ground.phase }, { on := 3, ground := Ground.phase }], guard := none }, { dst := none, op := Op.store 3 (Operand.tmp 88) (Operand.tmp 86), type := 0, pos := "law.go:86", after := #[{ on := 4, ground := Ground.data }, { on := 1, ground := Ground.data }, { on := 3, ground := Ground.chain }, { on := 0, ground := Ground.phase }, { on := 1, ground := Ground.phase }, { on := 2, ground := Ground.phase }, { on := 3, ground := Ground.phase }], guard := none }]) rfl rfl (by kernel_rfl) ?_
    go_wp2_with fail
    clear q0 q1 q2 q3 q4 f0 f1 f2 f3 f4 hz5 y2
    go_upto_region 22 with fail
    revert HD
    generalize World.drew _ = w6
    intro HD
    have HLEN := Lib.hid HN.out.symm
    have hbx := HD.out.box
    have k0 := hbx.bz
    rw [HLEN.out] at k0
    have k2 := hbx.b2
    have q0 := (cell_of_row _ _ 0 _ _ (0, 0) k0).trans rfl
    have q1 := (cell_of_row _ _ 1 _ _ (0, 0) k0).trans rfl
    have q2 := (cell_of_row _ _ 2 _ _ (0, 0) k0).trans rfl
    have q3 := (cell_of_row _ _ 3 _ _ (0, 0) k0).trans rfl
    have q4 := (cell_of_row _ _ 4 _ _ (0, 0) k0).trans rfl
    have pp0 := (cell_of_row _ _ 0 _ _ (0, 0) k2).trans rfl
    have pp1 := (cell_of_row _ _ 1 _ _ (0, 0) k2).trans rfl
    have pp2 := (cell_of_row _ _ 2 _ _ (0, 0) k2).trans rfl
    have pp3 := (cell_of_row _ _ 3 _ _ (0, 0) k2).trans rfl
    have pp4 := (cell_of_row _ _ 4 _ _ (0, 0) k2).trans rfl
    have f0 := frozen_at k2 0
    have f1 := frozen_at k2 1
    have f2 := frozen_at k2 2
    have f3 := frozen_at k2 3
    have f4 := frozen_at k2 4
    have hz6 := hbx.lt
    have hq1 : ((0 : Int) == (0 : Int)) = true := by simp
    have hq2 : (0 == 0) = true := by simp
    clear hbx k0 k2
    refine wp_region_any (by kernel_rfl) ?_
    change wpAny _ _ _ _ _ _ _ w6.drew
    refine wpAny_take (i := 1) (v := .nilIface) rfl (by kernel_rfl) (by kernel_rfl) (by kernel_rfl) (fun _ _ _ h => h) (Or.inl ⟨by rfl, fun w => by go_simp⟩) ?_
    try simp only [Act.put, List.setIfInBounds_toArray, List.set_cons_zero, List.set_cons_succ]
    refine wpAny_take (i := 3) (v := .int .i64 (0 : Int)) rfl (by kernel_rfl) (by kernel_rfl) (by kernel_rfl) (fun _ _ _ h => h) (Or.inl ⟨by rfl, fun w => by go_simp⟩) ?_
    try simp only [Act.put, List.setIfInBounds_toArray, List.set_cons_zero, List.set_cons_succ]
    refine wpAny_ready (rs := [0, 2]) (by kernel_rfl) (by simp) ?_
    refine arms_cons (o := { dst := some 100, op := Op.load 33 (Operand.tmp 4), type := 33, pos := "law.go:96", after := #[], guard := none }) rfl (fun K hK => ?_) (arms_cons (o := { dst := some 102, op := Op.call { callee := Callee.value (Operand.func 12), args := #[Operand.tmp 101], argTypes := #[28] }, type := 3, pos := "law.go:96", after := #[{ on := 1, ground := Ground.data }], guard := none }) rfl (fun K hK => ?_) AllReady.nil)
    · refine arm_of rfl ?_
      go_simp
      refine hK _ _ ?_
      clear hK K
      try simp only [Act.put, List.setIfInBounds_toArray, List.set_cons_zero, List.set_cons_succ]
      refine wpAny_ready (rs := [2]) (by kernel_rfl) (by simp) ?_
      refine arms_cons (o := { dst := some 102, op := Op.call { callee := Callee.value (Operand.func 12), args := #[Operand.tmp 101], argTypes := #[28] }, type := 3, pos := "law.go:96", after := #[{ on := 1, ground := Ground.data }], guard := none }) rfl (fun K hK => ?_) AllReady.nil
      refine arm_of rfl ?_
      go_simp
      refine Calls.mono (num_ev 0 _) ?_
      rintro e W9 ⟨rfl, rfl⟩
      refine hK _ _ ?_
      clear hK K
      try simp only [Act.put, List.setIfInBounds_toArray, List.set_cons_zero, List.set_cons_succ]
      refine wpAny_take (i := 4) (v := .bool true) rfl (by kernel_rfl) (by kernel_rfl) (by kernel_rfl) (fun _ _ _ h => h) (Or.inl ⟨by rfl, fun w => by go_simp⟩) ?_
      try simp only [Act.put, List.setIfInBounds_toArray, List.set_cons_zero, List.set_cons_succ]
      refine wpAny_take (i := 5) (v := .bool true) rfl (by kernel_rfl) (by kernel_rfl) (by kernel_rfl) (fun _ _ _ h => h) (Or.inl ⟨by rfl, fun w => by go_simp⟩) ?_
      try simp only [Act.put, List.setIfInBounds_toArray, List.set_cons_zero, List.set_cons_succ]
      refine wpAny_take (i := 6) (v := .bool true) rfl (by kernel_rfl) (by kernel_rfl) (by kernel_rfl) (fun _ _ _ h => h) (Or.inl ⟨by rfl, fun w => by go_simp⟩) ?_
      try simp only [Act.put, List.setIfInBounds_toArray, List.set_cons_zero, List.set_cons_succ]
      refine wpAny_take (i := 7) (v := .bool true) rfl (by kernel_rfl) (by kernel_rfl) (by kernel_rfl) (fun _ _ _ h => h) (Or.inl ⟨by rfl, fun w => by go_simp⟩) ?_
      try simp only [Act.put, List.setIfInBounds_toArray, List.set_cons_zero, List.set_cons_succ]
      refine wpAny_of_list (k := 8) (l := [{ dst := none, op := Op.store 33 (Operand.tmp 6) (Operand.tmp 100), type := 0, pos := "law.go:96", after := #[{ on := 0, ground := Ground.data }, { on := 5, ground := Ground.chain }, { on := 0, ground := Ground.phase }, { on := 1, ground := Ground.textOnly Departure.lateStores }, { on := 2, ground := Ground.textOnly Departure.lateStoresUnsure }, { on := 3, ground := Ground.textOnly Departure.lateStores }, { on := 4, ground := Ground.textOnly Departure.lateStores }, { on := 5, ground := Ground.textOnly Departure.lateStores }, { on := 6, ground := Ground.textOnly Departure.lateStores }, { on := 7, ground := Ground.textOnly Departure.lateStores }], guard := none }, { dst := some 7, op := Op.assign (Operand.tmp 107), type := 4, pos := "law.go:96", after := #[{ on := 7, ground := Ground.data }, { on := 8, ground := Ground.chain }, { on := 0, ground := Ground.phase }, { on := 1, ground := Ground.phase }, { on := 2, ground := Ground.phase }, { on := 3, ground := Ground.phase }, { on := 4, ground := Ground.phase }, { on := 5, ground := Ground.phase }, { on := 6, ground := Ground.phase }, { on := 7, ground := Ground.phase }, { on := 8, ground := Ground.phase }], guard := none }]) rfl rfl (by kernel_rfl) ?_
      go_wp2_with fail
      have HT := Lib.hid (HD.out.fin N HLEN.out _ rfl)
      revert HT
      generalize World.drew _ = w9
      intro HT
      obtain ⟨u, st9, rs9, ch9⟩ := HT.out
      have g0 := (cell_of_row _ _ 0 _ _ (0, 0) u).trans rfl
      have g1 := (cell_of_row _ _ 1 _ _ (0, 0) u).trans rfl
      have g2 := (cell_of_row _ _ 2 _ _ (0, 0) u).trans rfl
      have g3 := (cell_of_row _ _ 3 _ _ (0, 0) u).trans rfl
      have g4 := (cell_of_row _ _ 4 _ _ (0, 0) u).trans rfl
      refine bodyPost_ret (v := .tuple #[.agg #[.slice A N c, .int .i64 (p.steps : Int), .int .i64 (m : Int), .bool true, .bool p.gone], .bool true]) (by simp [results, Try.results14, go_sem, g0, g1, g2, g3, g4]) rfl ?_
      refine ⟨F, X, A, c, (m : Int), ?_, st9, rs9, HD.out.lf, HD.out.xf, fun k e => ?_, ch9⟩
      · unfold rsV
        rw [HLEN.out]
      · rcases HD.out.x0 k e with e2 | e2
        · exact .inl e2
        · right; have := HZ.out; omega
    · refine arm_of rfl ?_
      go_simp
      refine Calls.mono (num_ev 0 _) ?_
      rintro e W9 ⟨rfl, rfl⟩
      refine hK _ _ ?_
      clear hK K
      try simp only [Act.put, List.setIfInBounds_toArray, List.set_cons_zero, List.set_cons_succ]
      refine wpAny_take (i := 4) (v := .bool true) rfl (by kernel_rfl) (by kernel_rfl) (by kernel_rfl) (fun _ _ _ h => h) (Or.inl ⟨by rfl, fun w => by go_simp⟩) ?_
      try simp only [Act.put, List.setIfInBounds_toArray, List.set_cons_zero, List.set_cons_succ]
      refine wpAny_take (i := 5) (v := .bool true) rfl (by kernel_rfl) (by kernel_rfl) (by kernel_rfl) (fun _ _ _ h => h) (Or.inl ⟨by rfl, fun w => by go_simp⟩) ?_
      try simp only [Act.put, List.setIfInBounds_toArray, List.set_cons_zero, List.set_cons_succ]
      refine wpAny_take (i := 6) (v := .bool true) rfl (by kernel_rfl) (by kernel_rfl) (by kernel_rfl) (fun _ _ _ h => h) (Or.inl ⟨by rfl, fun w => by go_simp⟩) ?_
      try simp only [Act.put, List.setIfInBounds_toArray, List.set_cons_zero, List.set_cons_succ]
      refine wpAny_take (i := 7) (v := .bool true) rfl (by kernel_rfl) (by kernel_rfl) (by kernel_rfl) (fun _ _ _ h => h) (Or.inl ⟨by rfl, fun w => by go_simp⟩) ?_
      try simp only [Act.put, List.setIfInBounds_toArray, List.set_cons_zero, List.set_cons_succ]
      refine wpAny_ready (rs := [0]) (by kernel_rfl) (by simp) ?_
      refine arms_cons (o := { dst := some 100, op := Op.load 33 (Operand.tmp 4), type := 33, pos := "law.go:96", after := #[], guard := none }) rfl (fun K hK => ?_) AllReady.nil
      refine arm_of rfl ?_
      go_simp
      refine hK _ _ ?_
      clear hK K
      try simp only [Act.put, List.setIfInBounds_toArray, List.set_cons_zero, List.set_cons_succ]
      refine wpAny_of_list (k := 8) (l := [{ dst := none, op := Op.store 33 (Operand.tmp 6) (Operand.tmp 100), type := 0, pos := "law.go:96", after := #[{ on := 0, ground := Ground.data }, { on := 5, ground := Ground.chain }, { on := 0, ground := Ground.phase }, { on := 1, ground := Ground.textOnly Departure.lateStores }, { on := 2, ground := Ground.textOnly Departure.lateStoresUnsure }, { on := 3, ground := Ground.textOnly Departure.lateStores }, { on := 4, ground := Ground.textOnly Departure.lateStores }, { on := 5, ground := Ground.textOnly Departure.lateStores }, { on := 6, ground := Ground.textOnly Departure.lateStores }, { on := 7, ground := Ground.textOnly Departure.lateStores }], guard := none }, { dst := some 7, op := Op.assign (Operand.tmp 107), type := 4, pos := "law.go:96", after := #[{ on := 7, ground := Ground.data }, { on := 8, ground := Ground.chain }, { on := 0, ground := Ground.phase }, { on := 1, ground := Ground.phase }, { on := 2, ground := Ground.phase }, { on := 3, ground := Ground.phase }, { on := 4, ground := Ground.phase }, { on := 5, ground := Ground.phase }, { on := 6, ground := Ground.phase }, { on := 7, ground := Ground.phase }, { on := 8, ground := Ground.phase }], guard := none }]) rfl rfl (by kernel_rfl) ?_
      go_wp2_with fail
      have HT := Lib.hid (HD.out.fin N HLEN.out _ rfl)
      revert HT
      generalize World.drew _ = w9
      intro HT
      obtain ⟨u, st9, rs9, ch9⟩ := HT.out
      have g0 := (cell_of_row _ _ 0 _ _ (0, 0) u).trans rfl
      have g1 := (cell_of_row _ _ 1 _ _ (0, 0) u).trans rfl
      have g2 := (cell_of_row _ _ 2 _ _ (0, 0) u).trans rfl
      have g3 := (cell_of_row _ _ 3 _ _ (0, 0) u).trans rfl
      have g4 := (cell_of_row _ _ 4 _ _ (0, 0) u).trans rfl
      refine bodyPost_ret (v := .tuple #[.agg #[.slice A N c, .int .i64 (p.steps : Int), .int .i64 (m : Int), .bool true, .bool p.gone], .bool true]) (by simp [results, Try.results14, go_sem, g0, g1, g2, g3, g4]) rfl ?_
      refine ⟨F, X, A, c, (m : Int), ?_, st9, rs9, HD.out.lf, HD.out.xf, fun k e => ?_, ch9⟩
      · unfold rsV
        rw [HLEN.out]
      · rcases HD.out.x0 k e with e2 | e2
        · exact .inl e2
        · right; have := HZ.out; omega
  · refine arm_of rfl ?_
    go_simp
    refine hK _ _ ?_
    clear hK K
    try simp only [Act.put, List.setIfInBounds_toArray, List.set_cons_zero, List.set_cons_succ]
    refine wpAny_ready (rs := [1]) (by kernel_rfl) (by simp) ?_
    refine arms_cons (o := { dst := some 86, op := Op.load 3 (Operand.tmp 85), type := 3, pos := "law.go:86", after := #[{ on := 0, ground := Ground.data }, { on := 3, ground := Ground.gcOnly Departure.lateStores }], guard := none }) rfl (fun K hK => ?_) AllReady.nil
    refine arm_of rfl ?_
    go_simp
    refine hK _ _ ?_
    clear hK K
    try simp only [Act.put, List.setIfInBounds_toArray, List.set_cons_zero, List.set_cons_succ]
    refine wpAny_of_list (k := 4) (l := [{ dst := some 88, op := Op.fieldAddr 33 (Operand.tmp 4) 2, type := 0, pos := "law.go:86", after := #[{ on := 0, ground := Ground.phase }, { on := 1, ground := Ground.phase }, { on := 2, ground := Ground.phase }, { on := 3, ground := Ground.phase }], guard := none }, { dst := none, op := Op.store 3 (Operand.tmp 88) (Operand.tmp 86), type := 0, pos := "law.go:86", after := #[{ on := 4, ground := Ground.data }, { on := 1, ground := Ground.data }, { on := 3, ground := Ground.chain }, { on := 0, ground := Ground.phase }, { on := 1, ground := Ground.phase }, { on := 2, ground := Ground.phase }, { on := 3, ground := Ground.phase }], guard := none }]) rfl rfl (by kernel_rfl) ?_
    go_wp2_with fail
    clear q0 q1 q2 q3 q4 f0 f1 f2 f3 f4 hz5 y2
    go_upto_region 22 with fail
    revert HD
    generalize World.drew _ = w6
    intro HD
    have HLEN := Lib.hid HN.out.symm
    have hbx := HD.out.box
    have k0 := hbx.bz
    rw [HLEN.out] at k0
    have k2 := hbx.b2
    have q0 := (cell_of_row _ _ 0 _ _ (0, 0) k0).trans rfl
    have q1 := (cell_of_row _ _ 1 _ _ (0, 0) k0).trans rfl
    have q2 := (cell_of_row _ _ 2 _ _ (0, 0) k0).trans rfl
    have q3 := (cell_of_row _ _ 3 _ _ (0, 0) k0).trans rfl
    have q4 := (cell_of_row _ _ 4 _ _ (0, 0) k0).trans rfl
    have pp0 := (cell_of_row _ _ 0 _ _ (0, 0) k2).trans rfl
    have pp1 := (cell_of_row _ _ 1 _ _ (0, 0) k2).trans rfl
    have pp2 := (cell_of_row _ _ 2 _ _ (0, 0) k2).trans rfl
    have pp3 := (cell_of_row _ _ 3 _ _ (0, 0) k2).trans rfl
    have pp4 := (cell_of_row _ _ 4 _ _ (0, 0) k2).trans rfl
    have f0 := frozen_at k2 0
    have f1 := frozen_at k2 1
    have f2 := frozen_at k2 2
    have f3 := frozen_at k2 3
    have f4 := frozen_at k2 4
    have hz6 := hbx.lt
    have hq1 : ((0 : Int) == (0 : Int)) = true := by simp
    have hq2 : (0 == 0) = true := by simp
    clear hbx k0 k2
    refine wp_region_any (by kernel_rfl) ?_
    change wpAny _ _ _ _ _ _ _ w6.drew
    refine wpAny_take (i := 1) (v := .nilIface) rfl (by kernel_rfl) (by kernel_rfl) (by kernel_rfl) (fun _ _ _ h => h) (Or.inl ⟨by rfl, fun w => by go_simp⟩) ?_
    try simp only [Act.put, List.setIfInBounds_toArray, List.set_cons_zero, List.set_cons_succ]
    refine wpAny_take (i := 3) (v := .int .i64 (0 : Int)) rfl (by kernel_rfl) (by kernel_rfl) (by kernel_rfl) (fun _ _ _ h => h) (Or.inl ⟨by rfl, fun w => by go_simp⟩) ?_
    try simp only [Act.put, List.setIfInBounds_toArray, List.set_cons_zero, List.set_cons_succ]
    refine wpAny_ready (rs := [0, 2]) (by kernel_rfl) (by simp) ?_
    refine arms_cons (o := { dst := some 100, op := Op.load 33 (Operand.tmp 4), type := 33, pos := "law.go:96", after := #[], guard := none }) rfl (fun K hK => ?_) (arms_cons (o := { dst := some 102, op := Op.call { callee := Callee.value (Operand.func 12), args := #[Operand.tmp 101], argTypes := #[28] }, type := 3, pos := "law.go:96", after := #[{ on := 1, ground := Ground.data }], guard := none }) rfl (fun K hK => ?_) AllReady.nil)
    · refine arm_of rfl ?_
      go_simp
      refine hK _ _ ?_
      clear hK K
      try simp only [Act.put, List.setIfInBounds_toArray, List.set_cons_zero, List.set_cons_succ]
      refine wpAny_ready (rs := [2]) (by kernel_rfl) (by simp) ?_
      refine arms_cons (o := { dst := some 102, op := Op.call { callee := Callee.value (Operand.func 12), args := #[Operand.tmp 101], argTypes := #[28] }, type := 3, pos := "law.go:96", after := #[{ on := 1, ground := Ground.data }], guard := none }) rfl (fun K hK => ?_) AllReady.nil
      refine arm_of rfl ?_
      go_simp
      refine Calls.mono (num_ev 0 _) ?_
      rintro e W9 ⟨rfl, rfl⟩
      refine hK _ _ ?_
      clear hK K
      try simp only [Act.put, List.setIfInBounds_toArray, List.set_cons_zero, List.set_cons_succ]
      refine wpAny_take (i := 4) (v := .bool true) rfl (by kernel_rfl) (by kernel_rfl) (by kernel_rfl) (fun _ _ _ h => h) (Or.inl ⟨by rfl, fun w => by go_simp⟩) ?_
      try simp only [Act.put, List.setIfInBounds_toArray, List.set_cons_zero, List.set_cons_succ]
      refine wpAny_take (i := 5) (v := .bool true) rfl (by kernel_rfl) (by kernel_rfl) (by kernel_rfl) (fun _ _ _ h => h) (Or.inl ⟨by rfl, fun w => by go_simp⟩) ?_
      try simp only [Act.put, List.setIfInBounds_toArray, List.set_cons_zero, List.set_cons_succ]
      refine wpAny_take (i := 6) (v := .bool true) rfl (by kernel_rfl) (by kernel_rfl) (by kernel_rfl) (fun _ _ _ h => h) (Or.inl ⟨by rfl, fun w => by go_simp⟩) ?_
      try simp only [Act.put, List.setIfInBounds_toArray, List.set_cons_zero, List.set_cons_succ]
      refine wpAny_take (i := 7) (v := .bool true) rfl (by kernel_rfl) (by kernel_rfl) (by kernel_rfl) (fun _ _ _ h => h) (Or.inl ⟨by rfl, fun w => by go_simp⟩) ?_
      try simp only [Act.put, List.setIfInBounds_toArray, List.set_cons_zero, List.set_cons_succ]
      refine wpAny_of_list (k := 8) (l := [{ dst := none, op := Op.store 33 (Operand.tmp 6) (Operand.tmp 100), type := 0, pos := "law.go:96", after := #[{ on := 0, ground := Ground.data }, { on := 5, ground := Ground.chain }, { on := 0, ground := Ground.phase }, { on := 1, ground := Ground.textOnly Departure.lateStores }, { on := 2, ground := Ground.textOnly Departure.lateStoresUnsure }, { on := 3, ground := Ground.textOnly Departure.lateStores }, { on := 4, ground := Ground.textOnly Departure.lateStores }, { on := 5, ground := Ground.textOnly Departure.lateStores }, { on := 6, ground := Ground.textOnly Departure.lateStores }, { on := 7, ground := Ground.textOnly Departure.lateStores }], guard := none }, { dst := some 7, op := Op.assign (Operand.tmp 107), type := 4, pos := "law.go:96", after := #[{ on := 7, ground := Ground.data }, { on := 8, ground := Ground.chain }, { on := 0, ground := Ground.phase }, { on := 1, ground := Ground.phase }, { on := 2, ground := Ground.phase }, { on := 3, ground := Ground.phase }, { on := 4, ground := Ground.phase }, { on := 5, ground := Ground.phase }, { on := 6, ground := Ground.phase }, { on := 7, ground := Ground.phase }, { on := 8, ground := Ground.phase }], guard := none }]) rfl rfl (by kernel_rfl) ?_
      go_wp2_with fail
      have HT := Lib.hid (HD.out.fin N HLEN.out _ rfl)
      revert HT
      generalize World.drew _ = w9
      intro HT
      obtain ⟨u, st9, rs9, ch9⟩ := HT.out
      have g0 := (cell_of_row _ _ 0 _ _ (0, 0) u).trans rfl
      have g1 := (cell_of_row _ _ 1 _ _ (0, 0) u).trans rfl
      have g2 := (cell_of_row _ _ 2 _ _ (0, 0) u).trans rfl
      have g3 := (cell_of_row _ _ 3 _ _ (0, 0) u).trans rfl
      have g4 := (cell_of_row _ _ 4 _ _ (0, 0) u).trans rfl
      refine bodyPost_ret (v := .tuple #[.agg #[.slice A N c, .int .i64 (p.steps : Int), .int .i64 (m : Int), .bool true, .bool p.gone], .bool true]) (by simp [results, Try.results14, go_sem, g0, g1, g2, g3, g4]) rfl ?_
      refine ⟨F, X, A, c, (m : Int), ?_, st9, rs9, HD.out.lf, HD.out.xf, fun k e => ?_, ch9⟩
      · unfold rsV
        rw [HLEN.out]
      · rcases HD.out.x0 k e with e2 | e2
        · exact .inl e2
        · right; have := HZ.out; omega
    · refine arm_of rfl ?_
      go_simp
      refine Calls.mono (num_ev 0 _) ?_
      rintro e W9 ⟨rfl, rfl⟩
      refine hK _ _ ?_
      clear hK K
      try simp only [Act.put, List.setIfInBounds_toArray, List.set_cons_zero, List.set_cons_succ]
      refine wpAny_take (i := 4) (v := .bool true) rfl (by kernel_rfl) (by kernel_rfl) (by kernel_rfl) (fun _ _ _ h => h) (Or.inl ⟨by rfl, fun w => by go_simp⟩) ?_
      try simp only [Act.put, List.setIfInBounds_toArray, List.set_cons_zero, List.set_cons_succ]
      refine wpAny_take (i := 5) (v := .bool true) rfl (by kernel_rfl) (by kernel_rfl) (by kernel_rfl) (fun _ _ _ h => h) (Or.inl ⟨by rfl, fun w => by go_simp⟩) ?_
      try simp only [Act.put, List.setIfInBounds_toArray, List.set_cons_zero, List.set_cons_succ]
      refine wpAny_take (i := 6) (v := .bool true) rfl (by kernel_rfl) (by kernel_rfl) (by kernel_rfl) (fun _ _ _ h => h) (Or.inl ⟨by rfl, fun w => by go_simp⟩) ?_
      try simp only [Act.put, List.setIfInBounds_toArray, List.set_cons_zero, List.set_cons_succ]
      refine wpAny_take (i := 7) (v := .bool true) rfl (by kernel_rfl) (by kernel_rfl) (by kernel_rfl) (fun _ _ _ h => h) (Or.inl ⟨by rfl, fun w => by go_simp⟩) ?_
      try simp only [Act.put, List.setIfInBounds_toArray, List.set_cons_zero, List.set_cons_succ]
      refine wpAny_ready (rs := [0]) (by kernel_rfl) (by simp) ?_
      refine arms_cons (o := { dst := some 100, op := Op.load 33 (Operand.tmp 4), type := 33, pos := "law.go:96", after := #[], guard := none }) rfl (fun K hK => ?_) AllReady.nil
      refine arm_of rfl ?_
      go_simp
      refine hK _ _ ?_
      clear hK K
      try simp only [Act.put, List.setIfInBounds_toArray, List.set_cons_zero, List.set_cons_succ]
      refine wpAny_of_list (k := 8) (l := [{ dst := none, op := Op.store 33 (Operand.tmp 6) (Operand.tmp 100), type := 0, pos := "law.go:96", after := #[{ on := 0, ground := Ground.data }, { on := 5, ground := Ground.chain }, { on := 0, ground := Ground.phase }, { on := 1, ground := Ground.textOnly Departure.lateStores }, { on := 2, ground := Ground.textOnly Departure.lateStoresUnsure }, { on := 3, ground := Ground.textOnly Departure.lateStores }, { on := 4, ground := Ground.textOnly Departure.lateStores }, { on := 5, ground := Ground.textOnly Departure.lateStores }, { on := 6, ground := Ground.textOnly Departure.lateStores }, { on := 7, ground := Ground.textOnly Departure.lateStores }], guard := none }, { dst := some 7, op := Op.assign (Operand.tmp 107), type := 4, pos := "law.go:96", after := #[{ on := 7, ground := Ground.data }, { on := 8, ground := Ground.chain }, { on := 0, ground := Ground.phase }, { on := 1, ground := Ground.phase }, { on := 2, ground := Ground.phase }, { on := 3, ground := Ground.phase }, { on := 4, ground := Ground.phase }, { on := 5, ground := Ground.phase }, { on := 6, ground := Ground.phase }, { on := 7, ground := Ground.phase }, { on := 8, ground := Ground.phase }], guard := none }]) rfl rfl (by kernel_rfl) ?_
      go_wp2_with fail
      have HT := Lib.hid (HD.out.fin N HLEN.out _ rfl)
      revert HT
      generalize World.drew _ = w9
      intro HT
      obtain ⟨u, st9, rs9, ch9⟩ := HT.out
      have g0 := (cell_of_row _ _ 0 _ _ (0, 0) u).trans rfl
      have g1 := (cell_of_row _ _ 1 _ _ (0, 0) u).trans rfl
      have g2 := (cell_of_row _ _ 2 _ _ (0, 0) u).trans rfl
      have g3 := (cell_of_row _ _ 3 _ _ (0, 0) u).trans rfl
      have g4 := (cell_of_row _ _ 4 _ _ (0, 0) u).trans rfl
      refine bodyPost_ret (v := .tuple #[.agg #[.slice A N c, .int .i64 (p.steps : Int), .int .i64 (m : Int), .bool true, .bool p.gone], .bool true]) (by simp [results, Try.results14, go_sem, g0, g1, g2, g3, g4]) rfl ?_
      refine ⟨F, X, A, c, (m : Int), ?_, st9, rs9, HD.out.lf, HD.out.xf, fun k e => ?_, ch9⟩
      · unfold rsV
        rw [HLEN.out]
      · rcases HD.out.x0 k e with e2 | e2
        · exact .inl e2
        · right; have := HZ.out; omega
end Go.Proofs.Ythmebgpleegonaa
