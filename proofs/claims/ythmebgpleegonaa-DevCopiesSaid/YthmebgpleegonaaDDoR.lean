/- An act by both: a read. -/
import Derived.Test.YthmebgpleegonaaDDoC
namespace Go.Proofs.Ythmebgpleegonaa
set_option maxRecDepth 100000
open Go.RowKit

set_option maxHeartbeats 16000000 in
theorem do_read {w : World} {F X : Nat → Prop} {g : Nat} {p : Pw} {ds : List Dk} {K : Nat} {A : Option Addr} {c : Nat} {left : Int} (h : St w F g p ds K) (hr : RSet w X A c ds) (hk : LeftOk p left) (hx : ∀ k, X k → ¬ F k) (hok : OkN K ds) (hl : ds.length ≤ 1000) (hKb : K ≤ 1000000) (hps : p.steps ≤ K) (hpa : p.armed ≤ 9223372036854775807)
    (dv n : Int) (b : Nat) (hb : b < 256) (Ak : Option Addr) (mk ck : Nat) (kd : Int) (h1 : kd ≠ 1) (h2 : kd ≠ 2) (h4 : kd ≠ 4) (h5 : kd ≠ 5) :
    Calls Try.prog 14 #[.pointer (some ⟨g, 0, none⟩), rsV A c ds p left, .agg #[.int .i64 kd, .int .i64 dv, .int .i64 n, .int .u8 (b : Int), .slice Ak mk ck]] w (DoPost w F X g K p ds) := by
  have HM := Lib.hid (DMid.start h hr hk hx #[.int .i64 kd, .int .i64 dv, .int .i64 n, .int .u8 (b : Int), .slice Ak mk ck])
  have HOK := Lib.hid hok
  obtain ⟨N, hN⟩ : ∃ N, N = ds.length := ⟨_, rfl⟩
  have HN := Lib.hid hN
  obtain ⟨z, hz⟩ : ∃ z, z = w.heap.size := ⟨_, rfl⟩
  have HZ := Lib.hid hz
  unfold rsV
  rw [← hN] at HM ⊢
  rw [← hz] at HM
  clear h hr hk hx hok hN
  go_enter Try.func14, Try.ntmps14
  go_upto_region 1 with fail
  rw [← hz]
  clear hz
  revert HM
  generalize World.alloc _ _ = wb
  intro HM
  have HMB : Hid (DMid w wb z g K F X p ds A c left #[.int .i64 kd, .int .i64 dv, .int .i64 n, .int .u8 (b : Int), .slice Ak mk ck] F X) := HM
  clear HM
  have k0 := (cell_of_row _ _ 0 _ _ (0, 0) HMB.out.box.b1).trans rfl
  have k1 := (cell_of_row _ _ 1 _ _ (0, 0) HMB.out.box.b1).trans rfl
  have k2 := (cell_of_row _ _ 2 _ _ (0, 0) HMB.out.box.b1).trans rfl
  have e1 : (kd == 1) = false := beq_eq_false_iff_ne.2 h1
  have e2 : (kd == 2) = false := beq_eq_false_iff_ne.2 h2
  have e4 : (kd == 4) = false := beq_eq_false_iff_ne.2 h4
  have e5 : (kd == 5) = false := beq_eq_false_iff_ne.2 h5
  have HRD := Lib.hid (st_read_gen HMB.out.st dv n hl (by omega))
  obtain ⟨rv, hrv⟩ : ∃ u, u = readV p ds dv n := ⟨_, rfl⟩
  have HRV := Lib.hid hrv
  rw [← hrv] at HRD
  obtain ⟨x, wn⟩ := rv
  simp only [] at HRD
  clear h1 h2 h4 h5 hrv
  go_wp2_with fail
  refine Calls.mono HRD.out ?_
  rintro e w3 ⟨rfl, b3⟩
  have hst := SBlk.store (w := w3.alloc (.cells Sx.zero.arr 50)) (z := Sx.zero) (heap_alloc_new w3 _) x
  rw [World.setRow_alloc_new, ← zero_arr] at hst
  have hba : Below w3.heap.size w3 (w3.alloc (.cells x.arr 50)) := (Below.refl _ _).alloc (Nat.le_refl _) _
  have HM3 := Lib.hid (And.intro ((HMB.out.below b3).below hba) (show SBlk (w3.alloc (.cells x.arr 50)) w3.heap.size x from heap_alloc_new w3 _))
  clear b3 HMB HRD hba k0 k1 k2 e1 e2 e4 e5
  go_upto_region 6 with (refine wpList_store_val rfl (.tmp 11) (.tmp 24) rfl rfl x.val rfl hst ?_)
  clear hst
  obtain ⟨u, hu⟩ : ∃ u, u = w3.heap.size := ⟨_, rfl⟩
  rw [← hu] at HM3 ⊢
  clear hu
  revert HM3
  generalize World.alloc w3 _ = w4
  intro HM3
  have hrr := refread_any HM3.out.1.rs p left dv n hl (fun d hd => by have := (HOK.out d hd).1; omega)
  unfold rsV at hrr
  rw [← HRV.out, ← HN.out] at hrr
  have HRR := Lib.hid hrr
  have kz := HM3.out.1.box.bz
  rw [← HN.out] at kz
  have q0 := (cell_of_row _ _ 0 _ _ (0, 0) kz).trans rfl
  have q1 := (cell_of_row _ _ 1 _ _ (0, 0) kz).trans rfl
  have q2 := (cell_of_row _ _ 2 _ _ (0, 0) kz).trans rfl
  have q3 := (cell_of_row _ _ 3 _ _ (0, 0) kz).trans rfl
  have q4 := (cell_of_row _ _ 4 _ _ (0, 0) kz).trans rfl
  have k1 := (cell_of_row _ _ 1 _ _ (0, 0) HM3.out.1.box.b1).trans rfl
  have k2 := (cell_of_row _ _ 2 _ _ (0, 0) HM3.out.1.box.b1).trans rfl
  clear hrr kz
  go_wp2_with fail
  refine Calls.mono HRR.out ?_
  rintro e w5 ⟨rfl, b5⟩
  have hst := SBlk.store (w := w5.alloc (.cells Sx.zero.arr 50)) (z := Sx.zero) (heap_alloc_new w5 _) x
  rw [World.setRow_alloc_new, ← zero_arr] at hst
  have hba : Below w5.heap.size w5 (w5.alloc (.cells x.arr 50)) := (Below.refl _ _).alloc (Nat.le_refl _) _
  have HM5 := Lib.hid (And.intro ((HM3.out.1.below b5).below hba) (And.intro ((HM3.out.2.below b5).below hba) (show SBlk (w5.alloc (.cells x.arr 50)) w5.heap.size x from heap_alloc_new w5 _)))
  clear b5 HM3 HRR hba k1 k2 q0 q1 q2 q3 q4
  go_upto_region 7 with (refine wpList_store_val rfl (.tmp 13) (.tmp 33) rfl rfl x.val rfl hst ?_)
  clear hst
  obtain ⟨u2, hu2⟩ : ∃ u, u = w5.heap.size := ⟨_, rfl⟩
  rw [← hu2] at HM5 ⊢
  clear hu2
  revert HM5
  generalize World.alloc w5 _ = w6
  intro HM5
  have HA := Lib.hid (show ∀ W2, Below w6.drew.heap.size w6.drew W2 → SBlk W2 u x ∧ SBlk W2 u2 x from fun W2 hw => by
    have hb2 : Below w6.heap.size w6 W2 := (Below.refl _ w6).drew.trans hw
    exact ⟨HM5.out.2.1.below hb2, HM5.out.2.2.below hb2⟩)
  refine wp_region_noPanic ?_
  refine wp_region_abs 7 108 [
    .is (eV wn),
    .is (.int .i64 (wn : Int)),
    .is x.val,
    .is x.val,
    .is (.bool true),
    .is (eV wn),
    .is (.int .i64 (wn : Int))]
    [35, 36, 37, 38, 39, 8, 9]
    [[], [], [], [], [2, 3], [0], [1]] (by kernel_rfl) (by rfl) rfl rfl (by kernel_rfl) (fun _ _ _ _ h => h.elim) ?_ ?_
  · refine ⟨?_, ?_, ?_, ?_, ?_, ?_, ?_, trivial⟩
    · intro W2 hw K hK
      go_simp
      exact hK _ _ rfl (Below.refl _ _)
    · intro W2 hw K hK
      go_simp
      exact hK _ _ rfl (Below.refl _ _)
    · intro W2 hw K hK
      obtain ⟨a0, _⟩ := HA.out W2 hw
      exact (arm_load (b := u) (off := 0) (.tmp 11) rfl rfl (by kernel_rfl) x.val a0.load (hK _ _ rfl (Below.refl _ _))).out
    · intro W2 hw K hK
      obtain ⟨_, a0⟩ := HA.out W2 hw
      exact (arm_load (b := u2) (off := 0) (.tmp 13) rfl rfl (by kernel_rfl) x.val a0.load (hK _ _ rfl (Below.refl _ _))).out
    · intro W2 hw K hK
      have he1 := eql_sx x x W2
      rw [decide_eq_true rfl] at he1
      have he2 := guard_sx .eql (.tmp 37) (.tmp 38) x x W2
      go_simp
      exact hK _ _ rfl (Below.refl _ _)
    · intro W2 hw K hK
      go_simp
      exact hK _ _ rfl (Below.refl _ _)
    · intro W2 hw K hK
      go_simp
      exact hK _ _ rfl (Below.refl _ _)
  · intro W2 hw2
    simp only [Behind, List.drop, Act.put, List.setIfInBounds_toArray, List.set_cons_zero, List.set_cons_succ]
    have HD := Lib.hid (DMid.mono (HM5.out.1.below ((Below.refl _ w6).drew.trans hw2)) (Nat.le_succ K))
    clear hw2 HA HM5
    go_wp2_with fail
    refine NoPanic.normal ?_
    go_upto_region 22 with fail
    revert HD
    generalize W2 = w6
    intro HD
    have HLEN := Lib.hid HN.out.symm
    have hbx := HD.out.box
    have k0 := hbx.bz
    rw [HLEN.out] at k0
    have k2 := hbx.b2
    have q0 := (cell_of_row _ _ 0 _ _ (0, 0) k0).trans rfl
    have q1 := (cell_of_row _ _ 1 _ _ (0, 0) k0).trans rfl
    have q2 := (cell_of_row _ _ 2 _ _ (0, 0) k0).trans rfl
    have q3 := (cell_of_row _ _ 3 _ _ (0, 0) k0).trans rfl
    have q4 := (cell_of_row _ _ 4 _ _ (0, 0) k0).trans rfl
    have pp0 := (cell_of_row _ _ 0 _ _ (0, 0) k2).trans rfl
    have pp1 := (cell_of_row _ _ 1 _ _ (0, 0) k2).trans rfl
    have pp2 := (cell_of_row _ _ 2 _ _ (0, 0) k2).trans rfl
    have pp3 := (cell_of_row _ _ 3 _ _ (0, 0) k2).trans rfl
    have pp4 := (cell_of_row _ _ 4 _ _ (0, 0) k2).trans rfl
    have f0 := frozen_at k2 0
    have f1 := frozen_at k2 1
    have f2 := frozen_at k2 2
    have f3 := frozen_at k2 3
    have f4 := frozen_at k2 4
    have hz6 := hbx.lt
    have hq1 : ((wn : Int) == (wn : Int)) = true := by simp
    have hq2 : (wn == wn) = true := by simp
    clear hbx k0 k2
    refine wp_region_any (by kernel_rfl) ?_
    change wpAny _ _ _ _ _ _ _ w6.drew
    refine wpAny_take (i := 1) (v := eV wn) rfl (by kernel_rfl) (by kernel_rfl) (by kernel_rfl) (fun _ _ _ h => h) (Or.inl ⟨by rfl, fun w => by go_simp⟩) ?_
    try simp only [Act.put, List.setIfInBounds_toArray, List.set_cons_zero, List.set_cons_succ]
    refine wpAny_take (i := 3) (v := .int .i64 (wn : Int)) rfl (by kernel_rfl) (by kernel_rfl) (by kernel_rfl) (fun _ _ _ h => h) (Or.inl ⟨by rfl, fun w => by go_simp⟩) ?_
    try simp only [Act.put, List.setIfInBounds_toArray, List.set_cons_zero, List.set_cons_succ]
    refine wpAny_ready (rs := [0, 2]) (by kernel_rfl) (by simp) ?_
    refine arms_cons (o := { dst := some 100, op := Op.load 33 (Operand.tmp 4), type := 33, pos := "law.go:96", after := #[], guard := none }) rfl (fun K hK => ?_) (arms_cons (o := { dst := some 102, op := Op.call { callee := Callee.value (Operand.func 12), args := #[Operand.tmp 101], argTypes := #[28] }, type := 3, pos := "law.go:96", after := #[{ on := 1, ground := Ground.data }], guard := none }) rfl (fun K hK => ?_) AllReady.nil)
    · refine arm_of rfl ?_
      go_simp
      refine hK _ _ ?_
      clear hK K
      try simp only [Act.put, List.setIfInBounds_toArray, List.set_cons_zero, List.set_cons_succ]
      refine wpAny_ready (rs := [2]) (by kernel_rfl) (by simp) ?_
      refine arms_cons (o := { dst := some 102, op := Op.call { callee := Callee.value (Operand.func 12), args := #[Operand.tmp 101], argTypes := #[28] }, type := 3, pos := "law.go:96", after := #[{ on := 1, ground := Ground.data }], guard := none }) rfl (fun K hK => ?_) AllReady.nil
      refine arm_of rfl ?_
      go_simp
      refine Calls.mono (num_ev wn _) ?_
      rintro e W9 ⟨rfl, rfl⟩
      refine hK _ _ ?_
      clear hK K
      try simp only [Act.put, List.setIfInBounds_toArray, List.set_cons_zero, List.set_cons_succ]
      refine wpAny_take (i := 4) (v := .bool true) rfl (by kernel_rfl) (by kernel_rfl) (by kernel_rfl) (fun _ _ _ h => h) (Or.inl ⟨by rfl, fun w => by go_simp⟩) ?_
      try simp only [Act.put, List.setIfInBounds_toArray, List.set_cons_zero, List.set_cons_succ]
      refine wpAny_take (i := 5) (v := .bool true) rfl (by kernel_rfl) (by kernel_rfl) (by kernel_rfl) (fun _ _ _ h => h) (Or.inl ⟨by rfl, fun w => by go_simp⟩) ?_
      try simp only [Act.put, List.setIfInBounds_toArray, List.set_cons_zero, List.set_cons_succ]
      refine wpAny_take (i := 6) (v := .bool true) rfl (by kernel_rfl) (by kernel_rfl) (by kernel_rfl) (fun _ _ _ h => h) (Or.inl ⟨by rfl, fun w => by go_simp⟩) ?_
      try simp only [Act.put, List.setIfInBounds_toArray, List.set_cons_zero, List.set_cons_succ]
      refine wpAny_take (i := 7) (v := .bool true) rfl (by kernel_rfl) (by kernel_rfl) (by kernel_rfl) (fun _ _ _ h => h) (Or.inl ⟨by rfl, fun w => by go_simp⟩) ?_
      try simp only [Act.put, List.setIfInBounds_toArray, List.set_cons_zero, List.set_cons_succ]
      refine wpAny_of_list (k := 8) (l := [{ dst := none, op := Op.store 33 (Operand.tmp 6) (Operand.tmp 100), type := 0, pos := "law.go:96", after := #[{ on := 0, ground := Ground.data }, { on := 5, ground := Ground.chain }, { on := 0, ground := Ground.phase }, { on := 1, ground := Ground.textOnly Departure.lateStores }, { on := 2, ground := Ground.textOnly Departure.lateStoresUnsure }, { on := 3, ground := Ground.textOnly Departure.lateStores }, { on := 4, ground := Ground.textOnly Departure.lateStores }, { on := 5, ground := Ground.textOnly Departure.lateStores }, { on := 6, ground := Ground.textOnly Departure.lateStores }, { on := 7, ground := Ground.textOnly Departure.lateStores }], guard := none }, { dst := some 7, op := Op.assign (Operand.tmp 107), type := 4, pos := "law.go:96", after := #[{ on := 7, ground := Ground.data }, { on := 8, ground := Ground.chain }, { on := 0, ground := Ground.phase }, { on := 1, ground := Ground.phase }, { on := 2, ground := Ground.phase }, { on := 3, ground := Ground.phase }, { on := 4, ground := Ground.phase }, { on := 5, ground := Ground.phase }, { on := 6, ground := Ground.phase }, { on := 7, ground := Ground.phase }, { on := 8, ground := Ground.phase }], guard := none }]) rfl rfl (by kernel_rfl) ?_
      go_wp2_with fail
      have HT := Lib.hid (HD.out.fin N HLEN.out _ rfl)
      revert HT
      generalize World.drew _ = w9
      intro HT
      obtain ⟨u, st9, rs9, ch9⟩ := HT.out
      have g0 := (cell_of_row _ _ 0 _ _ (0, 0) u).trans rfl
      have g1 := (cell_of_row _ _ 1 _ _ (0, 0) u).trans rfl
      have g2 := (cell_of_row _ _ 2 _ _ (0, 0) u).trans rfl
      have g3 := (cell_of_row _ _ 3 _ _ (0, 0) u).trans rfl
      have g4 := (cell_of_row _ _ 4 _ _ (0, 0) u).trans rfl
      refine bodyPost_ret (v := .tuple #[.agg #[.slice A N c, .int .i64 (p.steps : Int), .int .i64 left, .bool p.ia, .bool p.gone], .bool true]) (by simp [results, Try.results14, go_sem, g0, g1, g2, g3, g4]) rfl ?_
      refine ⟨F, X, A, c, left, ?_, st9, rs9, HD.out.lf, HD.out.xf, fun k e => ?_, ch9⟩
      · unfold rsV
        rw [HLEN.out]
      · rcases HD.out.x0 k e with e2 | e2
        · exact .inl e2
        · right; have := HZ.out; omega
    · refine arm_of rfl ?_
      go_simp
      refine Calls.mono (num_ev wn _) ?_
      rintro e W9 ⟨rfl, rfl⟩
      refine hK _ _ ?_
      clear hK K
      try simp only [Act.put, List.setIfInBounds_toArray, List.set_cons_zero, List.set_cons_succ]
      refine wpAny_take (i := 4) (v := .bool true) rfl (by kernel_rfl) (by kernel_rfl) (by kernel_rfl) (fun _ _ _ h => h) (Or.inl ⟨by rfl, fun w => by go_simp⟩) ?_
      try simp only [Act.put, List.setIfInBounds_toArray, List.set_cons_zero, List.set_cons_succ]
      refine wpAny_take (i := 5) (v := .bool true) rfl (by kernel_rfl) (by kernel_rfl) (by kernel_rfl) (fun _ _ _ h => h) (Or.inl ⟨by rfl, fun w => by go_simp⟩) ?_
      try simp only [Act.put, List.setIfInBounds_toArray, List.set_cons_zero, List.set_cons_succ]
      refine wpAny_take (i := 6) (v := .bool true) rfl (by kernel_rfl) (by kernel_rfl) (by kernel_rfl) (fun _ _ _ h => h) (Or.inl ⟨by rfl, fun w => by go_simp⟩) ?_
      try simp only [Act.put, List.setIfInBounds_toArray, List.set_cons_zero, List.set_cons_succ]
      refine wpAny_take (i := 7) (v := .bool true) rfl (by kernel_rfl) (by kernel_rfl) (by kernel_rfl) (fun _ _ _ h => h) (Or.inl ⟨by rfl, fun w => by go_simp⟩) ?_
      try simp only [Act.put, List.setIfInBounds_toArray, List.set_cons_zero, List.set_cons_succ]
      refine wpAny_ready (rs := [0]) (by kernel_rfl) (by simp) ?_
      refine arms_cons (o := { dst := some 100, op := Op.load 33 (Operand.tmp 4), type := 33, pos := "law.go:96", after := #[], guard := none }) rfl (fun K hK => ?_) AllReady.nil
      refine arm_of rfl ?_
      go_simp
      refine hK _ _ ?_
      clear hK K
      try simp only [Act.put, List.setIfInBounds_toArray, List.set_cons_zero, List.set_cons_succ]
      refine wpAny_of_list (k := 8) (l := [{ dst := none, op := Op.store 33 (Operand.tmp 6) (Operand.tmp 100), type := 0, pos := "law.go:96", after := #[{ on := 0, ground := Ground.data }, { on := 5, ground := Ground.chain }, { on := 0, ground := Ground.phase }, { on := 1, ground := Ground.textOnly Departure.lateStores }, { on := 2, ground := Ground.textOnly Departure.lateStoresUnsure }, { on := 3, ground := Ground.textOnly Departure.lateStores }, { on := 4, ground := Ground.textOnly Departure.lateStores }, { on := 5, ground := Ground.textOnly Departure.lateStores }, { on := 6, ground := Ground.textOnly Departure.lateStores }, { on := 7, ground := Ground.textOnly Departure.lateStores }], guard := none }, { dst := some 7, op := Op.assign (Operand.tmp 107), type := 4, pos := "law.go:96", after := #[{ on := 7, ground := Ground.data }, { on := 8, ground := Ground.chain }, { on := 0, ground := Ground.phase }, { on := 1, ground := Ground.phase }, { on := 2, ground := Ground.phase }, { on := 3, ground := Ground.phase }, { on := 4, ground := Ground.phase }, { on := 5, ground := Ground.phase }, { on := 6, ground := Ground.phase }, { on := 7, ground := Ground.phase }, { on := 8, ground := Ground.phase }], guard := none }]) rfl rfl (by kernel_rfl) ?_
      go_wp2_with fail
      have HT := Lib.hid (HD.out.fin N HLEN.out _ rfl)
      revert HT
      generalize World.drew _ = w9
      intro HT
      obtain ⟨u, st9, rs9, ch9⟩ := HT.out
      have g0 := (cell_of_row _ _ 0 _ _ (0, 0) u).trans rfl
      have g1 := (cell_of_row _ _ 1 _ _ (0, 0) u).trans rfl
      have g2 := (cell_of_row _ _ 2 _ _ (0, 0) u).trans rfl
      have g3 := (cell_of_row _ _ 3 _ _ (0, 0) u).trans rfl
      have g4 := (cell_of_row _ _ 4 _ _ (0, 0) u).trans rfl
      refine bodyPost_ret (v := .tuple #[.agg #[.slice A N c, .int .i64 (p.steps : Int), .int .i64 left, .bool p.ia, .bool p.gone], .bool true]) (by simp [results, Try.results14, go_sem, g0, g1, g2, g3, g4]) rfl ?_
      refine ⟨F, X, A, c, left, ?_, st9, rs9, HD.out.lf, HD.out.xf, fun k e => ?_, ch9⟩
      · unfold rsV
        rw [HLEN.out]
      · rcases HD.out.x0 k e with e2 | e2
        · exact .inl e2
        · right; have := HZ.out; omega
end Go.Proofs.Ythmebgpleegonaa
