/- LSeal2: put together. -/
import Derived.Test.YtjmjehhmkjhalaaQb26
import Derived.Sort.CutIn
import Derived.RegionIn
import Derived.Shelf.Abstract
/- The contract of slab.Seal where the slab is good. -/
namespace Go.Proofs.Ytjmjehhmkjhalaa
set_option maxRecDepth 100000
open Go.RowKit
attribute [local go_sem] Oper.semAt_some

theorem shr_byte (st k : Nat) (_ : k < 6) : (st : Int) / 2 ^ (8 * k) % 256 = ((st / 256 ^ k % 256 : Nat) : Int) := by
  rw [show (256 : Nat) ^ k = 2 ^ (8 * k) by rw [Nat.pow_mul], Int.natCast_emod, Int.natCast_ediv, Int.natCast_pow]
  rfl
theorem Sl.other {w : World} {g : Nat} {a b c : Value} (h : Sl w g a b c) (p : Addr) (v : Value) (hne : g ≠ p.block) : Sl (w.setCell p v) g a b c := (Deep.blk_setCell_other w p v g hne).trans h
theorem SealW.set {w w1 : World} {st kd : Int} {S : Value} {r s : List Nat} (h : SealW w w1 st kd S r s) (k x : Nat) : SealW w (w1.setCell ⟨w.heap.size + 1 + 1, k, none⟩ (.int .u8 (x : Int))) st kd S r (s.set k x) where
  slab := h.slab.other _ _ (by show w.heap.size ≠ w.heap.size + 1 + 1; omega)
  res := h.res.other _ _ (by show w.heap.size + 1 ≠ w.heap.size + 1 + 1; omega)
  sec := h.sec.set k x
  below := h.below.setCell (by show w.heap.size ≤ w.heap.size + 1 + 1; omega) _
theorem SealW.old {w w1 w2 : World} {st kd : Int} {S : Value} {r s : List Nat} (h : SealW w w1 st kd S r s) (hb : Below w1.heap.size w1 w2) : SealW w w2 st kd S r s where
  slab := h.slab.old hb
  res := h.res.old hb
  sec := h.sec.old hb
  below := h.below.trans (hb.mono h.below.size)
theorem wpListIn_copy {F : Fence} {n : Nat} {P : Program} {w w' : World} {ops : Array Oper} {rest : List Oper} {o : Oper} {a : Act} {Q : Exit → Act → World → Prop} {v : Value} (hg : o.guard = none) (d s : Operand) (dT sT : TypeId)
    (ho : o.op = .call { callee := .builtin .copy, args := #[d, s], argTypes := #[dT, sT] }) (u1 u2 : Value) (hd : a.eval d = u1) (hs : a.eval s = u2)
    (hrun : (Builtin.copy_ #[dT, sT] o.type #[u1, u2]).run P w = .ok v w') (h : wpListIn F n P ops Q rest (a.put o.dst v) w') : wpListIn F n P ops Q (o :: rest) a w := by
  refine wpListIn_plain hg fun K hK' => ?_
  unfold Oper.wpIn
  refine ⟨?_, ?_⟩
  · simp [Oper.about, ho, resolve, Target.leads, Sem.run_pure]
  · rw [Oper.semAt_plain F _ _ (by rw [ho]; intro c hc'; cases hc')]
    simp [execOp, ho, resolve, invoke, builtin, hd, hs, hrun, Result.andThen]
    exact hK' _ _ h
theorem wpListIn_load_sec {F : Fence} {n : Nat} {w : World} {ops : Array Oper} {rest : List Oper} {o : Oper} {a : Act} {Q : Exit → Act → World → Prop} (hg : o.guard = none) (x : Operand) (ho : o.op = .load 75 x)
    (g : Nat) (hx : a.eval x = .pointer (some ⟨g, 0, none⟩)) (l : List Nat) (hl : l.length = 64) (hs : Sec w g l) (h : wpListIn F n Try.prog ops Q rest (a.put o.dst (.agg (secV l))) w) : wpListIn F n Try.prog ops Q (o :: rest) a w := by
  refine wpListIn_plain hg fun K hK' => ?_
  have hrun : (Instr.loadAt 75 (.pointer (some ⟨g, 0, none⟩))).run Try.prog w = .ok (.agg (secV l)) w := by
    simp only [Instr.loadAt, Instr.sureAddr, Sem.run_bind, Sem.run_pure, Result.andThen_ok, load_sec hs hl]
  unfold Oper.wpIn
  refine ⟨?_, ?_⟩
  · simp [Oper.about, ho]
  · rw [Oper.semAt_plain F _ _ (by rw [ho]; intro c hc'; cases hc')]
    simp [execOp, ho, hx, hrun, Result.andThen]
    exact hK' _ _ h
/-- The sector with the data, or still without. -/
def dataN (st kd n : Nat) (ds : List Nat) (k : Nat) : List Nat := leN st 6 ++ (kd :: n :: (if k = 0 then noughts 50 else ds ++ noughts (50 - n))) ++ leN st 6
theorem dataN_zero (st kd n : Nat) (ds : List Nat) : dataN st kd n ds 0 = ((midN st 6).set 6 kd).set 7 n := by rw [midN_six]; rfl
theorem dataN_end (st kd n : Nat) (ds : List Nat) (hn : ds.length = n) (h5 : n ≤ 50) : dataN st kd n ds (needN n) = sealN st kd ds := by
  subst hn
  unfold dataN sealN needN
  rcases Nat.eq_zero_or_pos ds.length with h | h
  · have hd : ds = [] := List.eq_nil_of_length_eq_zero h
    subst hd
    rfl
  · rw [if_neg (by omega)]
theorem SealW.turn {w w1 : World} {st kd : Int} {S : Value} {r s : List Nat} (h : SealW w w1 st kd S r s) {l : Nat} {o : Obj} (o' : Obj) (hl : w.heap.size ≤ l) (ho : w1.heap[l]? = some o) (hc : o.isCells = false) : SealW w (w1.putObj l o') st kd S r s := by
  have key : ∀ (g : Nat) (cs : Array Value) (t : TypeId), w1.heap[g]? = some (.cells cs t (0, 0)) → (w1.putObj l o').heap[g]? = some (.cells cs t (0, 0)) := fun g cs t hg =>
    (World.putObj_heap_other (fun e => by subst e; rw [hg] at ho; cases ho; cases hc)).trans hg
  exact ⟨key _ _ _ h.slab, key _ _ _ h.res, key _ _ _ h.sec, h.below.grown (grownBy_putObj' w1 l o') h.below.size (fun k e => by cases e; exact hl)⟩
/-- The data go into the sector. -/
theorem dataN_copy (st kd n : Nat) (ds : List Nat) (hn : ds.length = n) (h5 : n ≤ 50) : ((secV (dataN st kd n ds 0)).toList.take 8 ++ valsB ds ++ (secV (dataN st kd n ds 0)).toList.drop (8 + (valsB ds).length)).toArray = secV (dataN st kd n ds 1) := by
  have e : (dataN st kd n ds 0).take 8 ++ ds ++ (dataN st kd n ds 0).drop (8 + ds.length) = dataN st kd n ds 1 := by
    have h1 : dataN st kd n ds 0 = (leN st 6 ++ [kd, n]) ++ (noughts 50 ++ leN st 6) := by simp [dataN]
    have h2 : dataN st kd n ds 1 = (leN st 6 ++ [kd, n]) ++ (ds ++ noughts (50 - n) ++ leN st 6) := by simp [dataN]
    have h3 : (leN st 6 ++ [kd, n]).length = 8 := by simp [leN_length]
    rw [h1, h2, List.take_append_of_le_length (by omega), List.take_of_length_le (by omega), List.drop_append, h3, List.drop_eq_nil_of_le (by omega), List.nil_append, hn, show 8 + n - 8 = n by omega]
    rw [List.drop_append_of_le_length (by rw [noughts_length]; omega)]
    have h4 : (noughts 50).drop n = noughts (50 - n) := List.drop_replicate
    rw [h4]
    simp
  have e2 := congrArg valsB e
  simp only [valsB_append] at e2
  unfold secV
  rw [← e2, valsB_length]
  simp [valsB, List.map_take, List.map_drop]

/-- The data are copied in. -/
theorem seal_copy {w W : World} {st kd n : Nat} {S : Value} {ds : List Nat} {A : Option Addr} {c : Nat} (h : SealW w W st kd S (noughts 64) (dataN st kd n ds 0)) (hn : ds.length = n) (h5 : n ≤ 50) (hr : Rdv W A n 1 (valsB ds)) (hp : 0 < n) (ty : TypeId) :
    (Builtin.copy_ #[51, 51] ty #[.slice (some ⟨w.heap.size + 1 + 1, 8, none⟩) 50 56, .slice A n c]).run Try.prog W = .ok (goInt n) (W.setRow (w.heap.size + 1 + 1) (secV (dataN st kd n ds 1))) ∧
      SealW w (W.setRow (w.heap.size + 1 + 1) (secV (dataN st kd n ds 1))) st kd S (noughts 64) (dataN st kd n ds 1) := by
  obtain ⟨b, off, rfl, hc⟩ := hr.2 hp
  have hvl : (valsB ds).length = n := by rw [valsB_length, hn]
  have hlen : (dataN st kd n ds 0).length = 64 := by simp [dataN, leN_length, noughts_length]
  have hrun := run_copy_row (P := Try.prog) W 51 51 ty 5 (w.heap.size + 1 + 1) 8 50 56 ⟨b, off, none⟩ n c (secV (dataN st kd n ds 0)) 75 (valsB ds) Try.underlying51 (by kernel_rfl) h.sec (by rw [hvl]; exact (Nat.min_eq_left h5).symm)
    (fun j v hj => by rw [addr_plus]; exact hc j v hj) (by rw [secV_size, hlen, hvl]; omega) (valsB_one _)
  rw [dataN_copy st kd n ds hn h5, hvl] at hrun
  refine ⟨hrun, ⟨?_, ?_, h.sec.put _, below_setRow h.below (by omega) _⟩⟩
  · exact (setRow_other W _ _ _ (by omega)).trans h.slab
  · exact (setRow_other W _ _ _ (by omega)).trans h.res
theorem partM_zero {ds : List Nat} {k : Nat} {v : Value} {z : Nat} {W : World} (h : PartM ds k v z W) (hk : k = 0) (h5 : ds.length ≤ 50) : ∃ A c, v = .slice A ds.length c ∧ Rdv W A ds.length 1 (valsB ds) := by
  subst hk
  obtain ⟨A, c, rfl, hr, _⟩ := h
  have e : partN ds 0 = ds := by unfold partN; rw [Nat.mul_zero, List.drop_zero, List.take_of_length_le h5]
  rw [e] at hr ⊢
  exact ⟨A, c, rfl, hr⟩
theorem PartM.turn {ds : List Nat} {k : Nat} {v : Value} {z : Nat} (y : Nat) : Turns y (PartM ds k v z) := by
  intro W l o o' hl h ho hc
  obtain ⟨A, c, rfl, hr, hn⟩ := h
  have key : ∀ (g : Nat) (cs : Array Value) (t : TypeId), W.heap[g]? = some (.cells cs t (0, 0)) → (W.putObj l o').heap[g]? = some (.cells cs t (0, 0)) := fun g cs t hg =>
    (World.putObj_heap_other (fun e => by subst e; rw [hg] at ho; cases ho; cases hc)).trans hg
  rcases hn with ⟨rfl, h0, rfl⟩ | ⟨b, rfl, h1, h2, h3, h4⟩
  · refine ⟨none, 0, rfl, ⟨hr.1, fun hp => absurd hp (by omega)⟩, .inl ⟨rfl, h0, rfl⟩⟩
  · refine ⟨some ⟨b, 0, none⟩, c, rfl, ⟨hr.1, fun hp => ?_⟩, .inr ⟨b, rfl, h1, Nat.lt_of_lt_of_le h2 (grownBy_putObj' W l o').size, h3, fun hp => ?_⟩⟩
    · obtain ⟨cs, hcs⟩ := h4 hp
      obtain ⟨b', off, e, hcell⟩ := hr.2 hp
      refine ⟨b', off, e, fun j u hj => ?_⟩
      injection e with e
      injection e with e1 e2
      subst e1 e2
      rw [← hcell j u hj]
      exact World.cell?_of_block ((key b cs 5 hcs).trans hcs.symm)
    · obtain ⟨cs, hcs⟩ := h4 hp
      exact ⟨cs, key b cs 5 hcs⟩
theorem keeps_setRow {O : Nat → Prop} {W : World} {g : Nat} {cs : Array Value} (h : ¬ O g) : Keeps O W (W.setRow g cs) :=
  ⟨by simp [World.setRow], fun k hk => setRow_other W g k _ (fun e => h (e ▸ hk))⟩

set_option maxHeartbeats 2000000 in
theorem seal_in (st kd : Nat) (A : Option Addr) (n c : Nat) (ds : List Nat) (w : World) (h1 : 1 ≤ st) (h2 : st ≤ 281474976710655) (h3 : 1 ≤ kd) (h4 : kd ≤ 255) (h5 : n ≤ 50) (hr : Rdv w A n 1 (valsB ds)) (hnil : A = none → c = 0 ∧ n = 0) :
    CallsIn Fence.wide 11 Try.prog 113 #[.agg #[.int .i64 (st : Int), .int .i64 (kd : Int), .slice A n c]] w fun e w' => e = .returned (.tuple #[.agg (secV (sealN st kd ds)), .nilIface]) ∧ Below w.heap.size w w' := by
  have hW := sealW_new w st kd (.slice A n c)
  refine callsIn_of_wp_marks Try.func113 rfl trivial ?_ rfl
  simp only [Try.ntmps113, List.size_toArray, List.length_cons, List.length_nil, Nat.reduceAdd, Nat.reduceSub, Array.replicate_succ, Array.replicate_zero, List.push_toArray, List.append_toArray, List.nil_append, List.cons_append]
  gi_upto_region 2 with (fail)
  rw [zeros_sec]
  obtain ⟨w1, hw1⟩ : ∃ w1, w1 = ((w.alloc (.cells #[.int .i64 (st : Int), .int .i64 (kd : Int), .slice A n c] 208)).alloc (.cells (secV (noughts 64)) 75)).alloc (.cells (secV (noughts 64)) 75) := ⟨_, rfl⟩
  rw [← hw1] at hW ⊢
  clear hw1
  have k0 := hW.slab.c0
  have k1 := hW.slab.c1
  have k2 := hW.slab.c2
  have HW := Lib.hid hW
  have HR := Lib.hid hr
  have HNIL := Lib.hid hnil
  clear hW hr hnil
  have d1 : decide ((st : Int) < 1) = false := decide_eq_false (by omega)
  have d2 : decide (281474976710655 < (st : Int)) = false := decide_eq_false (by omega)
  have d3 : decide ((kd : Int) < 1) = false := decide_eq_false (by omega)
  have d4 : decide (255 < (kd : Int)) = false := decide_eq_false (by omega)
  gi_wp2_with fail
  clear d1 d2 d3 d4 k0 k1 k2
  gi_loopw [5, 6, 35] (fun _ _ i wr => ∃ k : Nat, k ≤ 6 ∧ i = .int .i64 (k : Int) ∧ SealW w wr st kd (.slice A n c) (noughts 64) (midN st k)) (fun _ _ i _ => 6 - (intOf i).toNat)
  case atStart => exact ⟨0, by omega, rfl, by rw [midN_zero]; exact HW.out⟩
  case round =>
    obtain ⟨k, hk, rfl, hw⟩ := hrel
    by_cases hlt : k < 6
    · have k0 := hw.slab.c0
      have hml := midN_length st k (by omega)
      have m1 := hw.sec.cell k (by omega)
      have f1 := hw.sec.frozen k
      have es := shr_byte st k hlt
      obtain ⟨x, hx⟩ : ∃ x, x = st / 256 ^ k % 256 := ⟨_, rfl⟩
      rw [← hx] at es
      have hx256 : x < 256 := by omega
      have m2 := (hw.sec.set k x).cell (58 + k) (by rw [List.length_set]; omega)
      have f2 := (hw.sec.set k x).frozen (58 + k)
      obtain ⟨y1, hy1⟩ : ∃ y1, y1 = (midN st k).getD k 0 := ⟨_, rfl⟩
      obtain ⟨y2, hy2⟩ : ∃ y2, y2 = ((midN st k).set k x).getD (58 + k) 0 := ⟨_, rfl⟩
      rw [← hy1] at m1
      rw [← hy2] at m2
      have HX := Lib.hid hx
      have HW2 := Lib.hid hw
      clear hml hx hw hy1 hy2
      gi_wp2_with fail
      refine ⟨⟨k + 1, by omega, by go_num, ?_⟩, by simp [intOf]; omega⟩
      have h := (HW2.out.set k x).set (58 + k) x
      rw [HX.out, midN_set st k hlt] at h
      rw [HX.out]
      exact h
    · obtain rfl : k = 6 := by omega
      have k1 := hw.slab.c1
      have k2 := hw.slab.c2
      have hml := midN_length st 6 (by omega)
      have m1 := hw.sec.cell 6 (by omega)
      have f1 := hw.sec.frozen 6
      have m2 := (hw.sec.set 6 kd).cell 7 (by rw [List.length_set]; omega)
      have f2 := (hw.sec.set 6 kd).frozen 7
      have m3 := hw.sec.cell 7 (by omega)
      have f3 := hw.sec.frozen 7
      have m4 := (hw.sec.set 7 n).cell 6 (by rw [List.length_set]; omega)
      have f4 := (hw.sec.set 7 n).frozen 6
      obtain ⟨y1, hy1⟩ : ∃ y1, y1 = (midN st 6).getD 6 0 := ⟨_, rfl⟩
      obtain ⟨y2, hy2⟩ : ∃ y2, y2 = ((midN st 6).set 6 kd).getD 7 0 := ⟨_, rfl⟩
      obtain ⟨y3, hy3⟩ : ∃ y3, y3 = (midN st 6).getD 7 0 := ⟨_, rfl⟩
      obtain ⟨y4, hy4⟩ : ∃ y4, y4 = ((midN st 6).set 7 n).getD 6 0 := ⟨_, rfl⟩
      rw [← hy1] at m1
      rw [← hy2] at m2
      rw [← hy3] at m3
      rw [← hy4] at m4
      have HW2 := Lib.hid hw
      have e1 : IntKind.u8.wrap (kd : Int) = (kd : Int) := IntWalk.u8_in _ (by omega)
      have e2 : IntKind.u8.wrap (n : Int) = (n : Int) := IntWalk.u8_in _ (by omega)
      clear hml hw hy1 hy2 hy3 hy4 hk hlt
      gi_wp2_with fail
      gi_region
      have HW3 := Lib.hid (show SealW w ((wr.setCell ⟨w.heap.size + 1 + 1, 6, none⟩ (.int .u8 (kd : Int))).setCell ⟨w.heap.size + 1 + 1, 7, none⟩ (.int .u8 (n : Int))).drew st kd (.slice A n c) (noughts 64) (dataN st kd n ds 0) by
        rw [dataN_zero]
        have h := (HW2.out.set 6 kd).set 7 n
        exact ⟨h.slab, h.res, h.sec, h.below.drew⟩)
      obtain ⟨w3, hw3⟩ : ∃ w3, w3 = ((wr.setCell ⟨w.heap.size + 1 + 1, 6, none⟩ (.int .u8 (kd : Int))).setCell ⟨w.heap.size + 1 + 1, 7, none⟩ (.int .u8 (n : Int))).drew := ⟨_, rfl⟩
      rw [← hw3] at HW3 ⊢
      have k23 := HW3.out.slab.c2
      clear hw3 m1 m2 m3 m4 f1 f2 f3 f4 e1 e2 k1 k2 HW2 HW
      have HR3 := Lib.hid (HR.out.ext (stays_b HW3.out.below))
      gi_wp2_with fail
      refine ⟨trivial, ?_⟩
      refine (callsIn_wide.2 (parts_any A n c ds w3 HR3.out HNIL.out (by omega))).mono ?_
      rintro e w5 ⟨B, rfl, A', c', hbx, hr5, hna, hB, hb5⟩
      have HW5 := Lib.hid (HW3.out.old hb5)
      have HBX := Lib.hid hbx
      have HR5 := Lib.hid hr5
      have HNA := Lib.hid hna
      clear hbx hr5 hna hb5
      gi_wp2_with fail
      have hlen : ds.length = n := by have := HR5.out.1; rw [valsB_length] at this; omega
      have HLEN := Lib.hid hlen
      have hsz5 := HW5.out.sec.lt
      have hN : needN n ≤ 1 := by unfold needN; omega
      clear hlen k23
      refine wp_range_hands (w0 := w5) (O := fun k => w3.heap.size ≤ k ∧ k < w5.heap.size) (N := needN n) (M := PartM ds) (gf := 138) (lb := #[.pointer (some ⟨B, 0, none⟩)]) (enc := fun k v => #[.int .i64 (k : Int), v]) rfl (enters_of Try.func138 (by kernel_rfl) rfl)
        (parts_hands B A' n c' _ ds w5 HBX.out HR5.out (by omega) ?hc (fun _ h => h.2) ⟨hB, (Array.getElem?_eq_some_iff.1 HBX.out).1⟩ ?hA) (Below.refl _ _) (fun _ h => h.2) (fun _ _ => rfl) (fun k v z => PartM.turn _)
        (fun k W => SealW w W st kd (.slice A n c) (noughts 64) (dataN st kd n ds k)) (fun _ _ _ => False) (fun k W W' h hb => h.old hb) (fun k W l o o' hl h ho hc => h.turn o' (by omega) ho hc) (fun _ _ _ _ h _ => h.elim) (fun _ _ _ _ _ _ _ h _ _ => h.elim) HW5.out ?round ?done ?stop
      case hc =>
        rcases HNA.out with ⟨_, h, _⟩ | ⟨b, _, _, _, h, _⟩
        · omega
        · exact h
      case hA =>
        intro b o e
        rcases HNA.out with ⟨h, _⟩ | ⟨b', e', h1, h2, _⟩
        · rw [h] at e; cases e
        · rw [e'] at e
          injection e with e
          injection e with e1 e2
          subst e1
          exact ⟨h1, h2⟩
      case round =>
        intro l k v W0 W W2 hk _ hi hm K hK
        obtain rfl : k = 0 := by omega
        obtain ⟨A2, c2, rfl, hr2⟩ := partM_zero hm rfl (by rw [HLEN.out]; exact h5)
        rw [HLEN.out] at hr2 ⊢
        obtain ⟨hrun, hw2⟩ := seal_copy (c := c2) hi HLEN.out h5 hr2 (by unfold needN at hk; omega) 3
        have HRUN := Lib.hid hrun
        have HW6 := Lib.hid hw2
        have HI := Lib.hid hi
        have hsl := fun w' => slice_sec w' (w.heap.size + 1 + 1) 8 58 8 58 rfl rfl (by omega) (by omega)
        clear hrun hw2 hr2 hm hi
        gi_wp2_with (first | refine wpListIn_copy rfl (.tmp 66) (.tmp 67) 51 51 rfl _ _ rfl rfl HRUN.out ?_)
        have h3 := HW3.out.sec.lt
        exact ⟨keepsOthers_setRow HI.out.sec, keeps_setRow (fun h => by have := h.1; omega), HW6.out⟩
      case done =>
        intro D W hi hD hK
        rw [dataN_end st kd n ds HLEN.out h5] at hi
        have hsl : (sealN st kd ds).length = 64 := sealN_length st kd ds (by rw [HLEN.out]; exact h5)
        have HSL := Lib.hid hsl
        have HI := Lib.hid hi
        have HK := Lib.hid hK
        have hst := store_sec hi.res noughts64 hsl
        have hsz : (secV (sealN st kd ds)).size = 64 := by rw [secV_size, hsl]
        clear hsl hi hK
        gi_wp2_with (first | refine wpListIn_load_sec rfl (.tmp 4) rfl (w.heap.size + 1 + 1) rfl (sealN st kd ds) HSL.out HI.out.sec ?_)
        have hp := HI.out.put (sealN st kd ds)
        have hKD : (W.setRow (w.heap.size + 1) (secV (sealN st kd ds))).heap[D]? = some (.deferred (some [])) := (setRow_other W _ D _ (by omega)).trans HK.out
        refine ⟨by simp, .inl ⟨D, _, rfl, run_takeDeferred hKD, ?_⟩⟩
        have hs2 : Sec ((W.setRow (w.heap.size + 1) (secV (sealN st kd ds))).putObj D (.deferred none)) (w.heap.size + 1) (sealN st kd ds) := (World.putObj_heap_other (by omega)).trans hp.1
        exact ⟨_, res37 hs2 HSL.out _ rfl, rfl, hp.2.grown (grownBy_putObj' _ D (.deferred none)) hp.2.size (fun k e => by cases e; omega)⟩
      case stop => exact fun _ _ _ _ _ h => h.elim
theorem seal_ok (st kd : Nat) (A : Option Addr) (n c : Nat) (ds : List Nat) (w : World) (h1 : 1 ≤ st) (h2 : st ≤ 281474976710655) (h3 : 1 ≤ kd) (h4 : kd ≤ 255) (h5 : n ≤ 50) (hr : Rdv w A n 1 (valsB ds)) (hnil : A = none → c = 0 ∧ n = 0) :
    Calls Try.prog 113 #[.agg #[.int .i64 (st : Int), .int .i64 (kd : Int), .slice A n c]] w fun e w' => e = .returned (.tuple #[.agg (secV (sealN st kd ds)), .nilIface]) ∧ Below w.heap.size w w' :=
  callsIn_wide.1 (seal_in st kd A n c ds w h1 h2 h3 h4 h5 hr hnil)
end Go.Proofs.Ytjmjehhmkjhalaa
