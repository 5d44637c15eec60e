/- DLast: put together. -/
import Derived.Test.YtjmjehhmkjhalaaQb18
/- The writes that wait, from the last on. -/
namespace Go.Proofs.Ytjmjehhmkjhalaa
set_option maxRecDepth 100000
open Go.RowKit

theorem wpListIn_load_val {F : Fence} {n : Nat} {ty : TypeId} {w : World} {b off : Nat} {ops : Array Oper} {rest : List Oper} {o : Oper} {a : Act} {Q : Exit → Act → World → Prop} (hg : o.guard = none) (x : Operand) (ho : o.op = .load ty x)
    (hx : a.eval x = .pointer (some ⟨b, off, none⟩)) (v : Value) (hv : (loadVar ty ⟨b, off, none⟩).run Try.prog w = .ok v w) (h : wpListIn F n Try.prog ops Q rest (a.put o.dst v) w) : wpListIn F n Try.prog ops Q (o :: rest) a w := by
  refine wpListIn_plain hg fun K hK' => ?_
  have hrun : (Instr.loadAt ty (.pointer (some ⟨b, off, none⟩))).run Try.prog w = .ok v w := by
    simp only [Instr.loadAt, Instr.sureAddr, Sem.run_bind, Sem.run_pure, Result.andThen_ok, hv]
  unfold Oper.wpIn
  refine ⟨?_, ?_⟩
  · simp [Oper.about, ho]
  · rw [Oper.semAt_plain F _ _ (by rw [ho]; intro c hc'; cases hc')]
    simp [execOp, ho, hx, hrun, Result.andThen]
    exact hK' _ _ h
theorem wpListIn_store_val {F : Fence} {n : Nat} {ty : TypeId} {w w' : World} {b off : Nat} {ops : Array Oper} {rest : List Oper} {o : Oper} {a : Act} {Q : Exit → Act → World → Prop} (hg : o.guard = none) (x y : Operand) (ho : o.op = .store ty x y)
    (hx : a.eval x = .pointer (some ⟨b, off, none⟩)) (v : Value) (hy : a.eval y = v) (hv : (storeVar ty ⟨b, off, none⟩ v).run Try.prog w = .ok () w') (h : wpListIn F n Try.prog ops Q rest (a.put o.dst undef) w') : wpListIn F n Try.prog ops Q (o :: rest) a w := by
  refine wpListIn_plain hg fun K hK' => ?_
  have hrun : (Instr.storeAt ty (.pointer (some ⟨b, off, none⟩)) v).run Try.prog w = .ok () w' := by
    simp only [Instr.storeAt, Instr.sureAddr, Sem.run_bind, Sem.run_pure, Result.andThen_ok, hv]
  unfold Oper.wpIn
  refine ⟨?_, ?_⟩
  · simp [Oper.about, ho]
  · rw [Oper.semAt_plain F _ _ (by rw [ho]; intro c hc'; cases hc')]
    simp [execOp, ho, hx, hy, hrun, Result.andThen]
    exact hK' _ _ h
/-- What a round is handed. -/
def LastM (l : List Wx) (k : Nat) (v : Value) (_ : Nat) (_ : World) : Prop := v = (l.getD (l.length - 1 - k) ⟨0, Sx.zero⟩).val
set_option maxHeartbeats 4000000 in
theorem last_hands (B b off : Nat) (A : Option Addr) (c : Nat) (O : Nat → Prop) (ws : List Wx) (w : World) (hB : w.cell? ⟨B, 0, none⟩ = some (.pointer (some ⟨b, off, none⟩))) (hb : w.cell? ⟨b, off + 2, none⟩ = some (.slice A ws.length c)) (hr : Rdv w A ws.length 65 (rowV Wx.vals ws)) (hc : ws.length ≤ c) (hn : ws.length ≤ 1000000000)
    (hn0 : ∀ k, O k → k < w.heap.size) (hB0 : O B) (hb0 : O b) (hA0 : ∀ b o, A = some ⟨b, o, none⟩ → O b) :
    Hands Try.prog 152 #[.pointer (some ⟨B, 0, none⟩)] O ws.length (fun _ v => #[v]) (LastM ws) w := by
  intro l J Jx W hW hJ hJx hY h0
  have HS := Lib.hid (fun W' (h : Keeps O W W') => (⟨(World.cell?_of_block (h.2 B hB0)).trans ((hW.cell (p := ⟨B, 0, none⟩) (hn0 B hB0)).trans hB), (World.cell?_of_block (h.2 b hb0)).trans ((hW.cell (p := ⟨b, off + 2, none⟩) (hn0 b hb0)).trans hb), ⟨hr.1, fun hp => by
      obtain ⟨bw, ow, e, hcell⟩ := hr.2 hp
      have hbw := hA0 bw ow e
      exact ⟨bw, ow, e, fun j u hj => (World.cell?_of_block (h.2 bw hbw)).trans ((hW.cell (p := ⟨bw, ow + j, none⟩) (hn0 bw hbw)).trans (hcell j u hj))⟩⟩⟩ :
    W'.cell? ⟨B, 0, none⟩ = some (.pointer (some ⟨b, off, none⟩)) ∧ W'.cell? ⟨b, off + 2, none⟩ = some (.slice A ws.length c) ∧ Rdv W' A ws.length 65 (rowV Wx.vals ws)))
  obtain ⟨n, hnn⟩ : ∃ n, n = ws.length := ⟨_, rfl⟩
  have HN := Lib.hid hnn
  rw [← hnn] at HS hc hn hY ⊢
  have HJ := Lib.hid hJ
  have HY := Lib.hid hY
  have H0 := Lib.hid h0
  obtain ⟨x1, x2, _⟩ := HS.out W (Keeps.refl _ _)
  clear hY hJ hJx hr hB hb hW h0 hnn
  refine callsIn_of_wp Try.func152 rfl trivial ?_ rfl
  simp only [Try.ntmps152, List.size_toArray, List.length_cons, List.length_nil, Nat.reduceAdd, Nat.reduceSub, Array.replicate_succ, Array.replicate_zero, List.push_toArray, List.append_toArray, List.nil_append, List.cons_append]
  gi_wp2_with fail
  gi_loopw [3] (fun i wr => ∃ k : Nat, k ≤ n ∧ i = .int .i64 ((n : Int) - 1 - (k : Int)) ∧ J k wr ∧ Keeps O W wr) (fun i _ => (intOf i + 1).toNat)
  case atStart => exact ⟨0, Nat.zero_le _, by go_num, H0.out, Keeps.refl _ _⟩
  case round =>
    obtain ⟨k, hk, rfl, hJk, hb⟩ := hrel
    have HJK := Lib.hid hJk
    have HBK := Lib.hid hb
    by_cases hlt : k < n
    · obtain ⟨y1, y2, hrd⟩ := HS.out wr hb
      obtain ⟨q, hq⟩ : ∃ q, q = n - 1 - k := ⟨_, rfl⟩
      have e : (n : Int) - 1 - (k : Int) = (q : Int) := by omega
      rw [e]
      have hql : q < ws.length := by rw [← HN.out]; omega
      have hqn : q < n := by omega
      obtain ⟨bw, ow, rfl, hcell⟩ := hrd.2 (by omega)
      obtain ⟨y, hy⟩ : ∃ y, y = ws[q] := ⟨_, rfl⟩
      have hld : At wr bw (ow + q * 65) y.vals := fun r u hr => by
        have hr2 : r < 65 := by
          have := (List.getElem?_eq_some_iff.1 hr).1
          rwa [y.vlen] at this
        have := hcell (q * 65 + r) u ((rowV_get Wx.vals 65 Wx.vlen ws q hql r hr2).trans (by rw [← hy]; exact hr))
        rwa [← Nat.add_assoc] at this
      have HLD := Lib.hid (load_wx hld)
      have hy0 := HY.out k y.val wr wr hlt HJK.out HJK.out (by
        show y.val = _
        rw [← HN.out, ← hq, hy, List.getD_eq_getElem?_getD, List.getElem?_eq_getElem hql]
        rfl)
      have HE := Lib.hid (show (q : Int) - 1 = (n : Int) - 1 - ((k + 1 : Nat) : Int) by omega)
      have hkn : k + q + 1 = n := by omega
      clear x1 x2 hb hJk hrd hcell hld hy e hq
      obtain ⟨fn, tmps, assign, body, hy, hR⟩ := hy0
      gi_wp2_with (first | refine wpListIn_load_val rfl (.tmp 20) rfl rfl y.val HLD.out ?_)
      refine hR.mono ?_
      rintro e W3 (⟨rfl, hJ3, hk3⟩ | ⟨rfl, hJx3⟩)
      · have HJ3 := Lib.hid hJ3
        have HB3 := Lib.hid (HBK.out.trans hk3)
        clear hJ3 hk3
        gi_wp2_with fail
        go_roundw
        case rel => exact ⟨k + 1, by omega, by rw [← HE.out], HJ3.out, HB3.out⟩
        case measure => simp [intOf] <;> omega
      · have HX3 := Lib.hid hJx3
        clear hJx3
        gi_wp2_with fail
        refine bodyPost_ret (results_none rfl _ _ _) rfl ?_
        exact ⟨⟨_, rfl⟩, .inr ⟨k, hlt, HX3.out⟩⟩
    · obtain rfl : k = n := by omega
      clear hb
      gi_wp2_with fail
      go_end0
      exact ⟨⟨_, rfl⟩, .inl HJK.out⟩
set_option maxHeartbeats 1000000 in
theorem last_any (b off : Nat) (w : World) : Calls Try.prog 150 #[.pointer (some ⟨b, off, none⟩)] w fun e w' => ∃ B, e = .returned (.func (.func 152) #[] #[.pointer (some ⟨B, 0, none⟩)]) ∧ w.heap.size ≤ B ∧ w'.cell? ⟨B, 0, none⟩ = some (.pointer (some ⟨b, off, none⟩)) ∧ Below w.heap.size w w' := by
  have HB := Lib.hid (show Below w.heap.size w (w.alloc (.cells #[.pointer (some ⟨b, off, none⟩)] 188)) from (Below.refl _ _).alloc (Nat.le_refl _) _)
  have HX := Lib.hid (show (w.alloc (.cells #[.pointer (some ⟨b, off, none⟩)] 188)).cell? ⟨w.heap.size, 0, none⟩ = some (.pointer (some ⟨b, off, none⟩)) from (cell_of_row _ _ 0 _ _ (0, 0) (heap_alloc_new w _)).trans rfl)
  go_enter Try.func150, Try.ntmps150
  go_wp2_with fail
  go_ret
  exact ⟨w.heap.size, rfl, Nat.le_refl _, HX.out, HB.out⟩
end Go.Proofs.Ytjmjehhmkjhalaa
