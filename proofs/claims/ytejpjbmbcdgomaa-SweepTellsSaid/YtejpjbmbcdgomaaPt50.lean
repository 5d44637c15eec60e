/- VTlM: put together. -/
import Derived.Test.YtejpjbmbcdgomaaPt43
import Derived.Test.YtejpjbmbcdgomaaPt49
/- SweepTells: what stands between two acts. -/
namespace Go.Proofs.Ytejpjbmbcdgomaa
set_option maxRecDepth 100000
open Go.RowKit

section
variable {X : Nat → Prop} {w wr w1 : World} {xb sb : Nat} {G G' : Nat → Prop} {ts ts' : Tb} {last last' ct ck ct' ck' : Int} {NS NS' : List Nt} {T T' : List En} {d d' : Bool}
theorem SwI.box (h : SwI X w wr xb sb G ts last ct ck NS T d) {p j : Nat} {u : Value} (hp : X p) (hw : w.heap.size ≤ p) : SwI X w (wr.setCell ⟨p, j, none⟩ u) xb sb G ts last ct ck NS T d := by
  obtain ⟨so, nv, tv, h1, h2, h3, h4⟩ := h.sw
  obtain ⟨x1, x2, x3⟩ := h.x p hp
  refine ⟨h.b.setCell (p := ⟨p, j, none⟩) hw u, h.m.keep fun q e => heap_ne _ _ _ _ fun e3 => x2 (e3 ▸ e), h.low, fun q e => by rw [World.size_setCell]; exact h.x q e, ⟨so, nv, tv, (heap_ne _ _ _ _ x3.symm).trans h1, fun e => ⟨(h2 e).1, (h2 e).2.1.keep fun q e2 => heap_ne _ _ _ _ fun e3 => ((h2 e).2.2 q e2).2.2 (e3 ▸ hp), (h2 e).2.2⟩, own_same h3 fun q e => heap_ne _ _ _ _ fun e3 => (h4 q e).2 (e3 ▸ hp), h4⟩, h.up⟩
end
/-- What stands between two acts: the sweep and its store, the document's two boxes, the text that is wanted. -/
structure TlM (X : Nat → Prop) (w wr : World) (xb sb p6 p9 : Nat) (AW : Option Addr) (PB : List Nat) (G : Nat → Prop) (ts : Tb) (last ct ck : Int) (NS : List Nt) (T : List En) (d : Bool)
    (AE : Option Addr) (cE : Nat) (EM : List En) (lastM : Int) (A : Option Addr) (c : Nat) (KS : List (Int × Int)) (yt yk : Int) (b dY : Bool) : Prop where
  s : SwI X w wr xb sb G ts last ct ck NS T d
  m6 : wr.heap[p6]? = some (.cells #[.slice AE EM.length cE, .int .i64 lastM] 31 (0, 0))
  y9 : wr.heap[p9]? = some (.cells #[.slice A KS.length c, .int .i64 yt, .int .i64 yk, .bool b, .bool dY] 83 (0, 0))
  rE : Ens wr AE EM
  rK : Kys wr A KS
  rW : Rdv wr AW PB.length 1 (valsB PB)
  cap : A = none → c = 0
  x6 : X p6 ∧ w.heap.size ≤ p6
  x9 : X p9 ∧ w.heap.size ≤ p9 ∧ p9 ≠ p6
  xE : 0 < EM.length → ∀ b o, AE = some ⟨b, o, none⟩ → X b ∧ b ≠ p6 ∧ b ≠ p9
  xK : 0 < KS.length → ∀ b o, A = some ⟨b, o, none⟩ → X b ∧ b ≠ p6 ∧ b ≠ p9
  xW : ∀ b o, AW = some ⟨b, o, none⟩ → X b ∧ b ≠ p6 ∧ b ≠ p9
section
variable {X X' : Nat → Prop} {w wr w1 : World} {xb sb p6 p9 : Nat} {AW : Option Addr} {PB : List Nat} {G G' : Nat → Prop} {ts ts' : Tb} {last last' ct ck ct' ck' : Int} {NS NS' : List Nt} {T T' : List En} {d d' : Bool}
  {AE AE' : Option Addr} {cE cE' : Nat} {EM EM' : List En} {lastM lastM' : Int} {A A' : Option Addr} {c c' : Nat} {KS KS' : List (Int × Int)} {yt yk yt' yk' : Int} {b b' dY dY' : Bool}
theorem TlM.spare (h : TlM X w wr xb sb p6 p9 AW PB G ts last ct ck NS T d AE cE EM lastM A c KS yt yk b dY) (hs : SwI X w w1 xb sb G' ts' last' ct' ck' NS' T' d') (hp : Spare X wr w1) : TlM X w w1 xb sb p6 p9 AW PB G' ts' last' ct' ck' NS' T' d' AE cE EM lastM A c KS yt yk b dY :=
  ⟨hs, (hp p6 h.x6.1).trans h.m6, (hp p9 h.x9.1).trans h.y9, RowAt.same0 h.rE fun h0 b o e => hp b (h.xE h0 b o e).1, RowAt.same0 h.rK fun h0 b o e => hp b (h.xK h0 b o e).1, Rdv.same h.rW fun b o e => hp b (h.xW b o e).1, h.cap, h.x6, h.x9, h.xE, h.xK, h.xW⟩
theorem TlM.mono (h : TlM X w wr xb sb p6 p9 AW PB G ts last ct ck NS T d AE cE EM lastM A c KS yt yk b dY) (hs : SwI X' w wr xb sb G ts last ct ck NS T d) (hx : ∀ q, X q → X' q) : TlM X' w wr xb sb p6 p9 AW PB G ts last ct ck NS T d AE cE EM lastM A c KS yt yk b dY :=
  ⟨hs, h.m6, h.y9, h.rE, h.rK, h.rW, h.cap, ⟨hx _ h.x6.1, h.x6.2⟩, ⟨hx _ h.x9.1, h.x9.2⟩, fun h0 b o e => ⟨hx _ (h.xE h0 b o e).1, (h.xE h0 b o e).2⟩, fun h0 b o e => ⟨hx _ (h.xK h0 b o e).1, (h.xK h0 b o e).2⟩, fun b o e => ⟨hx _ (h.xW b o e).1, (h.xW b o e).2⟩⟩
theorem TlM.later (h : TlM X w wr xb sb p6 p9 AW PB G ts last ct ck NS T d AE cE EM lastM A c KS yt yk b dY) (hb : Below wr.heap.size wr w1) : TlM (fun q => X q ∨ (wr.heap.size ≤ q ∧ q < w1.heap.size)) w w1 xb sb p6 p9 AW PB G ts last ct ck NS T d AE cE EM lastM A c KS yt yk b dY := by
  obtain ⟨h1, h2⟩ := h.s.later hb
  exact (h.spare (h1.mono fun q e => .inl e) h2).mono h1 fun q e => .inl e
theorem TlM.set6 (h : TlM X w wr xb sb p6 p9 AW PB G ts last ct ck NS T d AE cE EM lastM A c KS yt yk b dY) (hE : Ens wr AE' EM') (hx : 0 < EM'.length → ∀ b o, AE' = some ⟨b, o, none⟩ → X b ∧ b ≠ p6 ∧ b ≠ p9) :
    TlM X w ((wr.setCell ⟨p6, 0, none⟩ (.slice AE' EM'.length cE')).setCell ⟨p6, 1, none⟩ (.int .i64 lastM')) xb sb p6 p9 AW PB G ts last ct ck NS T d AE' cE' EM' lastM' A c KS yt yk b dY :=
  ⟨(h.s.box h.x6.1 h.x6.2).box h.x6.1 h.x6.2, (heap_set _ p6 1 _ (heap_set wr p6 0 _ h.m6)).trans rfl, (heap_ne _ _ _ _ h.x9.2.2).trans ((heap_ne _ _ _ _ h.x9.2.2).trans h.y9),
   RowAt.same0 hE fun h0 b o e => (heap_ne _ _ _ _ (hx h0 b o e).2.1).trans (heap_ne _ _ _ _ (hx h0 b o e).2.1), RowAt.same0 h.rK fun h0 b o e => (heap_ne _ _ _ _ (h.xK h0 b o e).2.1).trans (heap_ne _ _ _ _ (h.xK h0 b o e).2.1), Rdv.same h.rW fun b o e => (heap_ne _ _ _ _ (h.xW b o e).2.1).trans (heap_ne _ _ _ _ (h.xW b o e).2.1), h.cap, h.x6, h.x9, hx, h.xK, h.xW⟩
theorem TlM.set9 (h : TlM X w wr xb sb p6 p9 AW PB G ts last ct ck NS T d AE cE EM lastM A c KS yt yk b dY) (hK : Kys wr A' KS') (hc : A' = none → c' = 0) (hx : 0 < KS'.length → ∀ b o, A' = some ⟨b, o, none⟩ → X b ∧ b ≠ p6 ∧ b ≠ p9) :
    TlM X w (((((wr.setCell ⟨p9, 0, none⟩ (.slice A' KS'.length c')).setCell ⟨p9, 1, none⟩ (.int .i64 yt')).setCell ⟨p9, 2, none⟩ (.int .i64 yk')).setCell ⟨p9, 3, none⟩ (.bool b')).setCell ⟨p9, 4, none⟩ (.bool dY')) xb sb p6 p9 AW PB G ts last ct ck NS T d AE cE EM lastM A' c' KS' yt' yk' b' dY' := by
  have k5 : ∀ {q : Nat}, q ≠ p9 → (((((wr.setCell ⟨p9, 0, none⟩ (.slice A' KS'.length c')).setCell ⟨p9, 1, none⟩ (.int .i64 yt')).setCell ⟨p9, 2, none⟩ (.int .i64 yk')).setCell ⟨p9, 3, none⟩ (.bool b')).setCell ⟨p9, 4, none⟩ (.bool dY')).heap[q]? = wr.heap[q]? := fun {q} e =>
    (heap_ne _ _ _ _ e).trans ((heap_ne _ _ _ _ e).trans ((heap_ne _ _ _ _ e).trans ((heap_ne _ _ _ _ e).trans (heap_ne _ _ _ _ e))))
  exact ⟨((((h.s.box h.x9.1 h.x9.2.1).box h.x9.1 h.x9.2.1).box h.x9.1 h.x9.2.1).box h.x9.1 h.x9.2.1).box h.x9.1 h.x9.2.1, (k5 h.x9.2.2.symm).trans h.m6, set5c _ _ _ _ _ h.y9,
   RowAt.same0 h.rE fun h0 b o e => k5 (h.xE h0 b o e).2.2, RowAt.same0 hK fun h0 b o e => k5 (hx h0 b o e).2.2, Rdv.same h.rW fun b o e => k5 (h.xW b o e).2.2, hc, h.x6, h.x9, h.xE, hx, h.xW⟩
theorem TlM.at6 (h : TlM X w wr xb sb p6 p9 AW PB G ts last ct ck NS T d AE cE EM lastM A c KS yt yk b dY) : wr.cell? ⟨p6, 0, none⟩ = some (.slice AE EM.length cE) ∧ wr.cell? ⟨p6, 1, none⟩ = some (.int .i64 lastM) :=
  ⟨by rw [cell_of_row _ _ 0 _ _ _ h.m6]; rfl, by rw [cell_of_row _ _ 1 _ _ _ h.m6]; rfl⟩
theorem TlM.at9 (h : TlM X w wr xb sb p6 p9 AW PB G ts last ct ck NS T d AE cE EM lastM A c KS yt yk b dY) : wr.cell? ⟨p9, 0, none⟩ = some (.slice A KS.length c) ∧ wr.cell? ⟨p9, 1, none⟩ = some (.int .i64 yt) ∧ wr.cell? ⟨p9, 2, none⟩ = some (.int .i64 yk) ∧ wr.cell? ⟨p9, 3, none⟩ = some (.bool b) ∧ wr.cell? ⟨p9, 4, none⟩ = some (.bool dY) :=
  ⟨by rw [cell_of_row _ _ 0 _ _ _ h.y9]; rfl, by rw [cell_of_row _ _ 1 _ _ _ h.y9]; rfl, by rw [cell_of_row _ _ 2 _ _ _ h.y9]; rfl, by rw [cell_of_row _ _ 3 _ _ _ h.y9]; rfl, by rw [cell_of_row _ _ 4 _ _ _ h.y9]; rfl⟩
end
/-- An act of the law: writes where they lie, a step. -/
structure Oz where
  A : Option Addr
  c : Nat
  ws : List Wr
  st : Int
def Oz.vals (o : Oz) : List Value := [.slice o.A o.ws.length o.c, .int .i64 o.st]
theorem Oz.vlen (o : Oz) : o.vals.length = 2 := rfl
structure OzOk (W : World) (o : Oz) : Prop where
  row : Wrs W o.A o.ws
  nums : ∀ x ∈ o.ws, WrOk x
  big : o.ws.length ≤ 9223372036854775807
  num : Fits o.st
  nil : o.A = none → o.c = 0
theorem OzOk.below {W W' : World} {o : Oz} (h : OzOk W o) (hb : Below W.heap.size W W') : OzOk W' o := ⟨RowAt.below h.row hb, h.nums, h.big, h.num, h.nil⟩
structure Ozs (W : World) (A : Option Addr) (os : List Oz) : Prop where
  row : RowAt Oz.vals 2 W A os.length os
  ok : ∀ o ∈ os, OzOk W o
  big : os.length ≤ 9223372036854775807
theorem Ozs.below {W W' : World} {A : Option Addr} {os : List Oz} (h : Ozs W A os) (hb : Below W.heap.size W W') : Ozs W' A os := ⟨RowAt.below h.row hb, fun o ho => (h.ok o ho).below hb, h.big⟩
theorem Ozs.cell {W : World} {A : Option Addr} {os : List Oz} (h : Ozs W A os) (hn : 0 < os.length) : ∃ b off, A = some ⟨b, off, none⟩ ∧ ∀ q (hq : q < os.length), W.cell? ⟨b, off + q * 2, none⟩ = some (.slice os[q].A os[q].ws.length os[q].c) ∧ W.cell? ⟨b, off + q * 2 + 1, none⟩ = some (.int .i64 os[q].st) := by
  obtain ⟨b, off, e, hc⟩ := RowAt.cells h.row Oz.vlen hn
  exact ⟨b, off, e, fun q hq => ⟨hc q hq 0 _ (by omega) rfl, hc q hq 1 _ (by omega) rfl⟩⟩
/-- More than is played? -/
def longO (i : Nat) (o : Oz) : Bool := decide (60 < i) || decide (20 < o.ws.length) || decide (200 < o.st)
def longS (n : Nat) (os : List Oz) : Bool := decide (60 < n) || (List.range os.length).any fun i => match os[i]? with | some o => longO i o | none => false
theorem longS_false {n : Nat} {os : List Oz} (h : longS n os = false) : n ≤ 60 ∧ os.length ≤ 61 ∧ ∀ o ∈ os, o.ws.length ≤ 20 ∧ o.st ≤ 200 := by
  unfold longS at h
  rw [Bool.or_eq_false_iff, List.any_eq_false] at h
  have h1 : ¬ 60 < n := by simpa using h.1
  have key : ∀ (i : Nat) (hi : i < os.length), i ≤ 60 ∧ os[i].ws.length ≤ 20 ∧ os[i].st ≤ 200 := fun i hi => by
    have h2 := h.2 i (List.mem_range.2 hi)
    rw [List.getElem?_eq_getElem hi] at h2
    unfold longO at h2
    simp only [Bool.or_eq_true, decide_eq_true_eq] at h2
    omega
  refine ⟨by omega, ?_, fun o ho => ?_⟩
  · rcases Nat.lt_or_ge 61 os.length with h3 | h3
    · have := key 61 h3; omega
    · exact h3
  · obtain ⟨i, hi, rfl⟩ := List.mem_iff_getElem.1 ho
    exact (key i hi).2
set_option maxHeartbeats 4000000 in
theorem long18_any {w : World} {A B : Option Addr} {n c cb : Nat} {os : List Oz} (h : Ozs w B os) : Calls Try.prog 35 #[.slice A n c, .slice B os.length cb] w fun e w' => e = .returned (.bool (longS n os)) ∧ Below w.heap.size w w' := by
  have HH := Lib.hid h
  obtain ⟨m, hm⟩ : ∃ m, m = os.length := ⟨_, rfl⟩
  obtain ⟨R, hR⟩ : ∃ R, R = longS n os := ⟨_, rfl⟩
  have HM := Lib.hid (And.intro hm hR)
  have hmb : m ≤ 9223372036854775807 := by rw [hm]; exact h.big
  rw [← hm, ← hR]
  clear h hm hR
  by_cases hn : 60 < n
  · have d1 : (60 : Int) < (n : Int) := by omega
    have HR : Hid (R = true) := Lib.hid (by rw [HM.out.2]; unfold longS; rw [decide_eq_true hn]; rfl)
    clear hn
    go_enter Try.func35, Try.ntmps35
    go_wp2_with fail
    go_ret
    exact ⟨by rw [HR.out]; rfl, Below.refl _ _⟩
  · have d1 : ¬ (60 : Int) < (n : Int) := by omega
    have HNN := Lib.hid hn
    clear hn
    go_enter Try.func35, Try.ntmps35
    go_wp2_with fail
    go_loopw [5, 6, 12, 13, 14, 15, 16, 17, 18, 19, 20, 21, 22, 23, 24, 25, 26, 27, 28, 29, 30] (fun _ _ ix _ _ _ _ _ _ _ _ _ _ _ _ _ _ _ _ _ _ wr => ∃ z : Nat, ix = .int .i64 (z : Int) ∧ z ≤ m ∧ (∀ i (hi : i < os.length), i < z → longO i os[i] = false) ∧ Below w.heap.size w wr) (fun _ _ ix _ _ _ _ _ _ _ _ _ _ _ _ _ _ _ _ _ _ wr => m - (intOf ix).toNat)
    case atStart => exact ⟨0, rfl, Nat.zero_le _, (fun i _ h => absurd h (Nat.not_lt_zero _)), Below.refl _ _⟩
    case round =>
      obtain ⟨z, rfl, hz, hall, hb⟩ := hrel
      have HI := Lib.hid (And.intro hz (And.intro hall hb))
      clear hz hall hb
      by_cases hlt : z < m
      · have hzl : z < os.length := by rw [← HM.out.1]; exact hlt
        obtain ⟨bo, oo, rfl, hc⟩ := Ozs.cell (HH.out.below HI.out.2.2) (by omega)
        obtain ⟨y0, y1⟩ := hc z hzl
        obtain ⟨o, ho⟩ : ∃ o, o = os[z] := ⟨_, rfl⟩
        rw [← ho] at y0 y1
        obtain ⟨k, hk⟩ : ∃ k, k = o.ws.length := ⟨_, rfl⟩
        obtain ⟨st, hst⟩ : ∃ st, st = o.st := ⟨_, rfl⟩
        rw [← hk] at y0
        rw [← hst] at y1
        have HLO : Hid (longO z os[z] = (decide (60 < z) || decide (20 < k) || decide (200 < st))) := Lib.hid (by rw [← ho, hk, hst]; rfl)
        have HTR : Hid (longO z os[z] = true → R = true) := Lib.hid fun e => by
          rw [HM.out.2]
          unfold longS
          rw [Bool.or_eq_true, List.any_eq_true]
          exact .inr ⟨z, List.mem_range.2 hzl, by rw [List.getElem?_eq_getElem hzl]; exact e⟩
        have HNX : Hid (longO z os[z] = false → ∀ i (hi : i < os.length), i < z + 1 → longO i os[i] = false) := Lib.hid fun e i hi h2 => by
          by_cases e2 : i = z
          · subst e2; exact e
          · exact HI.out.2.1 i hi (by omega)
        have HBA : Hid (∀ ob, Below w.heap.size w (wr.alloc ob)) := Lib.hid fun ob => HI.out.2.2.alloc HI.out.2.2.size ob
        clear hc ho hk hst
        by_cases q1 : 60 < z
        · have e1 : (60 : Int) < (z : Int) := by omega
          have HF : Hid (R = true) := Lib.hid (HTR.out (by rw [HLO.out, decide_eq_true q1]; rfl))
          clear q1
          go_wp2_with fail
          go_ret
          exact ⟨by rw [HF.out]; rfl, HBA.out _⟩
        · have e1 : ¬ (60 : Int) < (z : Int) := by omega
          by_cases q2 : 20 < k
          · have e2 : (20 : Int) < (k : Int) := by omega
            have HF : Hid (R = true) := Lib.hid (HTR.out (by rw [HLO.out, decide_eq_true q2]; simp))
            clear q1 q2
            go_wp2_with fail
            go_ret
            exact ⟨by rw [HF.out]; rfl, HBA.out _⟩
          · have e2 : ¬ (20 : Int) < (k : Int) := by omega
            by_cases q3 : 200 < st
            · have HF : Hid (R = true) := Lib.hid (HTR.out (by rw [HLO.out, decide_eq_true q3]; simp))
              clear q1 q2
              go_wp2_with fail
              go_ret
              exact ⟨by rw [HF.out]; rfl, HBA.out _⟩
            · have HF : Hid (longO z os[z] = false) := Lib.hid (by rw [HLO.out, decide_eq_false q1, decide_eq_false q2, decide_eq_false q3]; rfl)
              clear q1 q2
              go_wp2_with fail
              go_roundw
              case rel => exact ⟨z + 1, by go_num, by omega, HNX.out HF.out, HBA.out _⟩
              case measure => simp [intOf]; omega
      · obtain rfl : m = z := by have := HI.out.1; omega
        have HF : Hid (R = false) := Lib.hid (by
          rw [HM.out.2]
          unfold longS
          rw [Bool.or_eq_false_iff, List.any_eq_false]
          refine ⟨decide_eq_false HNN.out, fun i hi => ?_⟩
          have hi2 := List.mem_range.1 hi
          rw [List.getElem?_eq_getElem hi2]
          have := HI.out.2.1 i hi2 (by have := HM.out.1; omega)
          simp [this])
        go_wp2_with fail
        go_ret
        exact ⟨by rw [HF.out]; rfl, HI.out.2.2⟩
end Go.Proofs.Ytejpjbmbcdgomaa
