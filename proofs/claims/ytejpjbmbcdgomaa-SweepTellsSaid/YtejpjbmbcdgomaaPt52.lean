/- VTellA: put together. -/
import Derived.Test.YtejpjbmbcdgomaaPt51
import Derived.Test.YtejpjbmbcdgomaaPt29
import Derived.Test.YtejpjbmbcdgomaaPt30
/- SweepTells: Before and Step, the program's and the document's, whether the sweep is done or not. -/
namespace Go.Proofs.Ytejpjbmbcdgomaa
set_option maxRecDepth 100000
open Go.RowKit

theorem befS_len (cel : Int → Int → Option Cl) (ct ck : Int) : ∀ (ws : List Wr) (NS : List Nt), (befS cel ct ck NS ws).length ≤ NS.length + ws.length
  | [], _ => Nat.le_refl _
  | x :: ws, NS => by
    have h1 := befS_len cel ct ck ws (befW cel ct ck NS x)
    have h2 := befW_len cel ct ck NS x
    rw [List.length_cons]
    show (befS cel ct ck (befW cel ct ck NS x) ws).length ≤ _
    omega
theorem liveRest {ts : Tb} (h : ∀ i, i < 4 → NumL (ts i)) (t k : Int) : liveE (fromE t k ts) = restE (liveE (ents ts)) t k := by
  unfold liveE restE
  rw [← from_ents h t k, List.filter_filter, List.filter_filter]
  exact List.filter_congr fun e _ => Bool.and_comm _ _
section
variable {X : Nat → Prop} {w wr : World} {xb sb p6 p9 : Nat} {AW : Option Addr} {PB : List Nat} {G : Nat → Prop} {ts : Tb} {last ct ck : Int} {NS : List Nt} {T : List En} {d : Bool}
  {AE : Option Addr} {cE : Nat} {EM : List En} {lastM : Int} {A : Option Addr} {c : Nat} {KS : List (Int × Int)} {yt yk : Int} {b dY : Bool}
theorem TlM.before {B : Option Addr} {cB : Nat} {ws : List Wr} (h : TlM X w wr xb sb p6 p9 AW PB G ts last ct ck NS T d AE cE EM lastM A c KS yt yk b dY) (hl : NS.length + ws.length ≤ 10000) (hw : Wrs wr B ws) (hB : 0 < ws.length → ∀ r o, B = some ⟨r, o, none⟩ → X r) :
    Calls Try.prog 39 #[.pointer (some ⟨xb, 0, none⟩), .slice B ws.length cB] wr fun e w' => e = .returned (.tuple #[]) ∧ (∃ NS2, TlM X w w' xb sb p6 p9 AW PB G ts last ct ck NS2 T d AE cE EM lastM A c KS yt yk b dY ∧ NS2.length ≤ NS.length + ws.length ∧ (d = false → NS2 = befS (cellAt ts) ct ck NS ws)) ∧ Spare X wr w' := by
  cases d with
  | false =>
    refine Calls.mono (h.s.before hl hw hB) ?_
    rintro e w' ⟨e1, hI, hsp⟩
    exact ⟨e1, ⟨_, h.spare hI hsp, befS_len _ _ _ _ _, fun _ => rfl⟩, hsp⟩
  | true =>
    obtain ⟨so, nv, tv, h1, _⟩ := h.s.sw
    refine Calls.mono (swbefore_done h1 _ _ _) ?_
    rintro e w' ⟨e1, rfl⟩
    exact ⟨e1, ⟨NS, h, by omega, fun e => by cases e⟩, fun q hq => rfl⟩
theorem TlM.refbefore {B : Option Addr} {cB : Nat} {ws : List Wr} (h : TlM X w wr xb sb p6 p9 AW PB G ts last ct ck NS T d AE cE EM lastM A c KS yt yk b dY) (hl : KS.length + ws.length ≤ 10000) (hw : Wrs wr B ws) :
    Calls Try.prog 40 #[.agg #[.slice A KS.length c, .int .i64 yt, .int .i64 yk, .bool b, .bool dY], .slice B ws.length cB] wr fun e w' => ∃ A' c' K1, e = .returned (.agg #[.slice A' K1.length c', .int .i64 yt, .int .i64 yk, .bool b, .bool dY]) ∧ Kys w' A' K1 ∧ (A' = none → c' = 0) ∧ Below wr.heap.size wr w' ∧ (0 < K1.length → ∀ r f, A' = some ⟨r, f, none⟩ → (X r ∨ (wr.heap.size ≤ r ∧ r < w'.heap.size)) ∧ r ≠ p6 ∧ r ≠ p9) ∧ K1.length ≤ KS.length + ws.length ∧ (dY = false → K1 = rbS b yt yk KS ws) := by
  cases dY with
  | false =>
    refine Calls.mono (refbefore_any h.rK h.cap hl hw) ?_
    rintro e w' ⟨A', c', e1, hK, hc, hb, hn⟩
    refine ⟨A', c', _, e1, hK, hc, hb, fun h0 r f e => ?_, rbS_len b yt yk ws KS, fun _ => rfl⟩
    rcases hn with ⟨e2, e3⟩ | h1
    · have h2 := h.xK (by rw [← e3]; exact h0) r f (by rw [← e2]; exact e)
      exact ⟨.inl h2.1, h2.2⟩
    · have h2 := h1 r f e
      have h4 := hK
      rw [e] at h4
      have h3 := Rdv.blockLt h4.row h0 (by decide)
      have l6 := (h.s.x _ h.x6.1).1
      have l9 := (h.s.x _ h.x9.1).1
      exact ⟨.inr ⟨h2, h3⟩, by omega, by omega⟩
  | true =>
    refine Calls.mono refbefore_done ?_
    rintro e w' ⟨e1, hb⟩
    exact ⟨A, c, KS, e1, RowAt.below h.rK hb, h.cap, hb, (fun h0 r f e => ⟨.inl (h.xK h0 r f e).1, (h.xK h0 r f e).2⟩), by omega, fun e => by cases e⟩
theorem TlM.step {n : Int} {L0 : List En} (h : TlM X w wr xb sb p6 p9 AW PB G ts last ct ck NS T d AE cE (ents ts) lastM A c KS yt yk b d) (h0 : OkL L0) (hl0 : L0.length ≤ 8000) (hnum : NumT ts) (hN : ∀ i, i < 4 → (ts i).length ≤ 2000) (hns : NS.length ≤ 2000) (hks : KS.length ≤ 2000)
    (hno : d = false → TellI L0 (liveE (ents ts)) NS T ct ck ∧ DocI KS b yt yk NS ct ck) (hyes : d = true → T = L0) (hn : n ≤ 200) :
    ∃ (NS' : List Nt) (T' : List En) (ct' ck' : Int) (d' b' : Bool) (yt' yk' : Int),
      Calls Try.prog 42 #[.pointer (some ⟨xb, 0, none⟩), .int .i64 n] wr (fun e w' => e = .returned (.bool d') ∧ TlM X w w' xb sb p6 p9 AW PB G ts last ct' ck' NS' T' d' AE cE (ents ts) lastM A c KS yt yk b d ∧ Spare X wr w' ∧ wr.heap.size ≤ w'.heap.size) ∧
      (∀ W, Kys W A KS → Ens W AE (ents ts) → Calls Try.prog 43 #[.agg #[.slice A KS.length c, .int .i64 yt, .int .i64 yk, .bool b, .bool d], .agg #[.slice AE (ents ts).length cE, .int .i64 lastM], .int .i64 n] W fun e w' => e = .returned (.agg #[.slice A KS.length c, .int .i64 yt', .int .i64 yk', .bool b', .bool d']) ∧ Below W.heap.size W w') ∧
      NS'.length ≤ NS.length ∧ (d' = false → TellI L0 (liveE (ents ts)) NS' T' ct' ck' ∧ DocI KS b' yt' yk' NS' ct' ck') ∧ (d' = true → T' = L0) := by
  cases d with
  | true => exact ⟨NS, T, ct, ck, true, b, yt, yk, Calls.mono (h.s.step_done n) (by rintro e w' ⟨e1, rfl⟩; exact ⟨e1, h, fun q hq => rfl, Nat.le_refl _⟩), fun W hK hE => Calls.mono (refstep_done n) fun e w' h => h, Nat.le_refl _, (fun e => by cases e), hyes⟩
  | false =>
    obtain ⟨hT, hD⟩ := hno rfl
    have hup := h.s.m.up
    have hL := okL_ents hup hnum
    obtain ⟨R, D, r1, r2, r3, r4, r5, r6, r7⟩ := step_both h0 hL n.toNat hT hD
    have hTl : T.length ≤ L0.length := by rw [hT.t]; exact List.length_filter_le _ _
    have hE4 := ents_len hN
    have he : stepS n.toNat ((liveE (fromE ct ck ts)).take n.toNat) NS T ct ck = R := by
      rw [r1, liveRest hnum.numL ct ck]
      exact stepS_same _ _ _ _ _ (by rw [List.take_take, Nat.min_self])
    refine ⟨R.1, R.2.1, R.2.2.1, R.2.2.2.1, R.2.2.2.2, D.1, D.2.1, D.2.2.1, Calls.mono (h.s.step (fun i hi => by have := hN i hi; omega) hnum n (by omega) (by omega) hT.c hT.num) ?_, fun W hK hE => Calls.mono (refstep_any hK hE (by omega) (by omega) n (by omega)) ?_, r5, r7, r6⟩
    · rintro e w' ⟨R', hR', e1, hI, hsp, hsz⟩
      rw [he] at hR'
      subst hR'
      exact ⟨e1, h.spare (hI r4) hsp, hsp, hsz⟩
    · rintro e w' ⟨e1, hb⟩
      rw [← r2, ← r3] at e1
      exact ⟨e1, hb⟩
theorem TlM.stepL {n : Int} {L0 : List En} (h : TlM X w wr xb sb p6 p9 AW PB G ts last ct ck NS T d AE cE EM lastM A c KS yt yk b dY) (h0 : OkL L0) (hl0 : L0.length ≤ 8000) (hnum : NumT ts) (hN : ∀ i, i < 4 → (ts i).length ≤ 2000) (hns : NS.length ≤ 2000)
    (hno : d = false → TellI L0 (liveE (ents ts)) NS T ct ck) (hyes : d = true → T = L0) (hn : n ≤ 200) :
    ∃ (NS' : List Nt) (T' : List En) (ct' ck' : Int) (d' : Bool),
      Calls Try.prog 42 #[.pointer (some ⟨xb, 0, none⟩), .int .i64 n] wr (fun e w' => e = .returned (.bool d') ∧ TlM X w w' xb sb p6 p9 AW PB G ts last ct' ck' NS' T' d' AE cE EM lastM A c KS yt yk b dY) ∧
      NS'.length ≤ NS.length ∧ (d' = false → d = false ∧ TellI L0 (liveE (ents ts)) NS' T' ct' ck' ∧ leftN (liveE (ents ts)) NS' ct' ck' + n.toNat ≤ leftN (liveE (ents ts)) NS ct ck) ∧ (d' = true → T' = L0) := by
  cases d with
  | true => exact ⟨NS, T, ct, ck, true, Calls.mono (h.s.step_done n) (by rintro e w' ⟨e1, rfl⟩; exact ⟨e1, h⟩), Nat.le_refl _, (fun e => by cases e), hyes⟩
  | false =>
    have hT := hno rfl
    have hup := h.s.m.up
    obtain ⟨R, r1, r2, r3, r4, r5⟩ := step_left h0 (okL_ents hup hnum) n.toNat hT
    have hTl : T.length ≤ L0.length := by rw [hT.t]; exact List.length_filter_le _ _
    have he : stepS n.toNat ((liveE (fromE ct ck ts)).take n.toNat) NS T ct ck = R := by
      rw [r1, liveRest hnum.numL ct ck]
      exact stepS_same _ _ _ _ _ (by rw [List.take_take, Nat.min_self])
    refine ⟨R.1, R.2.1, R.2.2.1, R.2.2.2.1, R.2.2.2.2, Calls.mono (h.s.step (fun i hi => by have := hN i hi; omega) hnum n (by omega) (by omega) hT.c hT.num) ?_, r3, fun e => ⟨rfl, r5 e⟩, r4⟩
    rintro e w' ⟨R', hR', e1, hI, hsp, hsz⟩
    rw [he] at hR'
    subst hR'
    exact ⟨e1, h.spare (hI r2) hsp⟩
theorem leftN_le {ts : Tb} {n : Nat} (hN : ∀ i, i < 4 → (ts i).length ≤ n) (NS : List Nt) (ct ck : Int) : leftN (liveE (ents ts)) NS ct ck ≤ 4 * n + NS.length := by
  unfold leftN restE liveE
  have h1 := ents_len hN
  have h2 := List.length_filter_le (fun e : En => !lessK e.t e.x.k ct ck) ((ents ts).filter fun e => !e.x.c.dead)
  have h3 := List.length_filter_le (fun e : En => !e.x.c.dead) (ents ts)
  omega
end
end Go.Proofs.Ytejpjbmbcdgomaa
