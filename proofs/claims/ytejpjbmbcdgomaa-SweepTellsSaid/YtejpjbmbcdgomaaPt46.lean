/- VTextM, VTellP: put together. -/
import Derived.Test.YtejpjbmbcdgomaaPt42
import Derived.Test.YtejpjbmbcdgomaaPt45
/- What is put by force in order stands in order. -/
namespace Go.Proofs.Ytejpjbmbcdgomaa
set_option maxRecDepth 100000
open Go.RowKit

theorem getC_in {k : Int} {c : Cl} : ∀ {l : List Ix}, getC k l = some c → ∃ x ∈ l, x.k = k
  | [], h => by cases h
  | y :: l, h => by
    rw [getC_cons] at h
    by_cases h1 : y.k = k
    · exact ⟨y, by simp, h1⟩
    · rw [if_neg h1] at h
      obtain ⟨x, hx, e⟩ := getC_in h
      exact ⟨x, by simp [hx], e⟩
theorem ents_mem {ts : Tb} {i : Nat} (hi : i < 4) {x : Ix} (hx : x ∈ ts i) : (⟨i, x⟩ : En) ∈ ents ts := by
  unfold Go.Proofs.Ytejpjbmbcdgomaa.ents
  simp only [allE, tag, List.mem_append, List.mem_map]
  rcases (show i = 0 ∨ i = 1 ∨ i = 2 ∨ i = 3 by omega) with rfl | rfl | rfl | rfl
  · exact .inl ⟨x, hx, rfl⟩
  · exact .inr (.inl ⟨x, hx, rfl⟩)
  · exact .inr (.inr (.inl ⟨x, hx, rfl⟩))
  · exact .inr (.inr (.inr (.inl ⟨x, hx, rfl⟩)))
theorem lastLess_of {l : List En} {e : En} (h : ∀ x ∈ l, lessE x e = true) : lastLess l e = true := by
  unfold lastLess
  cases hl : l.getLast? with
  | none => rfl
  | some y => exact h y (List.mem_of_getLast? hl)
theorem fT_ents {T : List En} (hp : T.Pairwise fun a b => lessE a b = true) (hg : ∀ e ∈ T, tkE e ∧ e.x.c.dead = false) : ∀ n, n ≤ T.length → ents (fT (T.take n)) = T.take n ∧ ∀ i, i < 4 → Up (fT (T.take n) i)
  | 0, _ => ⟨rfl, fun i _ => List.Pairwise.nil⟩
  | n + 1, hn => by
    obtain ⟨i1, i2⟩ := fT_ents hp hg n (by omega)
    obtain ⟨y, hy⟩ : ∃ y, y = T[n] := ⟨_, rfl⟩
    have htk : T.take (n + 1) = T.take n ++ [y] := by rw [hy]; exact (List.take_append_getElem (by omega)).symm
    have hgy := hg y (by rw [hy]; exact List.getElem_mem _)
    have hall : ∀ x ∈ T.take n, lessE x y = true := fun x hx => by
      have h9 : (T.take (n + 1)).Pairwise fun a b => lessE a b = true := hp.sublist (List.take_sublist _ _)
      rw [htk, List.pairwise_append] at h9
      exact h9.2.2 x hx y (by simp)
    obtain ⟨t4, _, _, hs1, _⟩ := hgy.1
    have hnone : cellAt (fT (T.take n)) (y.t : Int) y.x.k = none := by
      cases hc : cellAt (fT (T.take n)) (y.t : Int) y.x.k with
      | none => rfl
      | some c =>
        rw [cellAt_in ⟨by omega, by omega⟩, Int.toNat_natCast] at hc
        obtain ⟨x, hx, e⟩ := getC_in hc
        have h1 := ents_mem t4 hx
        rw [i1] at h1
        have h2 := hall _ h1
        unfold lessE lessK at h2
        simp [e] at h2
    have hput : forceT y.x.c.s (fT (T.take n)) [wrE y] = (fT (T.take n)).upd y.t (ins y.x (fT (T.take n) y.t)) := by
      show putW y.x.c.s (fT (T.take n)) (wrE y) = _
      unfold putW
      have e1 : cellAt (fT (T.take n)) (wrE y).t (wrE y).k = none := hnone
      have e2 : (wrE y).t.toNat = y.t := Int.toNat_natCast _
      have e3 : (⟨(wrE y).k, (wrE y).cl y.x.c.s⟩ : Ix) = y.x := by
        obtain ⟨t, k, v, s, d⟩ := y
        have hd : d = false := hgy.2
        subst hd
        rfl
      rw [e1, e2, e3]
      rfl
    rw [htk, fT_snoc, hput]
    refine ⟨?_, fun i hi => ?_⟩
    · rw [ents_snoc i2 t4 (by rw [i1]; exact lastLess_of hall), i1]
    · unfold Tb.upd
      split
      · rename_i e
        exact (i2 _ t4).ins _
      · exact i2 i hi
end Go.Proofs.Ytejpjbmbcdgomaa

/- A sweep is told of writes, and they are put; the document's sweep beside it, pure. -/
namespace Go.Proofs.Ytejpjbmbcdgomaa
set_option maxRecDepth 100000
open Go.RowKit

theorem mem_live {ts : Tb} (hu : ∀ i, i < 4 → Up (ts i)) (hn : NumT ts) {e : En} : e ∈ liveE (ents ts) ↔ e.t < 4 ∧ cellAt ts (e.t : Int) e.x.k = some e.x.c ∧ e.x.c.dead = false := by
  unfold liveE
  rw [List.mem_filter]
  constructor
  · rintro ⟨h1, h2⟩
    exact ⟨(NumT.ents hn e h1).1, cellAt_mem hu h1, by simpa using h2⟩
  · rintro ⟨h1, h2, h3⟩
    refine ⟨?_, by simpa using h3⟩
    rw [cellAt_in ⟨by omega, by omega⟩, Int.toNat_natCast] at h2
    obtain ⟨x, hx, e1⟩ := getC_in h2
    have h4 := getC_mem (hu e.t h1) hx
    rw [e1, h2] at h4
    injection h4 with h4
    have h5 := ents_mem h1 hx
    have h6 : (⟨e.t, x⟩ : En) = e := by
      obtain ⟨t, k, c⟩ := e
      obtain ⟨k2, c2⟩ := x
      simp only at e1 h4
      rw [e1, ← h4]
    rw [h6] at h5
    exact h5
theorem okL_ents {ts : Tb} (hu : ∀ i, i < 4 → Up (ts i)) (hn : NumT ts) : OkL (liveE (ents ts)) :=
  ⟨(allE_pair 4 0 fun j _ hj => hu j (by omega)).filter _, fun x hx => by
    have h9 := NumT.ents hn x (List.mem_filter.1 hx).1
    exact ⟨h9.1, h9.2.1⟩⟩
/-- What stands at a key is noted. -/
theorem TellI.note {L0 : List En} {ts : Tb} {NS : List Nt} {T : List En} {ct ck : Int} (h : TellI L0 (liveE (ents ts)) NS T ct ck) (h0 : OkL L0) (hu : ∀ i, i < 4 → Up (ts i)) (hn : NumT ts) (x : Wr) (hx : WrOk x) : TellI L0 (liveE (ents ts)) (befW (cellAt ts) ct ck NS x) T ct ck := by
  unfold befW
  split
  · rename_i hc
    obtain ⟨⟨c1, c2⟩, c3⟩ := hc
    have ht : ((x.t.toNat : Nat) : Int) = x.t := Int.toNat_of_nonneg c1
    refine ⟨h.t, noteS_up h.up, fun y hy => ?_, fun y hy => ?_, fun y hy => ?_, fun e he hl hnn => h.eq e he hl fun z hz => hnn z (noteS_mem.2 (.inl hz)), h.c⟩
    · rcases noteS_mem.1 hy with e | ⟨_, rfl⟩
      · exact h.ge y e
      · show lessK ((x.t.toNat : Nat) : Int) x.k ct ck = false
        rw [ht]; exact c3
    · rcases noteS_mem.1 hy with e | ⟨_, rfl⟩
      · exact h.num y e
      · exact ⟨show x.t.toNat < 4 by omega, hx.1⟩
    · rcases noteS_mem.1 hy with e | ⟨hh, rfl⟩
      · exact h.wa y e
      · have hnot : ∀ z ∈ NS, ¬ ((z.e.t : Int) = ((x.t.toNat : Nat) : Int) ∧ z.e.x.k = x.k) := fun z hz hs => by
          have := (hasN_iff h.up).2 ⟨z, hz, hs⟩
          rw [hh] at this; cases this
        constructor
        · intro hl
          have hg : gok (cellAt ts x.t x.k) = true := hl
          cases hcell : cellAt ts x.t x.k with
          | none => rw [hcell] at hg; cases hg
          | some c =>
            show (⟨x.t.toNat, ⟨x.k, c⟩⟩ : En) ∈ L0
            refine (h.eq ⟨x.t.toNat, ⟨x.k, c⟩⟩ hx.1 (by show lessK ((x.t.toNat : Nat) : Int) x.k ct ck = false; rw [ht]; exact c3) hnot).2 ((mem_live hu hn).2 ⟨by show x.t.toNat < 4; omega, by show cellAt ts ((x.t.toNat : Nat) : Int) x.k = some c; rw [ht]; exact hcell, ?_⟩)
            rw [hcell] at hg
            cases hd : c.dead with
            | false => rfl
            | true => rw [gok_eq] at hg; simp [cv, hd] at hg
        · intro hl e he hs
          have hs1 : (e.t : Int) = ((x.t.toNat : Nat) : Int) := hs.1
          have hs2 : e.x.k = x.k := hs.2
          have h1 := (h.eq e (h0.num e he).2 (by rw [hs1, hs2, ht]; exact c3) (fun z hz hq => hnot z hz ⟨hq.1.trans hs1, hq.2.trans hs2⟩)).1 he
          obtain ⟨_, h2, h3⟩ := (mem_live hu hn).1 h1
          rw [hs1, hs2, ht] at h2
          have hg : gok (cellAt ts x.t x.k) = false := hl
          rw [h2, gok_eq] at hg
          simp [cv, h3] at hg
  · exact h
theorem TellI.notes {L0 : List En} {ts : Tb} {T : List En} {ct ck : Int} (h0 : OkL L0) (hu : ∀ i, i < 4 → Up (ts i)) (hn : NumT ts) : ∀ (ws : List Wr) {NS : List Nt}, TellI L0 (liveE (ents ts)) NS T ct ck → (∀ x ∈ ws, WrOk x) → TellI L0 (liveE (ents ts)) (befS (cellAt ts) ct ck NS ws) T ct ck
  | [], _, h, _ => h
  | x :: ws, _, h, hw => TellI.notes h0 hu hn ws (h.note h0 hu hn x (hw x (by simp))) fun y hy => hw y (by simp [hy])
theorem befW_old {cel : Int → Int → Option Cl} {ct ck : Int} {NS : List Nt} {x : Wr} {y : Nt} (h : y ∈ NS) : y ∈ befW cel ct ck NS x := by
  unfold befW
  split
  · exact noteS_mem.2 (.inl h)
  · exact h
theorem befS_old {cel : Int → Int → Option Cl} {ct ck : Int} : ∀ (ws : List Wr) {NS : List Nt} {y : Nt}, y ∈ NS → y ∈ befS cel ct ck NS ws
  | [], _, _, h => h
  | _ :: ws, _, _, h => befS_old ws (befW_old h)
theorem befW_has {cel : Int → Int → Option Cl} {ct ck : Int} {NS : List Nt} {x : Wr} (hu : UpN NS) (h1 : 0 ≤ x.t ∧ x.t < 4) (h2 : lessK x.t x.k ct ck = false) : ∃ y ∈ befW cel ct ck NS x, (y.e.t : Int) = x.t ∧ y.e.x.k = x.k := by
  have ht : ((x.t.toNat : Nat) : Int) = x.t := Int.toNat_of_nonneg h1.1
  unfold befW
  rw [if_pos ⟨h1, h2⟩]
  cases hh : hasN ((x.t.toNat : Nat) : Int) x.k NS with
  | true =>
    obtain ⟨y, hy, e1, e2⟩ := (hasN_iff hu).1 hh
    exact ⟨y, noteS_mem.2 (.inl hy), e1.trans ht, e2⟩
  | false => exact ⟨_, noteS_mem.2 (.inr ⟨hh, rfl⟩), ht, rfl⟩
theorem befS_has {cel : Int → Int → Option Cl} {ct ck : Int} : ∀ (ws : List Wr) {NS : List Nt}, UpN NS → ∀ x ∈ ws, (0 ≤ x.t ∧ x.t < 4) → lessK x.t x.k ct ck = false → ∃ y ∈ befS cel ct ck NS ws, (y.e.t : Int) = x.t ∧ y.e.x.k = x.k
  | w :: ws, NS, hu, x, hx, h1, h2 => by
    rcases List.mem_cons.1 hx with rfl | hx
    · obtain ⟨y, hy, e⟩ := befW_has (cel := cel) hu h1 h2
      exact ⟨y, befS_old ws hy, e⟩
    · exact befS_has ws (befW_up w hu) x hx h1 h2
/-- And the transaction is put. -/
theorem TellI.put {L0 : List En} {ts : Tb} {NS : List Nt} {T : List En} {ct ck q : Int} {ws : List Wr} (h : TellI L0 (liveE (ents ts)) NS T ct ck) (h0 : OkL L0) (hu : ∀ i, i < 4 → Up (ts i)) (hn : NumT ts) (hw : ∀ x ∈ ws, WrOk x) (hin : ∀ x ∈ ws, InT x.t)
    (hu2 : ∀ i, i < 4 → Up (forceT q ts ws i)) (hn2 : NumT (forceT q ts ws)) : TellI L0 (liveE (ents (forceT q ts ws))) (befS (cellAt ts) ct ck NS ws) T ct ck := by
  have h1 := TellI.notes h0 hu hn ws h hw
  refine ⟨h1.t, h1.up, h1.ge, h1.num, h1.wa, fun e he hl hnn => (h1.eq e he hl hnn).trans ?_, h1.c⟩
  rw [mem_live hu hn, mem_live hu2 hn2]
  refine and_congr_right fun h4 => ?_
  have ht : InT (e.t : Int) := ⟨by omega, by omega⟩
  have hsame : cellAt (forceT q ts ws) (e.t : Int) e.x.k = cellAt ts (e.t : Int) e.x.k := by
    rw [force_at ht ws ts hin]
    cases hg : gat q ts ws (e.t : Int) e.x.k with
    | none => rfl
    | some x =>
      obtain ⟨m1, m2, m3, _⟩ := gat_mem hg
      obtain ⟨y, hy, e1⟩ := befS_has (cel := cellAt ts) ws h.up x m1 (by have := hin x m1; unfold InT at this; exact this) (by rw [m2, m3]; exact hl)
      exact absurd ⟨e1.1.trans m2, e1.2.trans m3⟩ (hnn y hy)
  rw [hsame]
/-- Is a key ahead of the document's cursor? -/
def aheadB (b : Bool) (yt yk t k : Int) : Bool := !b || lessK yt yk t k
def hasK (KS : List (Int × Int)) (t k : Int) : Bool := KS.any fun p => decide (p.1 = t) && decide (p.2 = k)
theorem hasK_iff {KS : List (Int × Int)} {t k : Int} : hasK KS t k = true ↔ (t, k) ∈ KS := by
  unfold hasK
  rw [List.any_eq_true]
  constructor
  · rintro ⟨⟨a, b⟩, hp, h⟩
    simp only [Bool.and_eq_true, decide_eq_true_eq] at h
    rw [← h.1, ← h.2]; exact hp
  · intro h
    exact ⟨(t, k), h, by simp⟩
def rbW (b : Bool) (yt yk : Int) (KS : List (Int × Int)) (x : Wr) : List (Int × Int) := if !hasK KS x.t x.k && aheadB b yt yk x.t x.k then KS ++ [(x.t, x.k)] else KS
def rbS (b : Bool) (yt yk : Int) (KS : List (Int × Int)) (ws : List Wr) : List (Int × Int) := ws.foldl (rbW b yt yk) KS
theorem rbS_snoc (b : Bool) (yt yk : Int) (KS : List (Int × Int)) (ws : List Wr) (x : Wr) : rbS b yt yk KS (ws ++ [x]) = rbW b yt yk (rbS b yt yk KS ws) x := by
  unfold rbS
  rw [List.foldl_append]
  rfl
theorem rbW_len (b : Bool) (yt yk : Int) (KS : List (Int × Int)) (x : Wr) : (rbW b yt yk KS x).length ≤ KS.length + 1 := by
  unfold rbW
  split <;> simp
theorem rbS_len (b : Bool) (yt yk : Int) : ∀ (ws : List Wr) (KS : List (Int × Int)), (rbS b yt yk KS ws).length ≤ KS.length + ws.length
  | [], _ => Nat.le_refl _
  | x :: ws, KS => by
    have h1 := rbS_len b yt yk ws (rbW b yt yk KS x)
    have h2 := rbW_len b yt yk KS x
    rw [List.length_cons]
    show (rbS b yt yk (rbW b yt yk KS x) ws).length ≤ _
    omega
/-- The document's sweep beside the program's. -/
structure DocI (KS : List (Int × Int)) (b : Bool) (yt yk : Int) (NS : List Nt) (ct ck : Int) : Prop where
  ah : ∀ t k : Int, 0 ≤ t → t < 4 → Fits k → aheadB b yt yk t k = !lessK t k ct ck
  ks : ∀ t k : Int, 0 ≤ t → t < 4 → Fits k → lessK t k ct ck = false → ((t, k) ∈ KS ↔ ∃ x ∈ NS, (x.e.t : Int) = t ∧ x.e.x.k = k)
  ok : ∀ p ∈ KS, (0 ≤ p.1 ∧ p.1 < 4) ∧ Fits p.2
theorem DocI.start : DocI [] false 0 0 [] 0 (-9223372036854775808) := by
  refine ⟨fun t k h0 h1 hk => ?_, (fun t k _ _ _ _ => ⟨fun h => (by cases h), fun ⟨x, hx, _⟩ => (by cases hx)⟩), (fun p hp => by cases hp)⟩
  unfold Fits at hk
  unfold aheadB lessK
  rw [Bool.eq_iff_iff]
  simp only [Bool.not_false, Bool.true_or, Bool.not_eq_true', Bool.or_eq_false_iff, decide_eq_false_iff_not, Bool.and_eq_false_iff, true_iff]
  omega
theorem DocI.note {KS : List (Int × Int)} {b : Bool} {yt yk : Int} {NS : List Nt} {ct ck : Int} (h : DocI KS b yt yk NS ct ck) (hu : UpN NS) (cel : Int → Int → Option Cl) (x : Wr) (hx : WrOk x) (hin : InT x.t) : DocI (rbW b yt yk KS x) b yt yk (befW cel ct ck NS x) ct ck := by
  have ha := h.ah x.t x.k hin.1 hin.2 hx.1
  have ht : ((x.t.toNat : Nat) : Int) = x.t := Int.toNat_of_nonneg hin.1
  cases hl : lessK x.t x.k ct ck with
  | true =>
    have e1 : rbW b yt yk KS x = KS := by unfold rbW; rw [ha, hl]; simp
    have e2 : befW cel ct ck NS x = NS := by unfold befW; rw [if_neg fun c => by rw [hl] at c; cases c.2]
    rw [e1, e2]
    exact h
  | false =>
    have hmem : ∀ t k : Int, (t, k) ∈ rbW b yt yk KS x ↔ (t, k) ∈ KS ∨ (t = x.t ∧ k = x.k) := fun t k => by
      unfold rbW
      rw [ha, hl]
      cases hk : hasK KS x.t x.k with
      | true =>
        simp only [Bool.not_true, Bool.false_and, if_neg Bool.false_ne_true]
        refine ⟨.inl, fun e => ?_⟩
        rcases e with e | ⟨rfl, rfl⟩
        · exact e
        · exact hasK_iff.1 hk
      | false =>
        simp only [Bool.not_false, Bool.and_self, if_true, List.mem_append, List.mem_singleton, Prod.mk.injEq]
    refine ⟨h.ah, fun t k h0 h1 hk hlt => ?_, fun p hp => ?_⟩
    · rw [hmem, h.ks t k h0 h1 hk hlt]
      constructor
      · rintro (⟨y, hy, e⟩ | ⟨rfl, rfl⟩)
        · exact ⟨y, befW_old hy, e⟩
        · exact befW_has hu hin hl
      · rintro ⟨y, hy, e⟩
        unfold befW at hy
        rw [if_pos ⟨hin, hl⟩] at hy
        rcases noteS_mem.1 hy with e2 | ⟨_, rfl⟩
        · exact .inl ⟨y, e2, e⟩
        · have e1 : ((x.t.toNat : Nat) : Int) = t := e.1
          have e2 : x.k = k := e.2
          exact .inr ⟨by rw [← e1, ht], e2.symm⟩
    · obtain ⟨a, c⟩ := p
      rcases (hmem a c).1 hp with e | ⟨rfl, rfl⟩
      · exact h.ok _ e
      · exact ⟨hin, hx.1⟩
theorem DocI.notes {b : Bool} {yt yk : Int} {ct ck : Int} (cel : Int → Int → Option Cl) : ∀ (ws : List Wr) {KS : List (Int × Int)} {NS : List Nt}, DocI KS b yt yk NS ct ck → UpN NS → (∀ x ∈ ws, WrOk x) → (∀ x ∈ ws, InT x.t) → DocI (rbS b yt yk KS ws) b yt yk (befS cel ct ck NS ws) ct ck
  | [], _, _, h, _, _, _ => h
  | x :: ws, _, _, h, hu, hw, hin => DocI.notes cel ws (h.note hu cel x (hw x (by simp)) (hin x (by simp))) (befW_up x hu) (fun y hy => hw y (by simp [hy])) fun y hy => hin y (by simp [hy])
end Go.Proofs.Ytejpjbmbcdgomaa
