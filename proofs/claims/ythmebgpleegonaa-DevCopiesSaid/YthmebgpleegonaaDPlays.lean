/- DevPlays: the law. -/
import Derived.Test.YthmebgpleegonaaDStands
import Derived.Test.YthmebgpleegonaaDNewN
import Derived.Test.YthmebgpleegonaaDAlone
namespace Go.Proofs.Ythmebgpleegonaa
set_option maxRecDepth 100000
open Go.RowKit

/-- Both News answer an error. -/
def NewBad (w : World) (A : Option Addr) (c M : Nat) : Prop := ∀ W, Below w.heap.size w W → Calls Try.prog 10 #[.slice A M c] W (fun e w' => e = .returned (.tuple #[.pointer none, eV 1]) ∧ Below W.heap.size W w') ∧ Calls Try.prog 11 #[.slice A M c] W (fun e w' => e = .returned (.tuple #[.agg #[.slice none 0 0, .int .i64 0, .int .i64 0, .bool false, .bool false], .int .i64 1]) ∧ Below W.heap.size W w')
theorem zs_either {w : World} {A : Option Addr} {l : List Int} (c : Nat) (h : Zs w A l) (hl : l.length ≤ 9223372036854775807) : NewBad w A c l.length ∨ (1 ≤ l.length ∧ l.length ≤ 5 ∧ ∀ n ∈ l, 1 ≤ n ∧ n ≤ 4096) := by
  by_cases hm : l.length < 1 ∨ 5 < l.length
  · exact .inl fun W _ => ⟨new_len A c _ W hm hl, refnew_len A c _ W hm hl⟩
  · rcases zs_split l with h1 | ⟨k, n, r, e, h2, h3⟩
    · exact .inr ⟨by omega, by omega, h1⟩
    · obtain ⟨h4, h5⟩ := h.pre e
      exact .inl fun W hb => ⟨new_bad A c k n _ W (h4.below hb) ⟨h5, by omega⟩ h2 h3, refnew_bad A c k n _ W (h4.below hb) ⟨h5, by omega⟩ h2 h3⟩
theorem stands_any {w : World} {F X : Nat → Prop} {g : Nat} {p : Pw} {ds : List Dk} {K : Nat} {A : Option Addr} {c : Nat} {left : Int} (h : St w F g p ds K) (hr : RSet w X A c ds) (hok : OkN K ds) (hl : ds.length ≤ 1000) (hKb : K ≤ 1000000) (hps : p.steps ≤ K) :
    Calls Try.prog 15 #[.pointer (some ⟨g, 0, none⟩), rsV A c ds p left] w fun e w' => e = .returned (.bool true) ∧ Below w.heap.size w w' := by
  rcases hg : p.gone with _ | _
  · exact stands_on h hr hok hl hKb hps hg
  · exact stands_gone h hr hok hl hKb hps hg
/-- Both sets, between two acts; z: a box beside them. -/
structure PMid (w wr : World) (z g q M : Nat) (F X : Nat → Prop) (p : Pw) (ds : List Dk) (A : Option Addr) (c : Nat) (left : Int) : Prop where
  st : St wr F g p ds q
  rs : RSet wr X A c ds
  lf : LeftOk p left
  xf : ∀ k, X k → ¬ F k
  zl : z < wr.heap.size
  zw : w.heap.size ≤ z
  fz : ¬ F z
  xz : ¬ X z
  ok : OkN q ds
  len : ds.length = M
  ps : p.steps ≤ q
  pa : p.armed ≤ 9223372036854775807
  ch : Chg w wr (fun _ => False) F
/-- The cells of a set. -/
def rsC (M : Nat) (p : Pw) (A : Option Addr) (c : Nat) (left : Int) : Array Value := #[.slice A M c, .int .i64 (p.steps : Int), .int .i64 left, .bool p.ia, .bool p.gone]
theorem PMid.below {w wr wq : World} {z g q M : Nat} {F X : Nat → Prop} {p : Pw} {ds : List Dk} {A : Option Addr} {c : Nat} {left : Int} (h : PMid w wr z g q M F X p ds A c left) (hb : Below wr.heap.size wr wq) : PMid w wq z g q M F X p ds A c left :=
  ⟨h.st.below hb, h.rs.below hb, h.lf, h.xf, Nat.lt_of_lt_of_le h.zl hb.size, h.zw, h.fz, h.xz, h.ok, h.len, h.ps, h.pa, h.ch.trans (Chg.of_below hb F)⟩
theorem PMid.set {w wr : World} {z g q M : Nat} {F X : Nat → Prop} {p : Pw} {ds : List Dk} {A : Option Addr} {c : Nat} {left : Int} (h : PMid w wr z g q M F X p ds A c left) (t : Nat) (hf : ¬ F t) (hx : ¬ X t) (ht : w.heap.size ≤ t) (v0 v1 v2 v3 v4 : Value) :
    PMid w (((((wr.setCell ⟨t, 0, none⟩ v0).setCell ⟨t, 1, none⟩ v1).setCell ⟨t, 2, none⟩ v2).setCell ⟨t, 3, none⟩ v3).setCell ⟨t, 4, none⟩ v4) z g q M F X p ds A c left := by
  have hc := set5_chg wr t v0 v1 v2 v3 v4
  exact ⟨h.st.stay hc (fun k e e2 => hf (e2 ▸ e)), h.rs.chg hc (fun k e e2 => hx (e2 ▸ e)), h.lf, h.xf, Nat.lt_of_lt_of_le h.zl hc.size, h.zw, h.fz, h.xz, h.ok, h.len, h.ps, h.pa, h.ch.beside hc (fun k e => by omega)⟩
theorem PMid.stands {w wr : World} {z g q M : Nat} {F X : Nat → Prop} {p : Pw} {ds : List Dk} {A : Option Addr} {c : Nat} {left : Int} (h : PMid w wr z g q M F X p ds A c left) (hM : M ≤ 1000) (hq : q ≤ 1000000) :
    Calls Try.prog 15 #[.pointer (some ⟨g, 0, none⟩), .agg #[.slice A M c, .int .i64 (p.steps : Int), .int .i64 left, .bool p.ia, .bool p.gone]] wr fun e w' => e = .returned (.bool true) ∧ Below wr.heap.size wr w' := by
  have h1 := stands_any (left := left) h.st h.rs h.ok (by rw [h.len]; exact hM) hq h.ps
  unfold rsV at h1
  rw [h.len] at h1
  exact h1
theorem PMid.act {w wr : World} {z g q M : Nat} {F X : Nat → Prop} {p : Pw} {ds : List Dk} {A : Option Addr} {c : Nat} {left : Int} (h : PMid w wr z g q M F X p ds A c left) (hM : M ≤ 1000) (hq : q ≤ 1000000) (o : Opx) (ho : OpOk w o) (hm : o.m ≤ 60) :
    ∃ p' ds', Calls Try.prog 14 #[.pointer (some ⟨g, 0, none⟩), .agg #[.slice A M c, .int .i64 (p.steps : Int), .int .i64 left, .bool p.ia, .bool p.gone], .agg #[.int .i64 o.kind, .int .i64 o.dev, .int .i64 o.n, .int .u8 (o.b : Int), .slice o.A o.m o.c]] wr fun e w' =>
      ∃ F' X' A' c' left', e = .returned (.tuple #[.agg #[.slice A' M c', .int .i64 (p'.steps : Int), .int .i64 left', .bool p'.ia, .bool p'.gone], .bool true]) ∧ PMid w w' z g (q + 1) M F' X' p' ds' A' c' left' ∧ wr.heap.size ≤ w'.heap.size ∧ ∀ u, ¬ F u → ¬ X u → u < wr.heap.size → w'.heap[u]? = wr.heap[u]? ∧ ¬ F' u ∧ ¬ X' u := by
  obtain ⟨hb, hn, kl, hkp, hkl⟩ := ho
  obtain ⟨p', ds', h1, h2, h3, h4, h5⟩ := do_any h.st h.rs h.lf h.xf h.ok (by rw [h.len]; exact hM) hq h.ps h.pa o hb hn kl (fun W F1 hc => RowAt.below hkp ((h.ch.trans hc).below (Nat.le_refl _) (fun k e => e.elim))) hkl (by omega)
  have hl : ds'.length = M := by
    have := congrArg List.length h5
    rw [List.length_map, List.length_map, h.len] at this
    exact this
  unfold rsV at h1
  rw [h.len] at h1
  refine ⟨p', ds', Calls.mono h1 ?_⟩
  rintro e w' ⟨F', X', A', c', left', he, s', r', l', xf', xn', ch'⟩
  have hnew : ∀ u, ¬ F u → ¬ X u → u < wr.heap.size → w'.heap[u]? = wr.heap[u]? ∧ ¬ F' u ∧ ¬ X' u := fun u e1 e2 e3 => ⟨ch'.block u e3 e1, fun e4 => by
    rcases ch'.new u e4 with e5 | e5
    · exact e1 e5
    · omega, fun e4 => by
    rcases xn' u e4 with e5 | e5
    · exact e2 e5
    · omega⟩
  obtain ⟨_, z1, z2⟩ := hnew z h.fz h.xz h.zl
  unfold rsV at he
  rw [hl] at he
  exact ⟨F', X', A', c', left', he, ⟨s', r', l', xf', Nat.lt_of_lt_of_le h.zl ch'.size, h.zw, z1, z2, h2, hl, h3, h4, h.ch.trans ch'⟩, ch'.size, hnew⟩
set_option maxHeartbeats 16000000 in
theorem plays_law (A0 : Option Addr) (c0 : Nat) (lz : List Int) (A : Option Addr) (c : Nat) (l : List Opx) (w : World) (hz : Zs w A0 lz) (hzl : lz.length ≤ 9223372036854775807) (h : Ops w A l) (hl : l.length ≤ 9223372036854775807) (hok : ∀ o ∈ l, OpOk w o) :
    Calls Try.prog 3 #[.slice A0 lz.length c0, .slice A l.length c] w fun e w' => e = .returned (.bool true) ∧ Below w.heap.size w w' := by
  have HE := Lib.hid (zs_either c0 hz hzl)
  have H0 := Lib.hid hz
  have HH := Lib.hid h
  have HOK := Lib.hid hok
  have hl' := hl
  obtain ⟨n, hn⟩ : ∃ n, n = l.length := ⟨_, rfl⟩
  obtain ⟨M, hM⟩ : ∃ M, M = lz.length := ⟨_, rfl⟩
  have HN := Lib.hid hn
  have HM := Lib.hid hM
  rw [← hn] at hl' ⊢
  rw [← hM] at hzl HE ⊢
  clear h hn hz hM hok
  go_enter Try.func3, Try.ntmps3
  go_wp2_with fail
  refine Calls.mono (alive_true w) ?_
  rintro e w1 ⟨rfl, b1⟩
  have B1 := Lib.hid b1
  have HLG := Lib.hid (long_any A c l w1 (RowAt.below HH.out b1) hl)
  rw [← HN.out] at HLG
  clear b1
  go_wp2_with fail
  refine Calls.mono HLG.out ?_
  rintro e w2 ⟨r, rfl, hr, b2⟩
  have B2 := Lib.hid (B1.out.trans (b2.mono B1.out.size))
  clear b2 HLG B1
  cases r with
  | true =>
    clear hr
    go_wp2_with fail
    go_ret
    exact ⟨rfl, B2.out⟩
  | false =>
    have HSH := Lib.hid (hr rfl)
    clear hr
    by_cases hm20 : 20 < M
    · have d1 : decide (20 < (M : Int)) = true := decide_eq_true (by omega)
      go_wp2_with fail
      go_ret
      exact ⟨rfl, B2.out⟩
    have d1 : decide (20 < (M : Int)) = false := decide_eq_false (by omega)
    rcases HE.out with hbad | hgood
    · have HBAD := Lib.hid hbad
      clear hbad HE
      go_wp2_with fail
      refine Calls.mono (HBAD.out w2 B2.out).1 ?_
      rintro e w3 ⟨rfl, b3⟩
      have B3 := Lib.hid (B2.out.trans (b3.mono B2.out.size))
      clear b3
      go_wp2_with fail
      refine Calls.mono (HBAD.out w3 B3.out).2 ?_
      rintro e w4 ⟨rfl, b4⟩
      have B4 := Lib.hid (B3.out.trans (b4.mono B3.out.size))
      clear b4
      have B5 := Lib.hid (show Below w.heap.size w (w4.alloc (.cells #[.slice none 0 0, .int .i64 0, .int .i64 0, .bool false, .bool false] 33)) from B4.out.trans (((Below.refl w4.heap.size w4).alloc (Nat.le_refl _) _).mono B4.out.size))
      go_wp2_with fail
      refine Calls.mono (num_ev 1 _) ?_
      rintro e w5 ⟨rfl, rfl⟩
      go_wp2_with fail
      go_ret
      exact ⟨rfl, B5.out⟩
    · have HG := Lib.hid hgood
      clear HE
      obtain ⟨hM1, hM5, hgz⟩ := hgood
      clear hgz
      have hs := Zs.sz H0.out HG.out.2.2
      have hsl : (lz.map Int.toNat).length = M := by rw [List.length_map, HM.out]
      have hg2 : ∀ n ∈ lz.map Int.toNat, 1 ≤ n ∧ n ≤ 4096 := fun n hn => by
        obtain ⟨x, hx, rfl⟩ := List.mem_map.1 hn
        have := HG.out.2.2 x hx
        omega
      obtain ⟨sz, hsz⟩ : ∃ s, s = lz.map Int.toNat := ⟨_, rfl⟩
      rw [← hsz] at hs hsl hg2
      have HSZ := Lib.hid hsz
      have HNW := Lib.hid (st_new A0 c0 sz w2 (RowAt.below hs B2.out) (by omega) hg2)
      have HNR := Lib.hid (fun (W : World) (hb : Below w.heap.size w W) => refnew_yes A0 c0 sz W (RowAt.below hs hb) (by omega) hg2)
      have HOK0 := Lib.hid (OkN.new hg2)
      rw [hsl] at HNW HNR
      clear hs hg2 hsz
      go_wp2_with fail
      refine Calls.mono HNW.out ?_
      rintro e w3 ⟨F, g, rfl, s3, c3⟩
      have C3 := Lib.hid ((Chg.of_below B2.out (fun _ => False)).trans c3)
      have B3 := Lib.hid (C3.out.below (Nat.le_refl _) (fun k e => e.elim))
      have S3 := Lib.hid s3
      clear s3 c3 HNW
      go_wp2_with fail
      refine Calls.mono (HNR.out w3 B3.out) ?_
      rintro e w4 ⟨X, Ax, cx, he, hr4, hx4, b4⟩
      have hdl : (sz.map Dk.new).length = M := by rw [List.length_map, hsl]
      unfold rsV pw0 at he
      rw [hdl] at he
      subst he
      have S4 := Lib.hid (S3.out.below b4)
      have R4 := Lib.hid (And.intro hr4 (show ∀ k, X k → ¬ F k from fun k e e2 => by have := hx4 k e; have := S3.out.lt k e2; omega))
      have C4 := Lib.hid (C3.out.trans (Chg.of_below b4 F))
      have HDL := Lib.hid hdl
      clear hr4 hx4 b4 HNR S3 C3 B3
      go_wp2_with fail
      have B4s := Lib.hid (show w.heap.size ≤ w4.heap.size from C4.out.size)
      have P4 := Lib.hid (show PMid w (w4.alloc (.cells #[.slice Ax M cx, .int .i64 0, .int .i64 0, .bool false, .bool false] 33)) w4.heap.size g 0 M F X pw0 (sz.map Dk.new) Ax cx 0 ∧ (w4.alloc (.cells #[.slice Ax M cx, .int .i64 0, .int .i64 0, .bool false, .bool false] 33)).heap[w4.heap.size]? = some (.cells #[.slice Ax M cx, .int .i64 0, .int .i64 0, .bool false, .bool false] 33 (0, 0)) from by
        have hba : Below w4.heap.size w4 (w4.alloc (.cells #[.slice Ax M cx, .int .i64 0, .int .i64 0, .bool false, .bool false] 33)) := (Below.refl _ _).alloc (Nat.le_refl _) _
        refine ⟨⟨(S4.out.mono (Nat.zero_le _)).below hba, R4.out.1.below hba, fun _ => rfl, R4.out.2, by simp, B4s.out, fun e => absurd (S4.out.lt _ e) (Nat.lt_irrefl _), fun e => absurd (R4.out.1.lt _ e) (Nat.lt_irrefl _), HOK0.out, HDL.out, Nat.le_refl _, Nat.zero_le _, C4.out.trans (Chg.of_below hba F)⟩, heap_alloc_new w4 _⟩)
      clear S4 R4 C4 HOK0 HDL B4s
      obtain ⟨z, hz⟩ : ∃ z, z = w4.heap.size := ⟨_, rfl⟩
      rw [← hz] at P4 ⊢
      clear hz
      revert P4
      generalize World.alloc w4 _ = w5
      intro P4
      refine Calls.mono (num_ev 0 w5) ?_
      rintro e w6 ⟨rfl, rfl⟩
      go_wp2_with fail
      go_loopw [44] (fun i wr => ∃ q : Nat, i = .int .i64 (q : Int) ∧ q ≤ M ∧ wr = w5) (fun i _ => M - (intOf i).toNat)
      case atStart => exact ⟨0, rfl, by omega, rfl⟩
      case round =>
        obtain ⟨q, rfl, hq, rfl⟩ := hrel
        by_cases hlt : q < M
        · have hql : q < lz.length := by rw [← HM.out]; exact hlt
          obtain ⟨b, off, rfl, hc⟩ := Zs.cell (RowAt.ext H0.out fun _ hp => P4.out.1.ch.cell' hp fun e => e) (by omega)
          have x0 := hc q hql
          obtain ⟨y, hy⟩ : ∃ y, y = lz[q] := ⟨_, rfl⟩
          rw [← hy] at x0
          clear hc hy
          have hmany := st_many P4.out.1.st (by rw [P4.out.1.len]; omega)
          rw [P4.out.1.len] at hmany
          have HMY := Lib.hid hmany
          clear hmany
          by_cases h12 : 12 < y
          · have g1 : decide (12 < y) = true := decide_eq_true h12
            go_wp2_with fail
            refine Calls.mono HMY.out ?_
            rintro e w6 ⟨rfl, rfl⟩
            go_wp2_with fail
            go_ret
            exact ⟨rfl, P4.out.1.ch.below (Nat.le_refl _) (fun k e => e.elim)⟩
          · have g1 : decide (12 < y) = false := decide_eq_false h12
            go_wp2_with fail
            go_roundw
            case rel => exact ⟨q + 1, by go_num, by omega, trivial⟩
            case measure => simp [intOf]; omega
        · obtain rfl : M = q := by omega
          clear hlt
          go_wp2_with fail
          clear hq
          go_loopw [58] (fun i wr => ∃ (q : Nat) (F X : Nat → Prop) (p : Pw) (ds : List Dk) (A1 : Option Addr) (c1 : Nat) (left : Int), i = .int .i64 (q : Int) ∧ q ≤ n ∧ PMid w wr z g q M F X p ds A1 c1 left ∧ wr.heap[z]? = some (.cells #[.slice A1 M c1, .int .i64 (p.steps : Int), .int .i64 left, .bool p.ia, .bool p.gone] 33 (0, 0))) (fun i _ => n - (intOf i).toNat)
          case atStart => exact ⟨0, F, X, pw0, _, Ax, cx, 0, rfl, by omega, P4.out.1, P4.out.2⟩
          case round =>
            obtain ⟨q, F1, X1, p, ds, A1, c1, left, rfl, hq, hP, k0⟩ := hrel
            have h81 : n ≤ 81 := by rw [HN.out]; exact HSH.out.1
            by_cases hlt : q < n
            · have hql : q < l.length := by rw [← HN.out]; exact hlt
              obtain ⟨b, off, rfl, hc⟩ := Ops.cell (Ops.later HH.out hP.ch) (by omega)
              obtain ⟨y0, y1, y2, y3, y4⟩ := hc q hql
              obtain ⟨o, ho⟩ : ∃ o, o = l[q] := ⟨_, rfl⟩
              have hoo := HOK.out _ (List.getElem_mem hql)
              have hom := HSH.out.2 _ (List.getElem_mem hql)
              rw [← ho] at y0 y1 y2 y3 y4 hoo hom
              have hba : Below wr.heap.size wr (wr.alloc (.cells #[.int .i64 o.kind, .int .i64 o.dev, .int .i64 o.n, .int .u8 (o.b : Int), .slice o.A o.m o.c] 40)) := (Below.refl _ _).alloc (Nat.le_refl _) _
              have HQ := Lib.hid (And.intro (hP.below hba) (And.intro ((hba.block z hP.zl).trans k0) (heap_alloc_new wr (.cells #[.int .i64 o.kind, .int .i64 o.dev, .int .i64 o.n, .int .u8 (o.b : Int), .slice o.A o.m o.c] 40))))
              have HO := Lib.hid (And.intro hoo hom)
              clear hc ho hP k0 hba hoo hom
              go_upto_region 20 with fail
              clear y0 y1 y2 y3 y4
              obtain ⟨v, hv⟩ : ∃ v, v = wr.heap.size := ⟨_, rfl⟩
              rw [← hv] at HQ ⊢
              clear hv
              revert HQ
              generalize World.alloc wr _ = wq
              intro HQ
              have hz5 : z < wq.heap.size := HQ.out.1.zl
              have hv5 : v < wq.heap.size := (Array.getElem?_eq_some_iff.1 HQ.out.2.2).1
              have k0 := HQ.out.2.1
              have k1 := HQ.out.2.2
              have q0 := (cell_of_row _ _ 0 _ _ (0, 0) k0).trans rfl
              have q1 := (cell_of_row _ _ 1 _ _ (0, 0) k0).trans rfl
              have q2 := (cell_of_row _ _ 2 _ _ (0, 0) k0).trans rfl
              have q3 := (cell_of_row _ _ 3 _ _ (0, 0) k0).trans rfl
              have q4 := (cell_of_row _ _ 4 _ _ (0, 0) k0).trans rfl
              have f0 := frozen_at k0 0
              have f1 := frozen_at k0 1
              have f2 := frozen_at k0 2
              have f3 := frozen_at k0 3
              have f4 := frozen_at k0 4
              have y0 := (cell_of_row _ _ 0 _ _ (0, 0) k1).trans rfl
              have y1 := (cell_of_row _ _ 1 _ _ (0, 0) k1).trans rfl
              have y2 := (cell_of_row _ _ 2 _ _ (0, 0) k1).trans rfl
              have y3 := (cell_of_row _ _ 3 _ _ (0, 0) k1).trans rfl
              have y4 := (cell_of_row _ _ 4 _ _ (0, 0) k1).trans rfl
              have e0 := frozen_at k1 0
              have e1 := frozen_at k1 1
              have e2 := frozen_at k1 2
              have e3 := frozen_at k1 3
              have e4 := frozen_at k1 4
              clear k0 k1
              have HDO := Lib.hid (fun (W : World) (hb : Below wq.heap.size wq W) => (HQ.out.1.below hb).act (by omega) (by omega) o HO.out.1 HO.out.2)
              clear hv5
              obtain ⟨p2, ds2, hcall⟩ := HDO.out wq (Below.refl _ wq)
              have HC := Lib.hid hcall
              clear hcall HDO HO
              go_wp2_with fail
              refine Calls.mono HC.out ?_
              rintro e w7 ⟨F2, X2, A2, c2, left2, rfl, hp7, hs7, hn7⟩
              clear HC
              obtain ⟨k7, _, _⟩ := hn7 z HQ.out.1.fz HQ.out.1.xz HQ.out.1.zl
              have hba : Below w7.heap.size w7 (w7.alloc (.cells #[.slice A2 M c2, .int .i64 (p2.steps : Int), .int .i64 left2, .bool p2.ia, .bool p2.gone] 33)) := (Below.refl _ _).alloc (Nat.le_refl _) _
              have H8 := Lib.hid (And.intro (hp7.below hba) (And.intro (((hba.block z hp7.zl).trans k7).trans HQ.out.2.1) (heap_alloc_new w7 (.cells #[.slice A2 M c2, .int .i64 (p2.steps : Int), .int .i64 left2, .bool p2.ia, .bool p2.gone] 33))))
              clear q0 q1 q2 q3 q4 f0 f1 f2 f3 f4 y0 y1 y2 y3 y4 e0 e1 e2 e3 e4 hz5 HQ hp7 hs7 hn7 k7 hba
              go_upto_region 21 with fail
              obtain ⟨u, hu⟩ : ∃ u, u = w7.heap.size := ⟨_, rfl⟩
              rw [← hu] at H8 ⊢
              clear hu
              revert H8
              generalize World.alloc w7 _ = w8
              intro H8
              have hz5 : z < w8.heap.size := H8.out.1.zl
              have k0 := H8.out.2.1
              have k1 := H8.out.2.2
              have q0 := (cell_of_row _ _ 0 _ _ (0, 0) k0).trans rfl
              have q1 := (cell_of_row _ _ 1 _ _ (0, 0) k0).trans rfl
              have q2 := (cell_of_row _ _ 2 _ _ (0, 0) k0).trans rfl
              have q3 := (cell_of_row _ _ 3 _ _ (0, 0) k0).trans rfl
              have q4 := (cell_of_row _ _ 4 _ _ (0, 0) k0).trans rfl
              have f0 := frozen_at k0 0
              have f1 := frozen_at k0 1
              have f2 := frozen_at k0 2
              have f3 := frozen_at k0 3
              have f4 := frozen_at k0 4
              have y0 := (cell_of_row _ _ 0 _ _ (0, 0) k1).trans rfl
              have y1 := (cell_of_row _ _ 1 _ _ (0, 0) k1).trans rfl
              have y2 := (cell_of_row _ _ 2 _ _ (0, 0) k1).trans rfl
              have y3 := (cell_of_row _ _ 3 _ _ (0, 0) k1).trans rfl
              have y4 := (cell_of_row _ _ 4 _ _ (0, 0) k1).trans rfl
              have e0 := frozen_at k1 0
              have e1 := frozen_at k1 1
              have e2 := frozen_at k1 2
              have e3 := frozen_at k1 3
              have e4 := frozen_at k1 4
              clear k0 k1
              go_upto_region 22 with fail
              have HS := Lib.hid (H8.out.1.set z H8.out.1.fz H8.out.1.xz H8.out.1.zw (.slice A2 M c2) (.int .i64 (p2.steps : Int)) (.int .i64 left2) (.bool p2.ia) (.bool p2.gone))
              have HT := Lib.hid (set5 w8 z 33 _ _ _ _ _ (.slice A2 M c2) (.int .i64 (p2.steps : Int)) (.int .i64 left2) (.bool p2.ia) (.bool p2.gone) H8.out.2.1).1
              clear q0 q1 q2 q3 q4 f0 f1 f2 f3 f4 y0 y1 y2 y3 y4 e0 e1 e2 e3 e4 hz5 H8
              revert HS HT
              generalize World.setCell (World.setCell _ _ _) _ _ = w9
              intro HS HT
              have k0 := HT.out
              have q0 := (cell_of_row _ _ 0 _ _ (0, 0) k0).trans rfl
              have q1 := (cell_of_row _ _ 1 _ _ (0, 0) k0).trans rfl
              have q2 := (cell_of_row _ _ 2 _ _ (0, 0) k0).trans rfl
              have q3 := (cell_of_row _ _ 3 _ _ (0, 0) k0).trans rfl
              have q4 := (cell_of_row _ _ 4 _ _ (0, 0) k0).trans rfl
              clear k0
              have HST := Lib.hid (HS.out.stands (by omega) (by omega))
              go_wp2_with fail
              refine Calls.mono HST.out ?_
              rintro e w10 ⟨rfl, b10⟩
              have k10 := (b10.block z HS.out.zl).trans HT.out
              have P10 := Lib.hid (And.intro (HS.out.below b10) k10)
              clear q0 q1 q2 q3 q4 HST HS HT b10 k10
              go_wp2_with fail
              go_roundw
              case rel => exact ⟨q + 1, F2, X2, p2, ds2, A2, c2, left2, by go_num, by omega, P10.out.1, P10.out.2⟩
              case measure => simp [intOf]; omega
            · obtain rfl : q = n := by omega
              have HP := Lib.hid hP
              have q0 := (cell_of_row _ _ 0 _ _ (0, 0) k0).trans rfl
              have q1 := (cell_of_row _ _ 1 _ _ (0, 0) k0).trans rfl
              have q2 := (cell_of_row _ _ 2 _ _ (0, 0) k0).trans rfl
              have q3 := (cell_of_row _ _ 3 _ _ (0, 0) k0).trans rfl
              have q4 := (cell_of_row _ _ 4 _ _ (0, 0) k0).trans rfl
              clear k0 hP hlt hq
              go_wp2_with fail
              refine Calls.mono (HP.out.stands (by omega) (by omega)) ?_
              rintro e w9 ⟨rfl, b9⟩
              go_wp2_with fail
              go_ret
              exact ⟨rfl, (HP.out.below b9).ch.below (Nat.le_refl _) (fun k e => e.elim)⟩
end Go.Proofs.Ythmebgpleegonaa
