/- TopFinds' walk. -/
import Derived.Test.YteimdhkajbldjaaGreatTopM
import Derived.Test.YteimdhkajbldjaaGreatTPageM
import Derived.Test.YteimdhkajbldjaaGreatIxB
import Derived.Deep.CutRange
import Derived.Deep.RegionHeld3
set_option linter.unusedVariables false
set_option linter.unusedSimpArgs false
set_option maxRecDepth 100000
namespace Go.Proofs.YteimdhkajbldjaaGreat
open Go.RowKit Go.Sort Go.Maps

/-- one server that is asked; r: where its notes lay in w3 -/
def LpR (S p r : Nat) (w3 : World) (X : SrvX) (w : World) : Prop := ∃ q, Srv w S p q (fun _ => False) X ∧ (q = r ∨ w3.heap.size ≤ q) ∧ Kept (fun z => z ≠ p ∧ z ≠ r) w3 w
theorem LpR.below {S p r : Nat} {w3 w w' : World} {X : SrvX} (h : LpR S p r w3 X w) (hb : Below w.heap.size w w') : LpR S p r w3 X w' := by
  obtain ⟨q, h1, h2, h3⟩ := h
  exact ⟨q, h1.below hb, h2, h3.trans (Kept.of hb)⟩
theorem LpR.doing {S p r : Nat} {w3 w : World} {X X' : SrvX} {T : ToldL} (h : LpR S p r w3 X w) (o : OpL) (P : OpP) (hi : o.in_ P w) (hT : doT X o = T) (hX : doX X o = X') :
    Calls Tryz.prog 16 #[ptr p, o.v P] w fun e w' => ∃ P : ToldP, e = .returned (.agg #[.int .i64 T.code, .slice P.va T.vs.length P.vc, .slice P.ia T.ids.length P.ic, .slice P.na T.ns.length P.nc]) ∧ LpR S p r w3 X' w' := by
  obtain ⟨q, h1, h2, h3⟩ := h
  refine (do_to o P w h1 (fun z hz => hz.elim) hi hT hX).mono ?_
  rintro e w' ⟨P', q', rfl, hn, hs, hq, hk⟩
  have hsz := h3.size
  have k3 : Kept (fun z => (z ≠ p ∧ z ≠ r) ∧ z < w3.heap.size) w3 w' := (h3.sub fun z _ hz => hz.1).trans (hk.sub fun z _ hz => ⟨hz.1.1, fun e => by
    rcases h2 with e2 | e2
    · exact hz.1.2 (e.trans e2)
    · omega⟩)
  refine ⟨P', rfl, q', hs, ?_, k3.sub fun z hl hz => ⟨hz, hl⟩⟩
  rcases hq with e | e
  · rw [e]; exact h2
  · exact .inr (by omega)
theorem doX_mu3 (X : SrvX) (o : OpL) : (doX X o).m = X.m ∧ (doX X o).u = X.u := by
  unfold doX setS putS cutS needS
  split
  · split <;> exact ⟨rfl, rfl⟩
  · split
    · split <;> exact ⟨rfl, rfl⟩
    · split
      · split <;> exact ⟨rfl, rfl⟩
      · split
        · split <;> exact ⟨rfl, rfl⟩
        · exact ⟨rfl, rfl⟩
theorem ask_seE3 {X : SrvX} (h : X.Ok) (hm : X.m = 3) {x : WhoL} (hx : x.ok) (h3 : x.role < 3) : seE X x = 0 := seesE_ok (askE_ok h.roles h.rules hx) (by rw [hm]; omega)
/-- what rule.Sees answers at roles that stand in a literal -/
theorem sees_of3 {X : SrvX} {sv : Nat} {n : Nat} (hok : X.Ok) (hm : X.m = 3) (hu : X.u = fun k => k) (hn : X.n = n) {x : WhoL} (hx : x.ok) (h3 : x.role < 3) (hsv : seV X x = sv) (g : Nat) (A : Option Addr) (c : Nat) (w : World) (h0 : w.cell? ⟨g, 0, none⟩ = some (.int .i64 0)) (h1 : w.cell? ⟨g, 1, none⟩ = some (.int .i64 1)) (h2 : w.cell? ⟨g, 2, none⟩ = some (.int .i64 2)) (hs : SlR w A n X.rs) :
    Calls Tryz.prog 14 #[.slice (some ⟨g, 0, none⟩) 3 3, .slice A n c, .agg #[.int .i64 x.role, .int .i64 x.why, .int .i64 x.time]] w fun e w' => e = .returned (.tuple #[.int .i64 (sv : Int), .int .i64 0]) ∧ Below w.heap.size w w' := by
  have := sees_any (some ⟨g, 0, none⟩) 3 3 (fun k => ((k : Nat) : Int)) A n c X.rs x w (slv_lit3 h0 h1 h2).1 (by unfold maxLen; omega) hs (by have := rules_le hok; omega)
  have e1 : seesV 3 (fun k => ((k : Nat) : Int)) n X.rs x = sv := by rw [← hsv, ← hn, ← hm]; unfold seV SrvX.zi; rw [hu]
  have e2 : seesE 3 (fun k => ((k : Nat) : Int)) n X.rs x = 0 := by
    have := ask_seE3 hok hm hx h3
    unfold seE SrvX.zi at this
    rw [hu, hm, hn] at this
    exact this
  rw [e1, e2] at this
  exact this
def kxF : FieldL := ⟨⟨#[107]⟩, ⟨#[120]⟩⟩
theorem by_fineT {n : Nat} {er : Int} {L : List ByteArray} {a : Option Addr} {vs : List VerL} (c : Nat) (f : FieldL) (w : World) (h : VsAt w a n vs) (hst : stErr vs = 0) (hL : byR vs f = L) (he : byErr vs f = er) :
    Calls Tryz.prog 28 #[.slice a n c, f.v] w (StrsTo L er w) :=
  by_is c f w h (by have := h.len; have := (stErr_ok.1 hst).1; unfold maxLen; omega) hL he
/-- P28, P33, P40: what is found, in the part, and by the index -/
theorem finds_math {X : SrvX} (hok : X.Ok) {x : WhoL} {sv : Nat} (hse : seE X x = 0) (hsv : seV X x = sv) :
    doT X ⟨5, x, 0, allR, RecL.zero, ⟨#[]⟩, kxF⟩ = ⟨0, [], byL (prt X.vs (sv : Int)) kxF, []⟩ ∧ byErr (prt X.vs (sv : Int)) kxF = 0 ∧ byR (prt X.vs (sv : Int)) kxF = byL (prt X.vs (sv : Int)) kxF ∧
    byX (newX (prt X.vs (sv : Int))) kxF = byL (prt X.vs (sv : Int)) kxF ∧ byE kxF = 0 ∧ (∀ y ∈ byL (prt X.vs (sv : Int)) kxF, y ≠ (⟨#[]⟩ : ByteArray)) := by
  have hst : stErr (prt X.vs (sv : Int)) = 0 := prt_st hok.st _
  have hfd : isFd kxF = true := kx_fd
  have e0 : byErr (prt X.vs (sv : Int)) kxF = 0 := by
    unfold byErr
    rw [if_neg (fun k => k hst), if_pos hfd]
  have hl : seenL X x = prt X.vs (sv : Int) := by unfold seenL; rw [hsv]
  have hc : findC X x kxF = 0 := by
    unfold findC
    rw [if_neg (fun k => k hse), hl]
    exact e0
  refine ⟨?_, e0, ?_, ?_, ?_, fun y hy => ?_⟩
  · rw [doT_5 rfl]
    show (⟨findC X x kxF, [], findT X x kxF, []⟩ : ToldL) = _
    unfold findT
    rw [hc, if_pos rfl, hl]
  · unfold byR
    rw [if_pos e0]
  · unfold byX
    rw [if_pos hfd]
    rfl
  · unfold byE
    rw [if_pos hfd]
  · obtain ⟨v, hv, _⟩ := mem_byL.1 hy
    obtain ⟨h1, h2, _⟩ := getV_some hv
    have h3 := ((stErr_ok.1 hst).2.ver v h1).id
    rw [h2] at h3
    rintro rfl
    exact absurd h3 (by decide)

set_option maxHeartbeats 8000000 in
theorem topFinds_walk (a : Option Addr) (c : Nat) (g : List RowI) (k1 k2 : Int) (w : World) (hs : SlG w a g) (hl : g.length ≤ c) (hm : c ≤ maxLen) :
    Calls Tryz.prog 10 #[.slice a g.length c, .int .i64 k1, .int .i64 k2] w fun e w' => e = .returned (.bool true) ∧ Below w.heap.size w w' := by
  obtain ⟨gl, hgl⟩ : ∃ gl, g.length = gl := ⟨_, rfl⟩
  have HS := Lib.hid hs
  have HL := Lib.hid hl
  have HM := Lib.hid hm
  have HGL := Lib.hid hgl
  rw [hgl]
  clear hs hl hm hgl
  go_enter Tryz.func10, Tryz.ntmps10
  go_wp2_with fail
  refine (topBegun_is _).mono ?_
  rintro e w1 ⟨rfl, hb1⟩
  have HB1 := Lib.hid hb1
  clear hb1
  go_wp2_with fail
  refine (began_is (fun _ => False) _ (fun z h => h.elim)).mono ?_
  rintro e w2 ⟨p, qr, rfl, hs2, hb2⟩
  have hB2 := HB1.out.trans (hb2.mono HB1.out.size)
  have HB2 := Lib.hid hB2
  have HS2 := Lib.hid hs2
  have hops := ops_is a g c w2 (HS.out.below hB2) HL.out HM.out
  rw [HGL.out] at hops
  have HOPS := Lib.hid hops
  clear hs2 hb2 hB2 hops
  go_wp2_with fail
  refine HOPS.out.mono ?_
  rintro e w3 ⟨A, n, ca, l, rfl, hn25, hrow, hk6, hb3⟩
  have HROW := Lib.hid hrow
  have HS3 := Lib.hid (HS2.out.below hb3)
  have HPW : Hid (p < w2.heap.size ∧ qr < w2.heap.size ∧ w1.heap.size ≤ p ∧ w1.heap.size ≤ qr) := ⟨HS2.out.pw, HS2.out.qw, HS2.out.sp, HS2.out.sq⟩
  have HB3 := Lib.hid (HB2.out.trans (hb3.mono HB2.out.size))
  clear hrow hk6 hb3 HOPS HS2
  go_wp2_with fail
  go_loopw [39] (fun i wr => ∃ (k : Nat) (X : SrvX), k ≤ n ∧ i = .int .i64 k ∧ Hid (X.m = 3 ∧ X.u = fun k => k) ∧ Hid (LpR w1.heap.size p qr w3 X wr)) (fun i _ => n - (intOf i).toNat)
  case atStart => exact ⟨0, _, Nat.zero_le _, rfl, ⟨rfl, rfl⟩, qr, HS3.out, .inl rfl, Kept.refl _ _⟩
  case round =>
    obtain ⟨k, X, hk, rfl, HMU, HLP⟩ := hrel
    by_cases hlt : k < n
    · obtain ⟨_, _, _, hkk⟩ := HLP.out
      have hrow := HROW.out.kept hkk (fun b hb => by have := HPW.out; constructor <;> omega)
      obtain ⟨y, b, off, hx, rfl, hat, hin, hok⟩ := hrow.at hlt
      obtain ⟨c0, c1, c2, c3, c4, c5, c6, c7, c8, c9, c10, c11⟩ := hat
      have hbx : Below wr.heap.size wr (wr.alloc (.cells #[.int .i64 y.o.kind, .int .i64 y.o.who.role, .int .i64 y.o.who.why, .int .i64 y.o.who.time, .slice y.P.ra y.o.n y.P.rc, .string y.o.r.id, .int .i64 y.o.r.cats, .slice y.P.p.fa y.o.r.fs.length y.P.p.fc, .slice y.P.p.ra y.o.r.rs.length y.P.p.rc, .string y.o.id, .string y.o.f.key, .string y.o.f.val] 39)) := (Below.refl _ _).alloc (Nat.le_refl _) _
      have HDO := Lib.hid ((HLP.out.below hbx).doing y.o y.P (hin.below hbx) rfl rfl)
      have HMU' : Hid ((doX X y.o).m = 3 ∧ (doX X y.o).u = fun k => k) := ⟨(doX_mu3 X y.o).1.trans HMU.out.1, (doX_mu3 X y.o).2.trans HMU.out.2⟩
      have i1 : (0 : Int) ≤ (k : Int) := by omega
      have i2 : (k : Int) < (n : Int) := by omega
      clear hrow hx hin hok hbx hkk
      go_wp2_with fail
      refine HDO.out.mono ?_
      rintro e w4 ⟨P', rfl, hl4⟩
      have HL4 := Lib.hid hl4
      clear hl4 HDO c0 c1 c2 c3 c4 c5 c6 c7 c8 c9 c10 c11
      go_wp2_with fail
      go_roundw
      case rel => exact ⟨k + 1, _, by omega, by go_num, HMU'.out, HL4.out⟩
      case measure => simp [intOf]; omega
    · obtain rfl : k = n := by omega
      obtain ⟨wq, hwq⟩ : ∃ wq, wq = wr := ⟨_, rfl⟩
      subst hwq
      obtain ⟨q, hsq, hqq, hkq⟩ := HLP.out
      have hbq := HB3.out.trans (hkq.to (S := w.heap.size) (fun z hz => by have := HPW.out; have := HB1.out.size; constructor <;> omega) HB3.out.size)
      have HBQ := Lib.hid hbq
      obtain ⟨ro, hro⟩ : ∃ ro, wit k1 3 = ro := ⟨_, rfl⟩
      have hro3 : ro < 3 := by rw [← hro]; exact_mod_cast wit_lt k1 3 (by omega)
      have HRO := Lib.hid hro
      obtain ⟨W1, hW1⟩ : ∃ W1, W1 = wq.alloc (.cells #[.int .i64 (ro : Int), .int .i64 0, .int .i64 1] 30) := ⟨_, rfl⟩
      have hA1 : Below wq.heap.size wq W1 := by rw [hW1]; exact (Below.refl _ _).alloc (Nat.le_refl _) _
      have hx0 : W1.cell? ⟨wq.heap.size, 0, none⟩ = some (.int .i64 (ro : Int)) := by rw [hW1]; simp [go_sem]
      have hx1 : W1.cell? ⟨wq.heap.size, 1, none⟩ = some (.int .i64 0) := by rw [hW1]; simp [go_sem]
      have hx2 : W1.cell? ⟨wq.heap.size, 2, none⟩ = some (.int .i64 1) := by rw [hW1]; simp [go_sem]
      have hxl := cell_lt hx0
      have HSS : Hid (∀ V, Below W1.heap.size W1 V → V.cell? ⟨wq.heap.size, 0, none⟩ = some (.int .i64 (ro : Int)) ∧ V.cell? ⟨wq.heap.size, 1, none⟩ = some (.int .i64 0) ∧ V.cell? ⟨wq.heap.size, 2, none⟩ = some (.int .i64 1)) := fun V hV => ⟨(hV.cell (p := ⟨wq.heap.size, 0, none⟩) hxl).trans hx0, (hV.cell (p := ⟨wq.heap.size, 1, none⟩) hxl).trans hx1, (hV.cell (p := ⟨wq.heap.size, 2, none⟩) hxl).trans hx2⟩
      obtain ⟨xw, hxw⟩ : ∃ xw : WhoL, xw = ⟨(ro : Int), 0, 1⟩ := ⟨_, rfl⟩
      have hwok : xw.ok ∧ xw.role < 3 := by rw [hxw]; exact ⟨⟨⟨by show (0 : Int) ≤ (ro : Int); omega, by show (ro : Int) ≤ 7; omega⟩, ⟨by show (0 : Int) ≤ 0; omega, by show (0 : Int) ≤ 3; omega⟩, ⟨by show (0 : Int) ≤ 1; omega, by show (1 : Int) ≤ 999; omega⟩⟩, by show (ro : Int) < 3; omega⟩
      obtain ⟨rn, hrn⟩ : ∃ rn, X.n = rn := ⟨_, rfl⟩
      obtain ⟨sv, hsv⟩ : ∃ sv, seV X xw = sv := ⟨_, rfl⟩
      have hs8 : sv ≤ 255 := by rw [← hsv]; exact seV_le X xw
      have hse := ask_seE3 hsq.ok HMU.out.1 hwok.1 hwok.2
      obtain ⟨hmT, hmE, hmR, hmX, hmXE, hmN⟩ := finds_math hsq.ok hse hsv
      have HMT := Lib.hid hmT
      have HME := Lib.hid hmE
      have HMR := Lib.hid hmR
      have HMX := Lib.hid hmX
      have HMXE := Lib.hid hmXE
      have HMN := Lib.hid hmN
      have HSQ := Lib.hid hsq
      have HXW := Lib.hid hxw
      have HS1 := Lib.hid (hsq.below hA1)
      have HR : Hid (∀ V, Below W1.heap.size W1 V → Calls Tryz.prog 15 #[ptr p] V (RulesTo rn X.rs V)) := fun V hV => rules_of V (HS1.out.below hV) hrn
      have HSE : Hid (∀ (g : Nat) (A : Option Addr) (c : Nat) (V : World), V.cell? ⟨g, 0, none⟩ = some (.int .i64 0) → V.cell? ⟨g, 1, none⟩ = some (.int .i64 1) → V.cell? ⟨g, 2, none⟩ = some (.int .i64 2) → SlR V A rn X.rs →
          Calls Tryz.prog 14 #[.slice (some ⟨g, 0, none⟩) 3 3, .slice A rn c, .agg #[.int .i64 (ro : Int), .int .i64 0, .int .i64 1]] V fun e w' => e = .returned (.tuple #[.int .i64 (sv : Int), .int .i64 0]) ∧ Below V.heap.size V w') := fun g A c V h0 h1 h2 hs => by
        have h := sees_of3 hsq.ok HMU.out.1 HMU.out.2 hrn hwok.1 hwok.2 hsv g A c V h0 h1 h2 hs
        rw [hxw] at h
        exact h
      have HBW1 := Lib.hid (hbq.trans (hA1.mono hbq.size))
      have HW1 := Lib.hid hW1
      have HWO := Lib.hid hwok
      have HS8 := Lib.hid hs8
      clear hsq hqq hkq hbq hro hA1 hxl hwok hrn hsv hse hmT hmE hmR hmX hmXE hmN hW1 hlt hk hn25 hs8
      go_wp2_with fail
      refine (wit_to HRO.out _ (by decide) (by decide)).mono ?_
      rintro e w' ⟨rfl, rfl⟩
      go_upto_region 12 with fail
      rw [← HW1.out]
      go_cut [12, 13] from 50 to 58 (fun s12 s13 wc => s12 = .int .i64 (sv : Nat) ∧ s13 = .int .i64 0 ∧ Below W1.heap.size W1 wc)
      case first =>
        clear HS HL HM HGL HB1 HB2 HB3 HROW HPW HMU HLP HBQ HRO HMT HME HMR HMX HMXE HMN HSQ HXW HS1 HBW1 HW1 HWO HS8 HS3 hxw hro3
        go_region_held3 (fun w' => w'.cell? ⟨wq.heap.size, 0, none⟩ = some (.int .i64 (ro : Int)) ∧ w'.cell? ⟨wq.heap.size, 1, none⟩ = some (.int .i64 0) ∧ w'.cell? ⟨wq.heap.size, 2, none⟩ = some (.int .i64 1)) (first | assumption | exact HSS.out _ ((Below.refl _ _).drew) | exact HSS.out _ (((Below.refl _ _).alloc (Nat.le_refl _) _).drew) | exact HSS.out _ (by assumption) | exact HSS.out _ (Below.alloc hW' hW'.size _))
            (first
              | (go_at_call 15; refine (HR.out _ (by first | exact (Below.refl _ _).drew | exact ((Below.refl _ _).alloc (Nat.le_refl _) _).drew)).mono ?_; rintro e w' ⟨A', c', rfl, ho', hb'⟩; have hW' : Below W1.heap.size W1 w' := (by first | exact ((Below.refl W1.heap.size W1).drew).trans hb' | exact (((Below.refl W1.heap.size W1).alloc (Nat.le_refl _) _).drew).trans (hb'.mono (by simp))))
              | (go_at_call 14; refine (HSE.out _ _ _ _ (by first | (simp [go_sem]; done) | exact (hb'.cell (p := ⟨_, 0, none⟩) (by simp)).trans (by simp [go_sem])) (by first | (simp [go_sem]; done) | exact (hb'.cell (p := ⟨_, 1, none⟩) (by simp)).trans (by simp [go_sem])) (by first | (simp [go_sem]; done) | exact (hb'.cell (p := ⟨_, 2, none⟩) (by simp)).trans (by simp [go_sem])) (by first | exact (OwnR.slr ho').1 | exact (OwnR.slr (own_below ho' ((Below.refl _ _).alloc (Nat.le_refl _) _))).1)).mono ?_; rintro e w'' ⟨rfl, hb''⟩; have hW'' : Below W1.heap.size W1 w'' := (by first | exact hW'.trans (hb''.mono hW'.size) | exact (hW'.alloc hW'.size _).trans (hb''.mono (hW'.alloc hW'.size _).size))))
        all_goals (go_wp2_with fail; go_meet)
        all_goals
          case rel => exact ⟨rfl, rfl, hW''⟩
      case rest =>
        obtain ⟨wA, hwAe⟩ : ∃ wA, wA = wc := ⟨_, rfl⟩
        subst hwAe
        obtain ⟨rfl, rfl, hBA⟩ := hcut
        obtain ⟨V, hV⟩ : ∃ V, prt X.vs (sv : Int) = V := ⟨_, rfl⟩
        rw [hV] at HMT HME HMR HMX HMN
        obtain ⟨Y, hY⟩ : ∃ Y, byL V kxF = Y := ⟨_, rfl⟩
        rw [hY] at HMT HMR HMX HMN
        obtain ⟨M, hM⟩ : ∃ M, Y.length = M := ⟨_, rfl⟩
        have hYasc : Asc Y := by rw [← hY]; exact byL_asc V kxF
        have hVst : stErr V = 0 := by rw [← hV]; exact prt_st HSQ.out.ok.st _
        have hM5 : M ≤ 5120 := by rw [← hM, ← hY]; exact Nat.le_trans (newX_len V kxF) (stErr_ok.1 hVst).1
        have HYA := Lib.hid hYasc
        have HVST := Lib.hid hVst
        have HYM := Lib.hid hM
        have HVV := Lib.hid hV
        have HLN : Hid ((newX V kxF).length ≤ 1000000) := Nat.le_trans (newX_len V kxF) (Nat.le_trans (stErr_ok.1 hVst).1 (by omega))
        obtain ⟨W2, hW2⟩ : ∃ W2, W2 = wA.alloc (.cells #[.string ⟨#[107]⟩, .string ⟨#[120]⟩] 37) := ⟨_, rfl⟩
        have hA2 : Below wA.heap.size wA W2 := by rw [hW2]; exact (Below.refl _ _).alloc (Nat.le_refl _) _
        have hb12 := hBA.trans (hA2.mono hBA.size)
        have hf0 : W2.cell? ⟨wA.heap.size, 0, none⟩ = some (.string ⟨#[107]⟩) := by rw [hW2]; simp [go_sem]
        have hf1 : W2.cell? ⟨wA.heap.size, 1, none⟩ = some (.string ⟨#[120]⟩) := by rw [hW2]; simp [go_sem]
        have hfl := cell_lt hf0
        have HFF : Hid (∀ V, Below W2.heap.size W2 V → V.cell? ⟨wA.heap.size, 0, none⟩ = some (.string ⟨#[107]⟩) ∧ V.cell? ⟨wA.heap.size, 1, none⟩ = some (.string ⟨#[120]⟩)) := fun V hV => ⟨(hV.cell (p := ⟨wA.heap.size, 0, none⟩) hfl).trans hf0, (hV.cell (p := ⟨wA.heap.size, 1, none⟩) hfl).trans hf1⟩
        have HSW2 := Lib.hid (HS1.out.below hb12)
        have hdo := do_read (⟨5, xw, 0, allR, RecL.zero, ⟨#[]⟩, kxF⟩ : OpL) ⟨none, 0, At.none⟩ W2 HSW2.out (fun z h => h.elim) ⟨SlR.none _ _, Nat.le_refl _, Nat.zero_le _, zero_ok _, zero_sh, ⟨by show 1 ≤ maxLen; unfold maxLen; omega, by show 1 ≤ maxLen; unfold maxLen; omega⟩⟩ (by refine ⟨?_, ?_, ?_, ?_⟩ <;> (show (5 : Int) ≠ _; decide)) HMT.out
        rw [HXW.out] at hdo
        have HDO : Hid (Calls Tryz.prog 16 #[ptr p, .agg #[.int .i64 5, .int .i64 (ro : Int), .int .i64 0, .int .i64 1, .slice none 0 0, .string ⟨#[]⟩, .int .i64 0, .slice none 0 0, .slice none 0 0, .string ⟨#[]⟩, .string ⟨#[107]⟩, .string ⟨#[120]⟩]] W2 (RdIs ⟨0, [], Y, []⟩ W2)) := hdo
        have HBW2 := Lib.hid (HBW1.out.trans (hb12.mono HBW1.out.size))
        have HW2 := Lib.hid hW2
        obtain ⟨x0, x1, x2⟩ := HSS.out wA hBA
        have l0 := cell_lt x0
        rw [hW2] at HDO
        clear hBA hA2 hb12 hf0 hf1 hfl hdo hW2 hx0 hx1 hx2 hV hY hM hYasc hVst hro3
        go_wp2_with fail
        refine HDO.out.mono ?_
        rintro e w5 ⟨⟨va, vc, ia, ic, na, nc⟩, rfl, hnt, hb5⟩
        rw [← HW2.out] at hnt hb5
        rw [show (ToldL.mk 0 [] Y []).ids.length = M from HYM.out]
        obtain ⟨W6, hW6⟩ : ∃ W6, W6 = w5.alloc (.cells #[.int .i64 0, .slice va 0 vc, .slice ia M ic, .slice na 0 nc] 48) := ⟨_, rfl⟩
        have hA6 : Below w5.heap.size w5 W6 := by rw [hW6]; exact (Below.refl _ _).alloc (Nat.le_refl _) _
        have hb26 := hb5.trans (hA6.mono hb5.size)
        have hT0 : W6.cell? ⟨w5.heap.size, 0, none⟩ = some (.int .i64 0) := by rw [hW6]; simp [go_sem]
        have hT2 : W6.cell? ⟨w5.heap.size, 2, none⟩ = some (.slice ia M ic) := by rw [hW6]; simp [go_sem]
        have hids := OwnS.at_ (own_below hnt.i hA6) rfl
        have HIDS := Lib.hid hids
        have HT0 := Lib.hid hT0
        have HT2 := Lib.hid hT2
        have HB26 := Lib.hid hb26
        have HS6 := Lib.hid (HSW2.out.below hb26)
        have HV6 := Lib.hid (versions_of (L := X.vs) W6 HS6.out rfl)
        have HW6 := Lib.hid hW6
        rw [hW6] at HV6
        clear hnt hb5 hA6 hb26 hT0 hT2 hids hW6 HDO x0 x1 x2 l0
        go_wp2_with fail
        refine HV6.out.mono ?_
        rintro e w7 ⟨A7, m7, c7, rfl, hn7, hb7⟩
        rw [← HW6.out] at hb7
        have HP := part_is c7 sv w7 hn7.at_ HSQ.out.ok.st HS8.out
        rw [HVV.out] at HP
        have HPT := Lib.hid HP
        have HB67 := Lib.hid hb7
        clear hn7 hb7 HV6 HP
        go_wp2_with fail
        refine HPT.out.mono ?_
        rintro e w8 ⟨A8, m8, c8, rfl, hn8, hb8⟩
        have hb68 := HB67.out.trans (hb8.mono HB67.out.size)
        have HB68 := Lib.hid hb68
        have HV8 := Lib.hid hn8.at_
        obtain ⟨f0, f1⟩ := HFF.out w8 (HB26.out.trans (hb68.mono HB26.out.size))
        have HBY : Hid (Calls Tryz.prog 28 #[.slice A8 m8 c8, .agg #[.string ⟨#[107]⟩, .string ⟨#[120]⟩]] w8 (StrsTo Y 0 w8)) := by_fineT c8 kxF w8 hn8.at_ HVST.out HMR.out HME.out
        clear hn8 hb8 hb68 HPT
        go_wp2_with fail
        refine HBY.out.mono ?_
        rintro e w9 ⟨A9, k9, c9, rfl, hk9, ho9, hb9⟩
        obtain rfl : M = k9 := HYM.out.symm.trans hk9
        obtain ⟨hs9, hm9, hc9⟩ := OwnS.at_ ho9 hk9
        have HS9 := Lib.hid hs9
        have HM9 := Lib.hid (And.intro hm9 hc9)
        have HB69 := Lib.hid (HB68.out.trans (hb9.mono HB68.out.size))
        have HNEW := Lib.hid (new_ok c8 w9 (HV8.out.below hb9) HVST.out)
        clear hk9 ho9 hb9 hs9 hm9 hc9 HBY f0 f1
        go_wp2_with fail
        refine HNEW.out.mono ?_
        rintro e wa ⟨pi, rfl, hidx, hba⟩
        have hb6a := HB69.out.trans (hba.mono HB69.out.size)
        have HB6a := Lib.hid hb6a
        have HIX := Lib.hid hidx
        have HSA := Lib.hid (HS9.out.below hba)
        have t0 := (hb6a.cell (p := ⟨w5.heap.size, 0, none⟩) (cell_lt HT0.out)).trans HT0.out
        have t2 := (hb6a.cell (p := ⟨w5.heap.size, 2, none⟩) (cell_lt HT2.out)).trans HT2.out
        have hYl : Y.length ≤ maxLen := by rw [HYM.out]; exact Nat.le_trans HM9.out.1 HM9.out.2
        have hEQ := eqS_is (b := true) ia A9 Y Y ic c9 wa (HIDS.out.1.below hb6a) HSA.out hYl hYl (by simp)
        rw [HYM.out] at hEQ
        have HEQ := Lib.hid hEQ
        have HYL := Lib.hid hYl
        clear hidx hba hb6a hYl hEQ HNEW
        go_wp2_with fail
        refine HEQ.out.mono ?_
        rintro e wb ⟨rfl, hbb⟩
        have hb6b := HB6a.out.trans (hbb.mono HB6a.out.size)
        have HB6b := Lib.hid hb6b
        have HSB := Lib.hid (HSA.out.below hbb)
        obtain ⟨f0, f1⟩ := HFF.out wb (HB26.out.trans (hb6b.mono HB26.out.size))
        have HIB : Hid (Calls Tryz.prog 39 #[.pointer (some ⟨pi, 0, none⟩), .agg #[.string ⟨#[107]⟩, .string ⟨#[120]⟩]] wb (StrsTo Y 0 wb)) := idxBy_is kxF wb (HIX.out.below hbb) HLN.out HMX.out HMXE.out
        clear hbb hb6b HEQ t0 t2
        go_wp2_with fail
        refine HIB.out.mono ?_
        rintro e wd ⟨Ad, kd, cd, rfl, hkd, hod, hbd⟩
        obtain rfl : M = kd := HYM.out.symm.trans hkd
        obtain ⟨hsd, hmd, hcd⟩ := OwnS.at_ hod hkd
        have HSD := Lib.hid (HSB.out.below hbd)
        have HB6d := Lib.hid (HB6b.out.trans (hbd.mono HB6b.out.size))
        have hEQ := eqS_is (b := true) Ad A9 Y Y cd c9 wd hsd HSD.out HYL.out HYL.out (by simp)
        rw [HYM.out] at hEQ
        have HEQ := Lib.hid hEQ
        clear hkd hod hbd hsd hmd hcd hEQ HIB f0 f1
        go_wp2_with fail
        refine HEQ.out.mono ?_
        rintro e w6 ⟨rfl, hb6⟩
        have HS8 := Lib.hid (HSD.out.below hb6)
        have HB7 := Lib.hid ((HBW2.out.trans (HB26.out.mono HBW2.out.size)).trans ((HB6d.out.trans (hb6.mono HB6d.out.size)).mono (Nat.le_trans HBW2.out.size HB26.out.size)))
        clear hb6 HEQ
        have HL8 := Lib.hid HYM.out
        have HA8 := Lib.hid HYA.out
        have HN8 := Lib.hid HMN.out
        have hM6 : M ≤ c9 := HM9.out.1
        have HC8 := Lib.hid HM9.out.2
        obtain ⟨i0, hi, hz0, hz1, hz2⟩ := info_parts Tryz.infoStr
        obtain ⟨iw, hiw⟩ : ∃ i, wit k2 2 = i := ⟨_, rfl⟩
        have hiw1 : iw ≤ 1 := by rw [← hiw]; have := wit_lt k2 2 (by omega); omega
        have HIW := Lib.hid hiw
        obtain ⟨N, hN⟩ : ∃ N : Nat, N = iw + 1 := ⟨_, rfl⟩
        have hNi : (1 : Int) + (iw : Int) = (N : Int) := by omega
        have hN1 : 1 ≤ N := by omega
        have hN2 : N ≤ 60 := by omega
        have hN3 : -9223372036854775808 ≤ (N : Int) ∧ (N : Int) < 9223372036854775808 := by omega
        clear hN hiw1 hiw
        clear HS HL HM HGL HB2 HS3 HPW HROW HMU HLP HBQ HSS HRO HMT HME HMR HMX HMXE HMN HSQ HXW HS1 HR HSE HBW1 HW1 HWO HBW2 HFF HSW2 HW2 HIDS HT0 HT2 HB26 HS6 HW6 HB67 HB68 HV8 HS9 HM9 HB69 HB6a HIX HSA HYL HB6b HSB HSD HB6d HLN HYA HVST HYM HVV HB1 HB3
        go_wp2_with fail
        go_loopw [23, 24] (fun v f wr => ∃ (u : Nat) (s : ByteArray), f = .string s ∧ u ≤ M ∧ Hid (upTo Y s = u) ∧ OwnS w6.heap.size wr v (Y.take u) ∧ Hid (Below w6.heap.size w6 wr)) (fun v _ _ => match v with | .slice _ n _ => M + 1 - n | _ => M + 1)
        case atStart => exact ⟨0, ⟨#[]⟩, rfl, Nat.zero_le _, upTo_empty HN8.out, World.ownsRow_nil _ _ _ _, Below.refl _ _⟩
        case round =>
          obtain ⟨u, s, rfl, huM, HU, hown, HBW⟩ := hrel
          obtain ⟨T, hT⟩ : ∃ T, Y.take u = T := ⟨_, rfl⟩
          rw [hT] at hown
          obtain ⟨Aq, cq, rfl⟩ := hown.form
          have HT := Lib.hid hT
          have hTl : T.length = u := by rw [← hT, List.length_take, HL8.out]; omega
          rw [hTl] at hown ⊢
          have HOW := Lib.hid hown
          have HTL := Lib.hid hTl
          clear hown hT hTl
          have he0 : pageErr Y N = 0 := pageErr_ok.2 ⟨by rw [HL8.out]; omega, HA8.out, by omega, by omega⟩
          obtain ⟨g1, g2⟩ := page_good (s := s) he0
          have hab : above Y s = Y.drop u := by rw [← above_drop s HA8.out, HU.out]
          rw [hab, Int.toNat_natCast] at g1
          rw [hab, List.length_drop, HL8.out] at g2
          obtain ⟨P, hP⟩ : ∃ P, (Y.drop u).take N = P := ⟨_, rfl⟩
          have hPl : P.length = min N (M - u) := by rw [← hP, List.length_take, List.length_drop, HL8.out]
          by_cases hmo : N < M - u
          · have hg2 : pageMore Y s N = true := by rw [g2, decide_eq_true_iff]; omega
            have HPG := Lib.hid (page_to _ Y _ s N wr (HS8.out.below HBW.out) HL8.out hM6 HC8.out he0 (g1.trans hP) hg2)
            have hPN : P.length = N := by omega
            have HP := Lib.hid hP
            clear hP hPl he0 g1 g2 hab hg2
            go_wp2_with fail
            refine (wit_to HIW.out _ (by decide) (by decide)).mono ?_
            rintro e w' ⟨rfl, rfl⟩
            go_wp2_with fail
            refine HPG.out.mono ?_
            rintro e w9 ⟨A7, k7, c7, rfl, hk7, ho7, hb7⟩
            have hkN : k7 = N := hk7.symm.trans hPN
            obtain ⟨hs7, hm7, hc7⟩ := OwnS.at_ ho7 hk7
            have ho9 := HOW.out.below hb7
            have HB9 := Lib.hid (HBW.out.trans (hb7.mono HBW.out.size))
            obtain ⟨A3, c3, w10, hrun, ho3, hb3⟩ := run_appS (c := c7) 33 ho9 hs7 (by rw [HTL.out, hk7]; omega) HB9.out.size
            rw [hk7] at hrun
            have hT2 : Y.take (u + k7) = T ++ P := by rw [← HT.out, ← HP.out, List.take_add, hkN]
            obtain ⟨T2, hT2'⟩ : ∃ T2, T ++ P = T2 := ⟨_, rfl⟩
            rw [hT2'] at hrun ho3 hT2
            obtain ⟨q, hq⟩ : ∃ q, k7 = q + 1 := ⟨k7 - 1, by omega⟩
            have ht2 : T2.length = u + q + 1 := by rw [← hT2', List.length_append, HTL.out, hk7]; omega
            obtain ⟨x, hx⟩ : ∃ x, Y[u + q]? = some x := ⟨_, List.getElem?_eq_getElem (by have := HL8.out; omega)⟩
            have hx2 : T2[u + q]? = some x := by rw [← hT2, List.getElem?_take, if_pos (by omega)]; exact hx
            have hup := upTo_at HA8.out hx
            obtain ⟨hs3, hm3, hc3⟩ := OwnS.sl ho3
            obtain ⟨bz, oz, hA3, hcz⟩ := hs3 (u + q) x hx2
            obtain ⟨t2, htt⟩ : ∃ t2, T2.length = t2 := ⟨_, rfl⟩
            have hrun2 := hrun
            rw [htt] at hrun2 ho3 ht2
            have HT2 := Lib.hid hT2
            have HO3 := Lib.hid ho3
            have HB10 := Lib.hid (HB9.out.trans hb3)
            have HR := Lib.hid hrun2
            have q1 : (t2 : Int) - 1 = ((u + q : Nat) : Int) := by omega
            have q2 : (0 : Int) ≤ ((u + q : Nat) : Int) := by omega
            have q3 : ((u + q : Nat) : Int) < (t2 : Int) := by omega
            have q4 : ((k7 : Int) == 0) = false := by simp; omega
            have q5 : u + q < t2 := by omega
            have q6 : -9223372036854775808 ≤ ((u + q : Nat) : Int) ∧ ((u + q : Nat) : Int) < 9223372036854775808 := by omega
            obtain ⟨uq, huq⟩ : ∃ uq, u + q = uq := ⟨_, rfl⟩
            rw [huq] at q1 q2 q3 q5 q6 hcz hup
            have HUP := Lib.hid hup
            have HUQ : Hid (uq + 1 = u + k7 ∧ uq + 1 ≤ M ∧ t2 = uq + 1 ∧ u < t2 ∧ t2 ≤ M) := ⟨by omega, by omega, by omega, by omega, by omega⟩
            subst hA3
            clear hk7 hkN ho7 hb7 hs7 hm7 hc7 ho9 hrun hrun2 ho3 hb3 hT2 hT2' hq ht2 hx hx2 hup hs3 hm3 hc3 htt huq HPG
            go_wp2_with (at_builtin; refine Lib.wpList_append_run _ rfl _ _ _ _ rfl _ _ rfl rfl _ _ HR.out ?_)
            go_roundw
            case rel => exact ⟨u + k7, x, rfl, by have := HUQ.out; omega, (by show upTo Y x = _; rw [HUP.out]; have := HUQ.out; omega), (show OwnS _ _ _ _ by rw [HT2.out]; exact HO3.out), HB10.out⟩
            case measure =>
              obtain ⟨_, _, _, h4, h5⟩ := HUQ.out
              show M + 1 - t2 < M + 1 - u
              omega
          · have hg2 : pageMore Y s N = false := by rw [g2, decide_eq_false_iff_not]; omega
            have HPG := Lib.hid (page_to _ Y _ s N wr (HS8.out.below HBW.out) HL8.out hM6 HC8.out he0 (g1.trans hP) hg2)
            have hPN : P.length = M - u := by omega
            have HP := Lib.hid hP
            clear hP hPl he0 g1 g2 hab hg2
            go_wp2_with fail
            refine (wit_to HIW.out _ (by decide) (by decide)).mono ?_
            rintro e w' ⟨rfl, rfl⟩
            go_wp2_with fail
            refine HPG.out.mono ?_
            rintro e w9 ⟨A7, k7, c7, rfl, hk7, ho7, hb7⟩
            obtain ⟨hs7, hm7, hc7⟩ := OwnS.at_ ho7 hk7
            have ho9 := HOW.out.below hb7
            have HB9 := Lib.hid (HBW.out.trans (hb7.mono HBW.out.size))
            obtain ⟨A3, c3, w10, hrun, ho3, hb3⟩ := run_appS (c := c7) 33 ho9 hs7 (by rw [HTL.out]; omega) HB9.out.size
            rw [hk7] at hrun
            have hT2 : T ++ P = Y := by rw [← HT.out, ← HP.out, List.take_of_length_le (l := Y.drop u) (by rw [List.length_drop, HL8.out]; omega), List.take_append_drop]
            rw [hT2] at hrun ho3
            have HB10 := Lib.hid (HB9.out.trans hb3)
            obtain ⟨hs3, hm3, hc3⟩ := OwnS.sl ho3
            have HEQ : Hid (∀ cc, Calls Tryz.prog 35 #[.slice A3 M c3, .slice A9 M cc] w10 fun e w' => e = .returned (.bool true) ∧ Below w10.heap.size w10 w') := fun cc => eqS_of c3 cc hs3 (HS8.out.below HB10.out) HL8.out (Nat.le_trans hm3 hc3)
            rw [HL8.out] at hrun
            have HR := Lib.hid hrun
            clear hk7 ho7 hb7 hs7 hm7 hc7 ho9 hrun ho3 hb3 hT2 hs3 hm3 hc3 HPG
            go_wp2_with (at_builtin; refine Lib.wpList_append_run _ rfl _ _ _ _ rfl _ _ rfl rfl _ _ HR.out ?_)
            refine (HEQ.out _).mono ?_
            rintro e w11 ⟨rfl, hb11⟩
            have hb := HB7.out.trans (HB10.out.mono HB7.out.size)
            have HBE := Lib.hid (hb.trans (hb11.mono hb.size))
            clear hb hb11
            go_wp2_with fail
            go_ret
            exact ⟨rfl, HBE.out⟩
end Go.Proofs.YteimdhkajbldjaaGreat
