/- ServerWrites' walk. -/
import Derived.Test.YteimdhkajbldjaaGreatSrvB
import Derived.Test.YteimdhkajbldjaaGreatVAsk
import Derived.Deep.CutRange
import Derived.Deep.RegionHeld3
import Derived.Lib.QuietBelow
import Derived.BigQuiet
import Derived.Deep.QuietTactic
set_option linter.unusedVariables false
set_option linter.unusedSimpArgs false
set_option maxRecDepth 100000
namespace Go.Proofs.YteimdhkajbldjaaGreat
open Go.RowKit Go.Sort

theorem doX_mu (X : SrvX) (o : OpL) : (doX X o).m = X.m ∧ (doX X o).u = X.u := by
  unfold doX setS putS cutS needS
  split
  · split <;> exact ⟨rfl, rfl⟩
  · split
    · split <;> exact ⟨rfl, rfl⟩
    · split
      · split <;> exact ⟨rfl, rfl⟩
      · split
        · split <;> exact ⟨rfl, rfl⟩
        · exact ⟨rfl, rfl⟩
theorem ask_seE {X : SrvX} (h : X.Ok) (hm : X.m = 3) {x : WhoL} (hx : x.ok) (h3 : x.role < 3) : seE X x = 0 := seesE_ok (askE_ok h.roles h.rules hx) (by rw [hm]; omega)
theorem AskOk.who {o : OpL} (h : AskOk o) : o.who.ok ∧ o.who.role < 3 := ⟨⟨⟨h.r0, by have := h.r3; omega⟩, ⟨h.y0, by have := h.y2; omega⟩, ⟨h.t0, by have := h.t40; omega⟩⟩, h.r3⟩
/-- what rule.Sees answers at roles that stand in a literal -/
theorem sees_of {X : SrvX} {sv : Nat} {n : Nat} (hok : X.Ok) (hm : X.m = 3) (hu : X.u = fun k => k) (hn : X.n = n) {x : WhoL} (hx : x.ok) (h3 : x.role < 3) (hsv : seV X x = sv) (g : Nat) (A : Option Addr) (c : Nat) (w : World) (h0 : w.cell? ⟨g, 0, none⟩ = some (.int .i64 0)) (h1 : w.cell? ⟨g, 1, none⟩ = some (.int .i64 1)) (h2 : w.cell? ⟨g, 2, none⟩ = some (.int .i64 2)) (hs : SlR w A n X.rs) :
    Calls Tryz.prog 14 #[.slice (some ⟨g, 0, none⟩) 3 3, .slice A n c, .agg #[.int .i64 x.role, .int .i64 x.why, .int .i64 x.time]] w fun e w' => e = .returned (.tuple #[.int .i64 (sv : Int), .int .i64 0]) ∧ Below w.heap.size w w' := by
  have := sees_any (some ⟨g, 0, none⟩) 3 3 (fun k => ((k : Nat) : Int)) A n c X.rs x w (slv_lit3 h0 h1 h2).1 (by unfold maxLen; omega) hs (by have := rules_le hok; omega)
  have e1 : seesV 3 (fun k => ((k : Nat) : Int)) n X.rs x = sv := by rw [← hsv, ← hn, ← hm]; unfold seV SrvX.zi; rw [hu]
  have e2 : seesE 3 (fun k => ((k : Nat) : Int)) n X.rs x = 0 := by
    have := ask_seE hok hm hx h3
    unfold seE SrvX.zi at this
    rw [hu, hm, hn] at this
    exact this
  rw [e1, e2] at this
  exact this
theorem chk_sub {X : SrvX} {x : WhoL} {c : Int} (h : chkE X x c = 0) : sub c.toNat (seV X x) = 0 ∧ 0 ≤ c ∧ c ≤ 255 := by
  unfold chkE at h
  split at h
  · contradiction
  · rename_i h0
    split at h
    · rename_i h1
      unfold maV mayV at h1
      rw [Bool.and_eq_true, decide_eq_true_eq, decide_eq_true_eq] at h1
      refine ⟨h1.2, ?_⟩
      have h2 := h1.1
      unfold mayE at h2
      split at h2
      · contradiction
      · split at h2
        · assumption
        · cases h2
    · cases h
/-- what becomes of the versions -/
theorem writes_math {X : SrvX} {o : OpL} (hok : X.Ok) : ((o.kind = 2 ∨ o.kind = 3) ∧ (doT X o).code = 0 ∧ ∃ v, (doX X o).vs = X.vs ++ [v] ∧ (0 ≤ v.r.cats ∧ v.r.cats ≤ 255) ∧ sub v.r.cats.toNat (seV X o.who) = 0 ∧ v.gone = decide (o.kind = 3)) ∨
    (¬ ((o.kind = 2 ∨ o.kind = 3) ∧ (doT X o).code = 0) ∧ (doX X o).vs = X.vs) := by
  by_cases h0 : (doT X o).code = 0
  · by_cases h2 : o.kind = 2
    · rw [doT_2 h2] at h0 ⊢
      rw [doX_2 h2, putS_yes h0]
      have hr : o.r.err = 0 := by
        apply Classical.byContradiction
        intro hr
        have h0' : putC X o.who o.r = 0 := h0
        rw [putC_rec hr] at h0'
        exact hr h0'
      have hc : chkE X o.who o.r.cats = 0 := by
        apply Classical.byContradiction
        intro hc
        have h0' : putC X o.who o.r = 0 := h0
        rw [putC_chk hr hc] at h0'
        exact hc h0'
      obtain ⟨k1, k2⟩ := chk_sub hc
      exact .inl ⟨.inl h2, h0, ⟨o.r, false⟩, rfl, k2, k1, by rw [h2]; rfl⟩
    · by_cases h3 : o.kind = 3
      · rw [doT_3 h3] at h0 ⊢
        rw [doX_3 h3, cutS_yes h0]
        have hc : chkE X o.who o.r.cats = 0 := by
          apply Classical.byContradiction
          intro hc
          have h0' : cutC X o.who o.id o.r.cats = 0 := h0
          rw [cutC_chk hc] at h0'
          exact hc h0'
        obtain ⟨k1, k2⟩ := chk_sub hc
        exact .inl ⟨.inr h3, h0, goneV o.id o.r.cats, rfl, k2, k1, by rw [h3]; rfl⟩
      · refine .inr ⟨fun k => by rcases k.1 with k | k; exact h2 k; exact h3 k, ?_⟩
        unfold doX setS needS
        rw [if_neg h2, if_neg h3]
        split
        · split <;> rfl
        · split
          · split <;> rfl
          · rfl
  · exact .inr ⟨fun k => h0 k.2, by rw [(wrong_math h0).1]⟩
set_option maxHeartbeats 8000000 in
theorem serverWrites_walk (a : Option Addr) (c : Nat) (g : List RowI) (w : World) (hs : SlG w a g) (hl : g.length ≤ c) (hm : c ≤ maxLen) :
    Calls Tryz.prog 4 #[.slice a g.length c] w fun e w' => e = .returned (.bool true) ∧ Below w.heap.size w w' := by
  obtain ⟨gl, hgl⟩ : ∃ gl, g.length = gl := ⟨_, rfl⟩
  have HS := Lib.hid hs
  have HL := Lib.hid hl
  have HM := Lib.hid hm
  have HGL := Lib.hid hgl
  rw [hgl]
  clear hs hl hm hgl
  go_enter Tryz.func4, Tryz.ntmps4
  go_wp2_with fail
  refine (srvBegun_is _).mono ?_
  rintro e w1 ⟨rfl, hb1⟩
  have HB1 := Lib.hid hb1
  clear hb1
  go_wp2_with fail
  refine (ruled_is (fun _ => False) _ (fun z h => h.elim)).mono ?_
  rintro e w2 ⟨p, rfl, hs2, hb2⟩
  have hB2 := HB1.out.trans (hb2.mono HB1.out.size)
  have HASK := Lib.hid (asked_is a g c w2 (HS.out.below hB2) HL.out HM.out)
  rw [HGL.out] at HASK
  have HS2 := Lib.hid hs2
  have HB2 := Lib.hid hB2
  clear hs2 hb2 hB2
  go_wp2_with fail
  refine HASK.out.mono ?_
  rintro e w3 ⟨A, n, ca, l, rfl, hn30, hrow, hb3⟩
  have HROW := Lib.hid hrow
  have HS3 := Lib.hid (HS2.out.below hb3)
  have HPW : Hid (p < w2.heap.size) := HS2.out.pw
  have HB3 := Lib.hid (HB2.out.trans (hb3.mono HB2.out.size))
  clear hrow hb3 HASK HS2
  go_wp2_with fail
  go_loopw [23] (fun i wr => ∃ (k : Nat) (X : SrvX), k ≤ n ∧ i = .int .i64 k ∧ Hid (X.m = 3 ∧ X.u = fun k => k) ∧ Hid (LpS w1.heap.size p w3 X wr)) (fun i _ => n - (intOf i).toNat)
  case atStart => exact ⟨0, _, Nat.zero_le _, rfl, ⟨rfl, rfl⟩, LpS.start HS3.out⟩
  case round =>
    obtain ⟨k, X, hk, rfl, HMU, HLP⟩ := hrel
    by_cases hlt : k < n
    · have hrow := HROW.out.kept HLP.out.kept (fun b hb => by have := HPW.out; omega)
      obtain ⟨x, b, off, hx, rfl, hat, hin, hok⟩ := hrow.at hlt
      obtain ⟨c0, c1, c2, c3, c4, c5, c6, c7, c8, c9, c10, c11⟩ := hat
      obtain ⟨W1, hW1⟩ : ∃ W1, W1 = wr.alloc (.cells #[.int .i64 x.o.kind, .int .i64 x.o.who.role, .int .i64 x.o.who.why, .int .i64 x.o.who.time, .slice x.P.ra x.o.n x.P.rc, .string x.o.r.id, .int .i64 x.o.r.cats, .slice x.P.p.fa x.o.r.fs.length x.P.p.fc, .slice x.P.p.ra x.o.r.rs.length x.P.p.rc, .string x.o.id, .string x.o.f.key, .string x.o.f.val] 39) := ⟨_, rfl⟩
      have hA1 : Below wr.heap.size wr W1 := by rw [hW1]; exact (Below.refl _ _).alloc (Nat.le_refl _) _
      have hat1 : OpAt W1 wr.heap.size 0 x := by rw [hW1]; constructor <;> simp [go_sem]
      have hsz1 : W1.heap.size = wr.heap.size + 1 := by rw [hW1]; simp
      have HLP1 := Lib.hid (HLP.out.below hA1)
      have HIN := Lib.hid (hin.below hA1)
      have HAT := Lib.hid hat1
      have HASKO := Lib.hid hok
      have HW1 := Lib.hid hW1
      have HSZ1 := Lib.hid hsz1
      obtain ⟨rn, hrn⟩ : ∃ rn, X.n = rn := ⟨_, rfl⟩
      obtain ⟨sv, hsv⟩ : ∃ sv, seV X x.o.who = sv := ⟨_, rfl⟩
      have hs8 : sv ≤ 255 := by rw [← hsv]; exact seV_le X x.o.who
      have HRN := Lib.hid hrn
      have HSV := Lib.hid hsv
      have HR : Hid (∀ V, Below W1.heap.size W1 V → Calls Tryz.prog 15 #[ptr p] V (RulesTo rn X.rs V)) := fun V hV => (HLP1.out.below hV).rules HRN.out
      have HSE : Hid (∀ (g : Nat) (A : Option Addr) (c : Nat) (V : World), V.cell? ⟨g, 0, none⟩ = some (.int .i64 0) → V.cell? ⟨g, 1, none⟩ = some (.int .i64 1) → V.cell? ⟨g, 2, none⟩ = some (.int .i64 2) → SlR V A rn X.rs →
          Calls Tryz.prog 14 #[.slice (some ⟨g, 0, none⟩) 3 3, .slice A rn c, .agg #[.int .i64 x.o.who.role, .int .i64 x.o.who.why, .int .i64 x.o.who.time]] V fun e w' => e = .returned (.tuple #[.int .i64 (sv : Int), .int .i64 0]) ∧ Below V.heap.size V w') := fun g A c V h0 h1 h2 hs => sees_of HLP1.out.ok HMU.out.1 HMU.out.2 HRN.out HASKO.out.who.1 HASKO.out.who.2 HSV.out g A c V h0 h1 h2 hs
      have HSS : Hid (∀ V, Below W1.heap.size W1 V → V.cell? ⟨wr.heap.size, 1, none⟩ = some (.int .i64 x.o.who.role) ∧ V.cell? ⟨wr.heap.size, 2, none⟩ = some (.int .i64 x.o.who.why) ∧ V.cell? ⟨wr.heap.size, 3, none⟩ = some (.int .i64 x.o.who.time)) := fun V hV => by
        have h := HAT.out.below hV
        have k1 := h.c1
        have k2 := h.c2
        have k3 := h.c3
        simp only [Nat.zero_add] at k1 k2 k3
        exact ⟨k1, k2, k3⟩
      have i1 : (0 : Int) ≤ (k : Int) := by omega
      have i2 : (k : Int) < (n : Int) := by omega
      clear hrow hx hin hok hA1 hat1 hW1 hsz1 hrn hsv
      go_wp2_with fail
      rw [← HW1.out]
      obtain ⟨k1, k2, k3⟩ := HSS.out W1 (Below.refl _ _)
      clear c0 c1 c2 c3 c4 c5 c6 c7 c8 c9 c10 c11
      go_cut [7, 8] from 28 to 35 (fun s7 s8 wc => s7 = .int .i64 (sv : Nat) ∧ s8 = .int .i64 0 ∧ Below W1.heap.size W1 wc)
      case first =>
        clear HS HL HM HGL HB1 HB2 HB3 HROW HS3 HPW HMU HLP HLP1 HIN HAT HASKO HW1 HRN HSV hs8 hk hlt i1 i2 hn30
        go_region_held3 (fun w' => w'.cell? ⟨wr.heap.size, 1, none⟩ = some (.int .i64 x.o.who.role) ∧ w'.cell? ⟨wr.heap.size, 2, none⟩ = some (.int .i64 x.o.who.why) ∧ w'.cell? ⟨wr.heap.size, 3, none⟩ = some (.int .i64 x.o.who.time)) (first | assumption | exact HSS.out _ ((Below.refl _ _).drew) | exact HSS.out _ (((Below.refl _ _).alloc (Nat.le_refl _) _).drew) | exact HSS.out _ (by assumption) | exact HSS.out _ (Below.alloc hW' hW'.size _))
          (first
            | (go_at_call 15; refine (HR.out _ (by first | exact (Below.refl _ _).drew | exact ((Below.refl _ _).alloc (Nat.le_refl _) _).drew)).mono ?_; rintro e w' ⟨A', c', rfl, ho', hb'⟩; have hW' : Below W1.heap.size W1 w' := (by first | exact ((Below.refl W1.heap.size W1).drew).trans hb' | exact (((Below.refl W1.heap.size W1).alloc (Nat.le_refl _) _).drew).trans (hb'.mono (by simp))))
            | (go_at_call 14; refine (HSE.out _ _ _ _ (by first | (simp [go_sem]; done) | exact (hb'.cell (p := ⟨_, 0, none⟩) (by simp)).trans (by simp [go_sem])) (by first | (simp [go_sem]; done) | exact (hb'.cell (p := ⟨_, 1, none⟩) (by simp)).trans (by simp [go_sem])) (by first | (simp [go_sem]; done) | exact (hb'.cell (p := ⟨_, 2, none⟩) (by simp)).trans (by simp [go_sem])) (by first | exact (OwnR.slr ho').1 | exact (OwnR.slr (own_below ho' ((Below.refl _ _).alloc (Nat.le_refl _) _))).1)).mono ?_; rintro e w'' ⟨rfl, hb''⟩; have hW'' : Below W1.heap.size W1 w'' := (by first | exact hW'.trans (hb''.mono hW'.size) | exact (hW'.alloc hW'.size _).trans (hb''.mono (hW'.alloc hW'.size _).size))))
        all_goals (go_wp2_with fail; go_meet)
        all_goals
          case rel => exact ⟨rfl, rfl, hW''⟩
      case rest =>
        obtain ⟨wA, hwAe⟩ : ∃ wA, wA = wc := ⟨_, rfl⟩
        subst hwAe
        obtain ⟨rfl, rfl, hBA⟩ := hcut
        obtain ⟨q, hql, hqS, hqq, hdo⟩ := HLP.out.own
        have HDO := Lib.hid hdo
        have HQL := Lib.hid hql
        have HV := Lib.hid ((HLP1.out.below hBA).versions rfl)
        have HBA := Lib.hid hBA
        have HBWA : Hid (Below wr.heap.size wr wA) := by
          have h : Below wr.heap.size wr W1 := by rw [HW1.out]; exact (Below.refl _ _).alloc (Nat.le_refl _) _
          exact h.trans (hBA.mono h.size)
        clear hdo hql hqS hqq hBA k1 k2 k3
        go_wp2_with fail
        refine HV.out.mono ?_
        rintro e w5 ⟨A5, m5, c5, rfl, hn5, hb5⟩
        have hb15 := HBA.out.trans (hb5.mono HBA.out.size)
        have hbr5 := HBWA.out.trans (hb5.mono HBWA.out.size)
        obtain ⟨T, hT⟩ : ∃ T, doT X x.o = T := ⟨_, rfl⟩
        have HD := Lib.hid (HDO.out w5 (doX X x.o) T x.o x.P hbr5 (HIN.out.below hb15) hT rfl)
        have hat5 := HAT.out.below hb15
        have HAT5 := Lib.hid hat5
        have HN5 := Lib.hid hn5
        have HM5 := Lib.hid hn5.at_.len
        have HB5 := Lib.hid hbr5
        have HTT := Lib.hid hT
        obtain ⟨c0, c1, c2, c3, c4, c5', c6, c7, c8, c9, c10, c11⟩ := hat5
        simp only [Nat.zero_add] at c0 c1 c2 c3 c4 c5' c6 c7 c8 c9 c10 c11
        clear hn5 hb5 hb15 hbr5 hT HV
        go_wp2_with fail
        refine HD.out.mono ?_
        rintro e w6 ⟨P6, rfl, _, hl6, hk6⟩
        obtain ⟨er, her⟩ : ∃ er, T.code = er := ⟨_, rfl⟩
        obtain ⟨W7, hW7⟩ : ∃ W7, W7 = w6.alloc (.cells #[.int .i64 T.code, .slice P6.va T.vs.length P6.vc, .slice P6.ia T.ids.length P6.ic, .slice P6.na T.ns.length P6.nc] 48) := ⟨_, rfl⟩
        have hA7 : Below w6.heap.size w6 W7 := by rw [hW7]; exact (Below.refl _ _).alloc (Nat.le_refl _) _
        have t7 : W7.cell? ⟨w6.heap.size, 0, none⟩ = some (.int .i64 er) := by rw [hW7, her]; simp [go_sem]
        have hoff : Off p q wr.heap.size := by
          have h1 := HS3.out.pw
          have h2 := HLP.out.kept.size
          have h3 := HQL.out
          exact ⟨by omega, by omega⟩
        have hat7 := (HAT5.out.kept hk6 hoff).below hA7
        have hw7 : NewW wA.heap.size W7 A5 m5 c5 X.vs := (HN5.out.kept hk6 (fun b hb _ => by
          have h1 := HS3.out.pw
          have h2 := HLP.out.kept.size
          have h3 := HQL.out
          have h4 := HBWA.out.size
          exact ⟨by omega, by omega⟩)).below hA7
        have HL7 := Lib.hid (hl6.below hA7)
        obtain ⟨L', hL'⟩ : ∃ L', (doX X x.o).vs = L' := ⟨_, rfl⟩
        have HV := Lib.hid (HL7.out.versions hL')
        have HST' : Hid (stErr L' = 0) := by show _ = _; rw [← hL']; exact hl6.ok.st
        have HMATH := Lib.hid (writes_math (o := x.o) HLP.out.ok)
        rw [HTT.out, hL', her] at HMATH
        have HAT7 := Lib.hid hat7
        have HW7N := Lib.hid hw7
        have HT7 := Lib.hid t7
        have HW7 := Lib.hid hW7
        rw [hW7] at HV
        clear hl6 hk6 hA7 t7 hoff hat7 hw7 hL' hW7 HD c0 c1 c2 c3 c4 c5' c6 c7 c8 c9 c10 c11 her
        go_wp2_with fail
        refine HV.out.mono ?_
        rintro e w8 ⟨A8, m8, c8, rfl, hn8, hb8⟩
        rw [← HW7.out] at hb8 hn8
        have hat8 := (HAT7.out.below hb8).c0
        have t8 := (hb8.cell (p := ⟨w6.heap.size, 0, none⟩) (cell_lt HT7.out)).trans HT7.out
        have HN8 := Lib.hid hn8
        have HM8 := Lib.hid hn8.at_.len
        have HW8N := Lib.hid (HW7N.out.below hb8)
        have HL8 := Lib.hid (HL7.out.below hb8)
        have HMU' : Hid ((doX X x.o).m = 3 ∧ (doX X x.o).u = fun k => k) := ⟨(doX_mu X x.o).1.trans HMU.out.1, (doX_mu X x.o).2.trans HMU.out.2⟩
        clear hn8 hb8 HV
        rcases HMATH.out with ⟨hk23, he0, v, hLv, hvc, hvs, hvg⟩ | ⟨hno, hLv⟩
        · have hm5 := HM5.out
          obtain rfl : m8 = m5 + 1 := by rw [HM8.out, hLv, List.length_append, ← hm5]; rfl
          have h5120 : m5 ≤ 5120 := by rw [hm5]; exact (stErr_ok.1 HLP.out.ok.st).1
          obtain ⟨lv, hl1, hl2, hl3⟩ := HN8.out.at_
          obtain ⟨y, hy⟩ : ∃ y, lv[m5]? = some y := ⟨_, List.getElem?_eq_getElem (by omega)⟩
          have hyv : y.v = v := by
            have e : L'[m5]? = some y.v := by rw [← hl1, List.getElem?_map, hy]; rfl
            rw [hLv, hm5, List.getElem?_append_right (Nat.le_refl _), Nat.sub_self] at e
            exact (Option.some.inj e).symm
          have hvt : VsAt w8 A8 m5 X.vs := ⟨lv.take m5, by rw [List.map_take, hl1, hLv, hm5, List.take_left], by rw [List.length_take]; omega, fun j z hz => hl3 j z (by rw [List.getElem?_take] at hz; split at hz <;> first | exact hz | cases hz)⟩
          obtain ⟨hyi, bv, ov, hA8, v0, v1, v2, v3, v4⟩ := hl3 m5 y hy
          rw [hyv] at v1 v4
          obtain ⟨cn, hcn⟩ := Int.eq_ofNat_of_zero_le hvc.1
          have hband : bits .andNot .i64 v.r.cats (sv : Int) = 0 := by
            rw [hcn, i64_andNot cn sv (by omega) (by omega)]
            rw [hcn, Int.toNat_natCast, HSV.out] at hvs
            rw [hvs]
            rfl
          obtain ⟨gn, hgn⟩ : ∃ gn, v.gone = gn := ⟨_, rfl⟩
          rw [hgn] at v4 hvg
          have hcap := HN8.out.cap
          have k0 := cell_regrown hat8
          have k1 := cell_regrown v1
          have k4 := cell_regrown v4
          have cS : ∀ d os, Calls Tryz.prog 19 #[.slice A8 m5 c8, .slice A5 m5 c5] (grow (redrawn w8 d) os) fun e w'' => e = .returned (.bool true) ∧ ∃ p : Regrown, w'' = grow (redrawn w8 p.d) p.os := fun d os => Calls.regrown_of (alike_is (b := true) c8 c5 _ (hvt.below (below_regrown w8 d os)) (HW8N.out.at_.below (below_regrown w8 d os)) HLP.out.ok.st HLP.out.ok.st (by simp))
          have hwr : IntKind.i64.wrap ((m5 : Int) + 1) = (m5 : Int) + 1 := by rw [IntKind.wrap_i64]; omega
          have j0 : (0 : Int) ≤ (m5 : Int) := by omega
          have j1 : (m5 : Int) ≤ (c8 : Int) := by omega
          have j2 : (m5 : Int) < (m5 : Int) + 1 := by omega
          subst hA8
          subst he0
          have HWR := Lib.hid hwr
          have hcs : ((x.o.kind == 2) = true ∧ (x.o.kind != 2) = false ∧ (x.o.kind == 3) = false ∧ gn = false) ∨ ((x.o.kind == 2) = false ∧ (x.o.kind != 2) = true ∧ (x.o.kind == 3) = true ∧ (x.o.kind != 3) = false ∧ gn = true) := by
            rcases hk23 with h | h
            · exact .inl ⟨by simp [h], by simp [h], by simp [h], by rw [hvg, h]; rfl⟩
            · exact .inr ⟨by simp [h], by simp [h], by simp [h], by simp [h], by rw [hvg, h]; rfl⟩
          clear hm5 hl1 hl2 hl3 hy hyv hvt hyi v0 v1 v2 v3 v4 hcn hvs hgn hvg hcap hLv hk23 hvc hwr HMATH
          rcases hcs with ⟨e1, e2, e3, rfl⟩ | ⟨e1, e2, e3, e4, rfl⟩
          all_goals
            go_wp2_with fail
            have hwr := HWR.out
            refine region_below_lit (by kernel_rfl) (by kernel_rfl) ?_
            repeat (go_big_quiet_step (with_reducible first | exact cS _ _))
            refine wpQuiet_nil ?_
            intro _ hw'
            obtain ⟨⟨dq, osq⟩, hw''⟩ := hw'
            subst hw''
            have HL9 := Lib.hid (HL8.out.below (below_regrown w8 dq osq))
            generalize grow (redrawn w8 dq) osq = w9 at HL9 ⊢
            clear k0 k1 k4 cS hwr
            go_wp2_with fail
            go_roundw
            case rel => exact ⟨k + 1, _, by omega, by go_num, HMU'.out, HL9.out⟩
            case measure => simp [intOf]; omega
        · have HSM := Lib.hid (alike_is (b := true) c5 c8 w8 HW8N.out.at_ HN8.out.at_ HLP.out.ok.st HST'.out (by rw [hLv]; simp))
          have hcs : ((x.o.kind == 2) = false ∧ (x.o.kind != 2) = true ∧ (x.o.kind == 3) = false ∧ (x.o.kind != 3) = true) ∨ ((x.o.kind == 2) = true ∧ (x.o.kind != 2) = false ∧ (er == 0) = false ∧ (er != 0) = true) ∨ ((x.o.kind == 2) = false ∧ (x.o.kind != 2) = true ∧ (x.o.kind == 3) = true ∧ (x.o.kind != 3) = false ∧ (er == 0) = false ∧ (er != 0) = true) := by
            by_cases h2 : x.o.kind = 2
            · have h0 : ¬ er = 0 := fun e => hno ⟨.inl h2, e⟩
              exact .inr (.inl ⟨by simp [h2], by simp [h2], by simpa using h0, by simpa using h0⟩)
            · by_cases h3 : x.o.kind = 3
              · have h0 : ¬ er = 0 := fun e => hno ⟨.inr h3, e⟩
                exact .inr (.inr ⟨by simp [h3], by simp [h3], by simp [h3], by simp [h3], by simpa using h0, by simpa using h0⟩)
              · exact .inl ⟨by simpa using h2, by simpa using h2, by simpa using h3, by simpa using h3⟩
          clear hno hLv HMATH
          rcases hcs with ⟨e1, e2, e3, e4⟩ | ⟨e1, e2, e3, e4⟩ | ⟨e1, e2, e3, e4, e5, e6⟩
          all_goals
            go_wp2_with fail
            refine HSM.out.mono ?_
            rintro e w9 ⟨rfl, hb9⟩
            have HL9 := Lib.hid (HL8.out.below hb9)
            clear hb9 HSM
            go_wp2_with fail
            go_roundw
            case rel => exact ⟨k + 1, _, by omega, by go_num, HMU'.out, HL9.out⟩
            case measure => simp [intOf]; omega
    · obtain rfl : k = n := by omega
      have HBR := Lib.hid (HB3.out.trans ((HLP.out.far (by have := HS3.out.sp; have := HS3.out.pw; omega)).mono HB1.out.size))
      go_wp2_with fail
      go_ret
      exact ⟨rfl, HBR.out⟩
end Go.Proofs.YteimdhkajbldjaaGreat
