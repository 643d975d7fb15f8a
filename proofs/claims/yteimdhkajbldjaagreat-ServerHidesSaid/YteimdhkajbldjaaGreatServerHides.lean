/- ServerHides' walk. -/
import Derived.Test.YteimdhkajbldjaaGreatVPair
import Derived.Test.YteimdhkajbldjaaGreatVAsk
import Derived.Test.YteimdhkajbldjaaGreatVTold
import Derived.Deep.CutRange
import Derived.Deep.RegionHeld3
set_option linter.unusedVariables false
set_option linter.unusedSimpArgs false
set_option maxRecDepth 100000
namespace Go.Proofs.YteimdhkajbldjaaGreat
open Go.RowKit Go.Sort

theorem doX_mu2 (X : SrvX) (o : OpL) : (doX X o).m = X.m ∧ (doX X o).u = X.u := by
  unfold doX setS putS cutS needS
  split
  · split <;> exact ⟨rfl, rfl⟩
  · split
    · split <;> exact ⟨rfl, rfl⟩
    · split
      · split <;> exact ⟨rfl, rfl⟩
      · split
        · split <;> exact ⟨rfl, rfl⟩
        · exact ⟨rfl, rfl⟩
theorem ask_seE2 {X : SrvX} (h : X.Ok) (hm : X.m = 3) {x : WhoL} (hx : x.ok) (h3 : x.role < 3) : seE X x = 0 := seesE_ok (askE_ok h.roles h.rules hx) (by rw [hm]; omega)
theorem AskOk.who2 {o : OpL} (h : AskOk o) : o.who.ok ∧ o.who.role < 3 := ⟨⟨⟨h.r0, by have := h.r3; omega⟩, ⟨h.y0, by have := h.y2; omega⟩, ⟨h.t0, by have := h.t40; omega⟩⟩, h.r3⟩
/-- what rule.Sees answers at roles that stand in a literal -/
theorem sees_of2 {X : SrvX} {sv : Nat} {n : Nat} (hok : X.Ok) (hm : X.m = 3) (hu : X.u = fun k => k) (hn : X.n = n) {x : WhoL} (hx : x.ok) (h3 : x.role < 3) (hsv : seV X x = sv) (g : Nat) (A : Option Addr) (c : Nat) (w : World) (h0 : w.cell? ⟨g, 0, none⟩ = some (.int .i64 0)) (h1 : w.cell? ⟨g, 1, none⟩ = some (.int .i64 1)) (h2 : w.cell? ⟨g, 2, none⟩ = some (.int .i64 2)) (hs : SlR w A n X.rs) :
    Calls Tryz.prog 14 #[.slice (some ⟨g, 0, none⟩) 3 3, .slice A n c, .agg #[.int .i64 x.role, .int .i64 x.why, .int .i64 x.time]] w fun e w' => e = .returned (.tuple #[.int .i64 (sv : Int), .int .i64 0]) ∧ Below w.heap.size w w' := by
  have := sees_any (some ⟨g, 0, none⟩) 3 3 (fun k => ((k : Nat) : Int)) A n c X.rs x w (slv_lit3 h0 h1 h2).1 (by unfold maxLen; omega) hs (by have := rules_le hok; omega)
  have e1 : seesV 3 (fun k => ((k : Nat) : Int)) n X.rs x = sv := by rw [← hsv, ← hn, ← hm]; unfold seV SrvX.zi; rw [hu]
  have e2 : seesE 3 (fun k => ((k : Nat) : Int)) n X.rs x = 0 := by
    have := ask_seE2 hok hm hx h3
    unfold seE SrvX.zi at this
    rw [hu, hm, hn] at this
    exact this
  rw [e1, e2] at this
  exact this
/-- the kinds that are asked for -/
theorem and255 (s : Int) : ∃ n : Nat, n ≤ 255 ∧ bits .and .i64 s 255 = (n : Int) := by
  refine ⟨(s % 256).toNat, by omega, ?_⟩
  have := i64_and_any s 255 8 (by decide) (by decide)
  rw [show ((255 : Nat) : Int) = 255 from rfl] at this
  rw [this]
  omega
theorem among_sub {ct : Int} {s : Nat} (h0 : 0 ≤ ct) (h1 : ct ≤ 255) (hs : s ≤ 255) : (among ct (s : Int) = true ↔ bits .andNot .i64 ct (s : Int) = 0) := by
  obtain ⟨cn, rfl⟩ := Int.eq_ofNat_of_zero_le h0
  unfold among
  rw [decide_eq_true_eq, Int.toNat_natCast, Int.toNat_natCast, i64_andNot cn s (by omega) (by omega)]
  omega

set_option maxHeartbeats 8000000 in
theorem serverHides_walk (a : Option Addr) (c : Nat) (g : List RowI) (s0 : Int) (w : World) (hs : SlG w a g) (hl : g.length ≤ c) (hm : c ≤ maxLen) :
    Calls Tryz.prog 3 #[.slice a g.length c, .int .i64 s0] w fun e w' => e = .returned (.bool true) ∧ Below w.heap.size w w' := by
  obtain ⟨gl, hgl⟩ : ∃ gl, g.length = gl := ⟨_, rfl⟩
  obtain ⟨s, hs255, hsb⟩ := and255 s0
  have HS := Lib.hid hs
  have HL := Lib.hid hl
  have HM := Lib.hid hm
  have HGL := Lib.hid hgl
  rw [hgl]
  clear hs hl hm hgl
  go_enter Tryz.func3, Tryz.ntmps3
  go_wp2_with fail
  refine (srvBegun_is _).mono ?_
  rintro e w1 ⟨rfl, hb1⟩
  have HB1 := Lib.hid hb1
  clear hb1
  go_wp2_with fail
  refine (ruled_is (fun _ => False) _ (fun z h => h.elim)).mono ?_
  rintro e w2 ⟨pa, rfl, hs2, hb2⟩
  have HB2 := Lib.hid (HB1.out.trans (hb2.mono HB1.out.size))
  have HSA2 := Lib.hid hs2
  have HSZ2 := Lib.hid hb2.size
  clear hs2 hb2
  go_wp2_with fail
  refine (ruled_is (fun z => z = pa) _ (fun z h => by rw [h]; exact HSA2.out.pw)).mono ?_
  rintro e w3 ⟨pb, rfl, hs3, hb3⟩
  have HLP3 := Lib.hid (LpQ.start HSA2.out hs3 hb3 HSZ2.out)
  have hB3 := HB2.out.trans (hb3.mono HB2.out.size)
  have HB3 := Lib.hid hB3
  have HASK := Lib.hid (asked_is a g c w3 (HS.out.below hB3) HL.out HM.out)
  rw [HGL.out] at HASK
  clear hs3 hb3 hB3
  go_wp2_with fail
  refine HASK.out.mono ?_
  rintro e w4 ⟨A, n, ca, l, rfl, hn30, hrow, hb4⟩
  have HROW := Lib.hid hrow
  have HLP4 := Lib.hid (HLP3.out.below hb4).base
  have HPW := Lib.hid HLP3.out.lt
  have HB4 := Lib.hid (HB3.out.trans (hb4.mono HB3.out.size))
  clear hrow hb4 HASK HLP3
  go_wp2_with fail
  go_loopw [37] (fun i wr => ∃ (k qa qb : Nat) (X Y : SrvX), k ≤ n ∧ i = .int .i64 k ∧ Hid (X.m = 3 ∧ X.u = fun k => k) ∧ Hid (Sim s X Y) ∧ Hid (LpQ w1.heap.size pa pb pa pb w4 qa qb X Y wr)) (fun i _ => n - (intOf i).toNat)
  case atStart => exact ⟨0, _, _, _, _, Nat.zero_le _, rfl, ⟨rfl, rfl⟩, ⟨rfl, rfl, rfl, rfl, rfl⟩, HLP4.out⟩
  case round =>
    obtain ⟨k, qa, qb, X, Y, hk, rfl, HMU, HSIM, HLP⟩ := hrel
    by_cases hlt : k < n
    · have hrow := HROW.out.kept HLP.out.k (fun b hb => by have := HPW.out; omega)
      obtain ⟨x, b, off, hx, rfl, hat, hin, hok⟩ := hrow.at hlt
      obtain ⟨c0, c1, c2, c3, c4, c5, c6, c7, c8, c9, c10, c11⟩ := hat
      obtain ⟨W1, hW1⟩ : ∃ W1, W1 = wr.alloc (.cells #[.int .i64 x.o.kind, .int .i64 x.o.who.role, .int .i64 x.o.who.why, .int .i64 x.o.who.time, .slice x.P.ra x.o.n x.P.rc, .string x.o.r.id, .int .i64 x.o.r.cats, .slice x.P.p.fa x.o.r.fs.length x.P.p.fc, .slice x.P.p.ra x.o.r.rs.length x.P.p.rc, .string x.o.id, .string x.o.f.key, .string x.o.f.val] 39) := ⟨_, rfl⟩
      have hA1 : Below wr.heap.size wr W1 := by rw [hW1]; exact (Below.refl _ _).alloc (Nat.le_refl _) _
      have hat1 : OpAt W1 wr.heap.size 0 x := by rw [hW1]; constructor <;> simp [go_sem]
      have hsz1 : W1.heap.size = wr.heap.size + 1 := by rw [hW1]; simp
      have HLP1 := Lib.hid (HLP.out.below hA1)
      have HIN := Lib.hid (hin.below hA1)
      have HAT := Lib.hid hat1
      have HASKO := Lib.hid hok
      have HX := Lib.hid hx
      have HW1 := Lib.hid hW1
      have HSZ1 := Lib.hid hsz1
      have HQ := Lib.hid HLP.out.lt
      obtain ⟨rn, hrn⟩ : ∃ rn, X.n = rn := ⟨_, rfl⟩
      obtain ⟨sv, hsv⟩ : ∃ sv, seV X x.o.who = sv := ⟨_, rfl⟩
      have hs8 : sv ≤ 255 := by rw [← hsv]; exact seV_le X x.o.who
      have HRN := Lib.hid hrn
      have HSV := Lib.hid hsv
      have HR : Hid (∀ V, Below W1.heap.size W1 V → Calls Tryz.prog 15 #[ptr pa] V (RulesTo rn X.rs V)) := fun V hV => (HLP1.out.below hV).rules HRN.out
      have HSE : Hid (∀ (g : Nat) (A : Option Addr) (c : Nat) (V : World), V.cell? ⟨g, 0, none⟩ = some (.int .i64 0) → V.cell? ⟨g, 1, none⟩ = some (.int .i64 1) → V.cell? ⟨g, 2, none⟩ = some (.int .i64 2) → SlR V A rn X.rs →
          Calls Tryz.prog 14 #[.slice (some ⟨g, 0, none⟩) 3 3, .slice A rn c, .agg #[.int .i64 x.o.who.role, .int .i64 x.o.who.why, .int .i64 x.o.who.time]] V fun e w' => e = .returned (.tuple #[.int .i64 (sv : Int), .int .i64 0]) ∧ Below V.heap.size V w') := fun g A c V h0 h1 h2 hs => sees_of2 HLP1.out.a.ok HMU.out.1 HMU.out.2 HRN.out HASKO.out.who2.1 HASKO.out.who2.2 HSV.out g A c V h0 h1 h2 hs
      have HSS : Hid (∀ V, Below W1.heap.size W1 V → V.cell? ⟨wr.heap.size, 1, none⟩ = some (.int .i64 x.o.who.role) ∧ V.cell? ⟨wr.heap.size, 2, none⟩ = some (.int .i64 x.o.who.why) ∧ V.cell? ⟨wr.heap.size, 3, none⟩ = some (.int .i64 x.o.who.time)) := fun V hV => by
        have h := HAT.out.below hV
        have k1 := h.c1
        have k2 := h.c2
        have k3 := h.c3
        simp only [Nat.zero_add] at k1 k2 k3
        exact ⟨k1, k2, k3⟩
      have i1 : (0 : Int) ≤ (k : Int) := by omega
      have i2 : (k : Int) < (n : Int) := by omega
      -- what is asked
      obtain ⟨kd, hkd⟩ : ∃ kd, x.o.kind = kd := ⟨_, rfl⟩
      obtain ⟨ct, hct⟩ : ∃ ct, x.o.r.cats = ct := ⟨_, rfl⟩
      have HKD := Lib.hid hkd
      have HCT := Lib.hid hct
      have hkr : 1 ≤ kd ∧ kd ≤ 8 := by rw [← hkd]; exact ⟨hok.k1, hok.k8⟩
      have HCR : Hid (0 ≤ ct ∧ ct ≤ 255) := by show _ ∧ _; rw [← hct]; exact ⟨hok.ok.c0, hok.ok.c1⟩
      -- whether it changes anything
      obtain ⟨chg, hchg⟩ : ∃ chg : Bool, chg = ((x.o.kind == 2) || (x.o.kind == 3)) := ⟨_, rfl⟩
      have k0 : W1.cell? ⟨wr.heap.size, 0, none⟩ = some (.int .i64 x.o.kind) := hat1.c0
      obtain ⟨k1, k2, k3⟩ := HSS.out W1 (Below.refl _ _)
      clear hrow hx hin hok hA1 hat1 hW1 hsz1 hrn hsv hkd hct
      go_upto_region 11 with fail
      rw [← HW1.out]
      clear c0 c1 c2 c3 c4 c5 c6 c7 c8 c9 c10 c11
      go_cut [11] from 41 to 49 (fun s11 wc => s11 = .bool chg ∧ wc = W1)
      case first =>
        have hcs : (chg = true ∧ (x.o.kind == 2) = true) ∨ (chg = true ∧ (x.o.kind == 2) = false ∧ (x.o.kind == 3) = true) ∨ (chg = false ∧ (x.o.kind == 2) = false ∧ (x.o.kind == 3) = false) := by
          rw [hchg]
          cases (x.o.kind == 2) <;> cases (x.o.kind == 3) <;> simp
        clear hchg
        rcases hcs with ⟨rfl, e1⟩ | ⟨rfl, e1, e2⟩ | ⟨rfl, e1, e2⟩
        all_goals
          go_wp2_with fail
          go_meet
          case rel => exact ⟨rfl, rfl⟩
      case rest =>
      obtain ⟨rfl, hwc⟩ := hcut
      rw [hwc]
      clear hwc
      go_upto_region 12 with fail
      go_cut [12, 13] from 49 to 58 (fun s12 s13 wc => s12 = .int .i64 (sv : Nat) ∧ s13 = .int .i64 0 ∧ Below W1.heap.size W1 wc)
      case first =>
        clear HS HL HM HGL HB1 HB2 HSA2 HSZ2 HB3 HLP4 HROW HPW HMU HSIM HLP HLP1 HIN HAT HASKO HX HW1 HSZ1 HQ HRN HSV hs8 hk hlt i1 i2 hn30 HKD HCT hkr HCR hchg hs255 hsb HB4
        go_region_held3 (fun w' => w'.cell? ⟨wr.heap.size, 1, none⟩ = some (.int .i64 x.o.who.role) ∧ w'.cell? ⟨wr.heap.size, 2, none⟩ = some (.int .i64 x.o.who.why) ∧ w'.cell? ⟨wr.heap.size, 3, none⟩ = some (.int .i64 x.o.who.time)) (first | assumption | exact HSS.out _ ((Below.refl _ _).drew) | exact HSS.out _ (((Below.refl _ _).alloc (Nat.le_refl _) _).drew) | exact HSS.out _ (by assumption) | exact HSS.out _ (Below.alloc hW' hW'.size _))
          (first
            | (go_at_call 15; refine (HR.out _ (by first | exact (Below.refl _ _).drew | exact ((Below.refl _ _).alloc (Nat.le_refl _) _).drew)).mono ?_; rintro e w' ⟨A', c', rfl, ho', hb'⟩; have hW' : Below W1.heap.size W1 w' := (by first | exact ((Below.refl W1.heap.size W1).drew).trans hb' | exact (((Below.refl W1.heap.size W1).alloc (Nat.le_refl _) _).drew).trans (hb'.mono (by simp))))
            | (go_at_call 14; refine (HSE.out _ _ _ _ (by first | (simp [go_sem]; done) | exact (hb'.cell (p := ⟨_, 0, none⟩) (by simp)).trans (by simp [go_sem])) (by first | (simp [go_sem]; done) | exact (hb'.cell (p := ⟨_, 1, none⟩) (by simp)).trans (by simp [go_sem])) (by first | (simp [go_sem]; done) | exact (hb'.cell (p := ⟨_, 2, none⟩) (by simp)).trans (by simp [go_sem])) (by first | exact (OwnR.slr ho').1 | exact (OwnR.slr (own_below ho' ((Below.refl _ _).alloc (Nat.le_refl _) _))).1)).mono ?_; rintro e w'' ⟨rfl, hb''⟩; have hW'' : Below W1.heap.size W1 w'' := (by first | exact hW'.trans (hb''.mono hW'.size) | exact (hW'.alloc hW'.size _).trans (hb''.mono (hW'.alloc hW'.size _).size))))
        all_goals (go_wp2_with fail; go_meet)
        all_goals
          case rel => exact ⟨rfl, rfl, hW''⟩
      case rest =>
        obtain ⟨wA, hwAe⟩ : ∃ wA, wA = wc := ⟨_, rfl⟩
        subst hwAe
        obtain ⟨rfl, rfl, hBA⟩ := hcut
        have HLPA := Lib.hid (HLP1.out.below hBA)
        obtain ⟨⟨er, tv, ti, tn⟩, hT⟩ : ∃ T, doT X x.o = T := ⟨_, rfl⟩
        obtain ⟨⟨er2, tv2, ti2, tn2⟩, hT2⟩ : ∃ T, doT Y x.o = T := ⟨_, rfl⟩
        have HTT := Lib.hid hT
        have HTT2 := Lib.hid hT2
        have HD := Lib.hid (HLPA.out.doing x.o x.P (HIN.out.below hBA) hT rfl)
        have hatA := HAT.out.below hBA
        have HATA := Lib.hid hatA
        have HLTA := Lib.hid HLPA.out.lt
        have HZA : Hid (wr.heap.size < wA.heap.size) := cell_lt hatA.c0
        have HCHG := Lib.hid hchg
        clear hT hT2 hBA k0 k1 k2 k3 hchg
        obtain ⟨c0, c1, c2, c3, c4, c5, c6, c7, c8, c9, c10, c11⟩ := hatA
        simp only [Nat.zero_add] at c0 c1 c2 c3 c4 c5 c6 c7 c8 c9 c10 c11
        go_wp2_with fail
        refine HD.out.mono ?_
        rintro e w6 ⟨⟨va, vc, ia, ic, na, nc⟩, qa6, rfl, hnt, hl6, hq6, hk6⟩
        obtain ⟨tl, htl⟩ : ∃ tl, tv.length = tl := ⟨_, rfl⟩
        obtain ⟨il, hil⟩ : ∃ il, ti.length = il := ⟨_, rfl⟩
        obtain ⟨nl, hnl⟩ : ∃ nl, tn.length = nl := ⟨_, rfl⟩
        have HTL := Lib.hid htl
        have HIL := Lib.hid hil
        have HNL := Lib.hid hnl
        rw [show (ToldL.mk er tv ti tn).vs.length = tl from htl, show (ToldL.mk er tv ti tn).ids.length = il from hil, show (ToldL.mk er tv ti tn).ns.length = nl from hnl]
        clear htl hil hnl
        obtain ⟨W7, hW7⟩ : ∃ W7, W7 = w6.alloc (.cells #[.int .i64 er, .slice va tl vc, .slice ia il ic, .slice na nl nc] 48) := ⟨_, rfl⟩
        have hA7 : Below w6.heap.size w6 W7 := by rw [hW7]; exact (Below.refl _ _).alloc (Nat.le_refl _) _
        have t0 : W7.cell? ⟨w6.heap.size, 0, none⟩ = some (.int .i64 er) := by rw [hW7]; simp [go_sem]
        have t1 : W7.cell? ⟨w6.heap.size, 1, none⟩ = some (.slice va tl vc) := by rw [hW7]; simp [go_sem]
        have t2 : W7.cell? ⟨w6.heap.size, 2, none⟩ = some (.slice ia il ic) := by rw [hW7]; simp [go_sem]
        have t3 : W7.cell? ⟨w6.heap.size, 3, none⟩ = some (.slice na nl nc) := by rw [hW7]; simp [go_sem]
        have hat6 := HATA.out.kept hk6 (by have h1 := HQ.out; have h2 := HSZ1.out; exact ⟨by omega, by omega⟩)
        have HAT7 := Lib.hid (hat6.below hA7)
        have HL7 := Lib.hid (hl6.below hA7)
        have HNT7 := Lib.hid (hnt.below hA7)
        have HT7 := Lib.hid (And.intro t0 (And.intro t1 (And.intro t2 t3)))
        have HW7 := Lib.hid hW7
        have HZ6 : Hid (wr.heap.size < w6.heap.size) := cell_lt hat6.c0
        have HZA6 : Hid (wA.heap.size ≤ w6.heap.size) := hk6.size
        have hrow7 := HROW.out.kept HL7.out.k (fun b hb => by have := HPW.out; omega)
        obtain ⟨x7, b7, off7, hx7, he7, hat7', hin7, hok7⟩ := hrow7.at hlt
        rw [HX.out] at hx7
        obtain rfl := Option.some.inj hx7
        have HD2 := Lib.hid (HL7.out.swap.doing x.o x.P hin7 HTT2.out rfl)
        have HMU' : Hid ((doX X x.o).m = 3 ∧ (doX X x.o).u = fun k => k) := ⟨(doX_mu2 X x.o).1.trans HMU.out.1, (doX_mu2 X x.o).2.trans HMU.out.2⟩
        have g0 := HZ6.out
        obtain ⟨k0', k1', k2', k3', k4', k5', k6', k7', k8', k9', k10', k11'⟩ := hat6
        simp only [Nat.zero_add] at k0' k6'
        have HOKX := Lib.hid HLP.out.a.ok
        clear hnt hl6 hq6 hk6 hA7 t0 t1 t2 t3 k1' k2' k3' k4' k5' k7' k8' k9' k10' k11' hrow7 hx7 he7 hat7' hin7 hok7 hW7 HD c0 c1 c2 c3 c4 c5 c6 c7 c8 c9 c10 c11
        go_upto_region 16 with fail
        rw [← HW7.out]
        clear g0 k0' k6'
        obtain ⟨c0, c1, c2, c3, c4, c5, c6, c7, c8, c9, c10, c11⟩ := HAT7.out
        simp only [Nat.zero_add] at c0 c1 c2 c3 c4 c5 c6 c7 c8 c9 c10 c11
        have g0 : wr.heap.size < W7.heap.size := cell_lt c0
        obtain ⟨bn, hbn⟩ : ∃ bn, bits .andNot .i64 x.o.r.cats (s : Int) = bn := ⟨_, rfl⟩
        obtain ⟨bm, hbm⟩ : ∃ bm, bits .andNot .i64 (sv : Int) (s : Int) = bm := ⟨_, rfl⟩
        have HBN : Hid ((bn = 0 → among ct (s : Int) = true) ∧ (bn ≠ 0 → among ct (s : Int) = false)) := by
          have h := among_sub (ct := ct) HCR.out.1 HCR.out.2 hs255
          rw [← HCT.out, hbn, HCT.out] at h
          exact ⟨fun k => h.2 k, fun k => Bool.eq_false_iff.2 fun k2 => k (h.1 k2)⟩
        have HBM : Hid (bm = 0 → sub sv s = 0) := by
          rw [i64_andNot sv s (by omega) (by omega)] at hbm
          intro h
          omega
        have hks : (kd = 2 ∧ bn ≠ 0) ∨ (kd = 3 ∧ bn ≠ 0) ∨ kd = 7 ∨ kd = 8 ∨ kd = 1 ∨ (kd = 2 ∧ bn = 0) ∨ (kd = 3 ∧ bn = 0) ∨ (kd = 4 ∧ bm = 0) ∨ (kd = 5 ∧ bm = 0) ∨ (kd = 6 ∧ bm = 0) ∨ (kd = 4 ∧ bm ≠ 0) ∨ (kd = 5 ∧ bm ≠ 0) ∨ (kd = 6 ∧ bm ≠ 0) := by omega
        clear hkr hs8
        rcases hks with ⟨rfl, hb⟩ | ⟨rfl, hb⟩ | rfl | rfl | rfl | ⟨rfl, rfl⟩ | ⟨rfl, rfl⟩ | ⟨rfl, rfl⟩ | ⟨rfl, rfl⟩ | ⟨rfl, rfl⟩ | ⟨rfl, hb⟩ | ⟨rfl, hb⟩ | ⟨rfl, hb⟩
        · obtain rfl : chg = true := by rw [HCHG.out, HKD.out]; decide
          have f1 : (x.o.kind == 1) = false := by rw [HKD.out]; decide
          have f7 : (x.o.kind == 7) = false := by rw [HKD.out]; decide
          have f8 : (x.o.kind == 8) = false := by rw [HKD.out]; decide
          clear HCHG
          have e1 : (bn != 0) = true := by simpa using hb
          have HS' : Hid (Sim s (doX X x.o) Y) := HSIM.out.hide (.inl HKD.out) (by rw [HCT.out]; exact HBN.out.2 hb)
          clear hb
          go_wp2_with fail
          go_roundw
          case rel => exact ⟨k + 1, _, _, _, _, by omega, by go_num, HMU'.out, HS'.out, HL7.out⟩
          case measure => simp [intOf]; omega
        · obtain rfl : chg = true := by rw [HCHG.out, HKD.out]; decide
          have f1 : (x.o.kind == 1) = false := by rw [HKD.out]; decide
          have f7 : (x.o.kind == 7) = false := by rw [HKD.out]; decide
          have f8 : (x.o.kind == 8) = false := by rw [HKD.out]; decide
          clear HCHG
          have e1 : (bn != 0) = true := by simpa using hb
          have HS' : Hid (Sim s (doX X x.o) Y) := HSIM.out.hide (.inr HKD.out) (by rw [HCT.out]; exact HBN.out.2 hb)
          clear hb
          go_wp2_with fail
          go_roundw
          case rel => exact ⟨k + 1, _, _, _, _, by omega, by go_num, HMU'.out, HS'.out, HL7.out⟩
          case measure => simp [intOf]; omega
        · obtain rfl : chg = false := by rw [HCHG.out, HKD.out]; decide
          have f1 : (x.o.kind == 1) = false := by rw [HKD.out]; decide
          have f7 : (x.o.kind == 7) = true := by rw [HKD.out]; decide
          have f8 : (x.o.kind == 8) = false := by rw [HKD.out]; decide
          clear HCHG
          have HS' : Hid (Sim s (doX X x.o) Y) := HSIM.out.still (by rw [HKD.out]; decide) (by rw [HKD.out]; decide) (by rw [HKD.out]; decide)
          go_wp2_with fail
          go_roundw
          case rel => exact ⟨k + 1, _, _, _, _, by omega, by go_num, HMU'.out, HS'.out, HL7.out⟩
          case measure => simp [intOf]; omega
        · obtain rfl : chg = false := by rw [HCHG.out, HKD.out]; decide
          have f1 : (x.o.kind == 1) = false := by rw [HKD.out]; decide
          have f7 : (x.o.kind == 7) = false := by rw [HKD.out]; decide
          have f8 : (x.o.kind == 8) = true := by rw [HKD.out]; decide
          clear HCHG
          have HS' : Hid (Sim s (doX X x.o) Y) := HSIM.out.still (by rw [HKD.out]; decide) (by rw [HKD.out]; decide) (by rw [HKD.out]; decide)
          go_wp2_with fail
          go_roundw
          case rel => exact ⟨k + 1, _, _, _, _, by omega, by go_num, HMU'.out, HS'.out, HL7.out⟩
          case measure => simp [intOf]; omega
        · obtain rfl : chg = false := by rw [HCHG.out, HKD.out]; decide
          have f1 : (x.o.kind == 1) = true := by rw [HKD.out]; decide
          have f7 : (x.o.kind == 7) = false := by rw [HKD.out]; decide
          have f8 : (x.o.kind == 8) = false := by rw [HKD.out]; decide
          clear HCHG
          have HS' : Hid (Sim s (doX X x.o) (doX Y x.o)) := HSIM.out.both HOKX.out (by rw [HKD.out]; decide) (fun h => by rw [HKD.out] at h; rcases h with h | h <;> cases h)
          have hte : ToldL.mk er2 tv2 ti2 tn2 = ToldL.mk er tv ti tn := HTT2.out.symm.trans ((HSIM.out.told HOKX.out hs255 (by rw [HKD.out]; decide) (by rw [HKD.out]; decide) (fun h => by rw [HKD.out] at h; rcases h with h | h <;> cases h) (.inl HKD.out)).trans HTT.out)
          obtain ⟨rfl, rfl, rfl, rfl⟩ := ToldL.mk.inj hte
          clear hte
          go_wp2_with fail
          refine HD2.out.mono ?_
          rintro e w8 ⟨⟨va2, vc2, ia2, ic2, na2, nc2⟩, qb8, rfl, hnt8, hl8, hq8, hk8⟩
          rw [show (ToldL.mk er2 tv2 ti2 tn2).vs.length = tl from HTL.out, show (ToldL.mk er2 tv2 ti2 tn2).ids.length = il from HIL.out, show (ToldL.mk er2 tv2 ti2 tn2).ns.length = nl from HNL.out]
          obtain ⟨W9, hW9⟩ : ∃ W9, W9 = w8.alloc (.cells #[.int .i64 er2, .slice va2 tl vc2, .slice ia2 il ic2, .slice na2 nl nc2] 48) := ⟨_, rfl⟩
          have hA9 : Below w8.heap.size w8 W9 := by rw [hW9]; exact (Below.refl _ _).alloc (Nat.le_refl _) _
          have HW9 := Lib.hid hW9
          have HL9 := Lib.hid (hl8.swap.below hA9)
          have d0 : w8.cell? ⟨wr.heap.size, 0, none⟩ = some (.int .i64 x.o.kind) := hk8.cell (by have h1 := HQ.out; have h2 := HSZ1.out; exact ⟨by omega, by rcases HL7.out.nb with e | e <;> have h3 := HLP.out.nb <;> have h4 := HLTA.out <;> omega⟩) c0
          have g8 : wr.heap.size < w8.heap.size := cell_lt d0
          have hoff : Off pb qb w6.heap.size := by
            have h2 := HLTA.out
            have h3 := HZA6.out
            exact ⟨by omega, by omega⟩
          have u0 := hk8.cell hoff HT7.out.1
          have u1 := hk8.cell hoff HT7.out.2.1
          have u2 := hk8.cell hoff HT7.out.2.2.1
          have u3 := hk8.cell hoff HT7.out.2.2.2
          have g6 : w6.heap.size < w8.heap.size := cell_lt u0
          have HN9 := Lib.hid ((HNT7.out.kept hk8 (fun b hb _ => by have h2 := HLTA.out; exact ⟨by omega, by omega⟩)).below hA9)
          have HNT9 := Lib.hid (hnt8.below hA9)
          have hsame := told_yes (ToldL.mk er2 tv2 ti2 tn2) _ _ _ HN9.out HNT9.out
          unfold ToldL.v at hsame
          simp only [HTL.out, HIL.out, HNL.out] at hsame
          rw [hW9] at hsame
          have HSAME := Lib.hid hsame
          clear hsame
          clear hnt8 hl8 hq8 hk8 hA9 hW9 g0 c0 c1 c2 c3 c4 c5 c6 c7 c8 c9 c10 c11 HD2
          go_wp2_with fail
          refine HSAME.out.mono ?_
          rintro e w10 ⟨rfl, hb10⟩
          rw [← HW9.out] at hb10
          have HL10 := Lib.hid (HL9.out.below hb10)
          clear hb10 HSAME u0 u1 u2 u3 d0 g8 g6
          go_wp2_with fail
          go_roundw
          case rel => exact ⟨k + 1, _, _, _, _, by omega, by go_num, HMU'.out, HS'.out, HL10.out⟩
          case measure => simp [intOf]; omega
        · obtain rfl : chg = true := by rw [HCHG.out, HKD.out]; decide
          have f1 : (x.o.kind == 1) = false := by rw [HKD.out]; decide
          have f7 : (x.o.kind == 7) = false := by rw [HKD.out]; decide
          have f8 : (x.o.kind == 8) = false := by rw [HKD.out]; decide
          clear HCHG
          have HS' : Hid (Sim s (doX X x.o) (doX Y x.o)) := HSIM.out.both HOKX.out (by rw [HKD.out]; decide) (fun _ => by rw [HCT.out]; exact HBN.out.1 rfl)
          have hte : ToldL.mk er2 tv2 ti2 tn2 = ToldL.mk er tv ti tn := HTT2.out.symm.trans ((HSIM.out.told HOKX.out hs255 (by rw [HKD.out]; decide) (by rw [HKD.out]; decide) (fun _ => by rw [HCT.out]; exact HBN.out.1 rfl) (.inr (.inl HKD.out))).trans HTT.out)
          obtain ⟨rfl, rfl, rfl, rfl⟩ := ToldL.mk.inj hte
          clear hte
          go_wp2_with fail
          refine HD2.out.mono ?_
          rintro e w8 ⟨⟨va2, vc2, ia2, ic2, na2, nc2⟩, qb8, rfl, hnt8, hl8, hq8, hk8⟩
          rw [show (ToldL.mk er2 tv2 ti2 tn2).vs.length = tl from HTL.out, show (ToldL.mk er2 tv2 ti2 tn2).ids.length = il from HIL.out, show (ToldL.mk er2 tv2 ti2 tn2).ns.length = nl from HNL.out]
          obtain ⟨W9, hW9⟩ : ∃ W9, W9 = w8.alloc (.cells #[.int .i64 er2, .slice va2 tl vc2, .slice ia2 il ic2, .slice na2 nl nc2] 48) := ⟨_, rfl⟩
          have hA9 : Below w8.heap.size w8 W9 := by rw [hW9]; exact (Below.refl _ _).alloc (Nat.le_refl _) _
          have HW9 := Lib.hid hW9
          have HL9 := Lib.hid (hl8.swap.below hA9)
          have d0 : w8.cell? ⟨wr.heap.size, 0, none⟩ = some (.int .i64 x.o.kind) := hk8.cell (by have h1 := HQ.out; have h2 := HSZ1.out; exact ⟨by omega, by rcases HL7.out.nb with e | e <;> have h3 := HLP.out.nb <;> have h4 := HLTA.out <;> omega⟩) c0
          have g8 : wr.heap.size < w8.heap.size := cell_lt d0
          have hoff : Off pb qb w6.heap.size := by
            have h2 := HLTA.out
            have h3 := HZA6.out
            exact ⟨by omega, by omega⟩
          have u0 := hk8.cell hoff HT7.out.1
          have u1 := hk8.cell hoff HT7.out.2.1
          have u2 := hk8.cell hoff HT7.out.2.2.1
          have u3 := hk8.cell hoff HT7.out.2.2.2
          have g6 : w6.heap.size < w8.heap.size := cell_lt u0
          have HN9 := Lib.hid ((HNT7.out.kept hk8 (fun b hb _ => by have h2 := HLTA.out; exact ⟨by omega, by omega⟩)).below hA9)
          have HNT9 := Lib.hid (hnt8.below hA9)
          have hsame := told_yes (ToldL.mk er2 tv2 ti2 tn2) _ _ _ HN9.out HNT9.out
          unfold ToldL.v at hsame
          simp only [HTL.out, HIL.out, HNL.out] at hsame
          rw [hW9] at hsame
          have HSAME := Lib.hid hsame
          clear hsame
          clear hnt8 hl8 hq8 hk8 hA9 hW9 g0 c0 c1 c2 c3 c4 c5 c6 c7 c8 c9 c10 c11 HD2
          go_wp2_with fail
          refine HSAME.out.mono ?_
          rintro e w10 ⟨rfl, hb10⟩
          rw [← HW9.out] at hb10
          have HL10 := Lib.hid (HL9.out.below hb10)
          clear hb10 HSAME u0 u1 u2 u3 d0 g8 g6
          go_wp2_with fail
          go_roundw
          case rel => exact ⟨k + 1, _, _, _, _, by omega, by go_num, HMU'.out, HS'.out, HL10.out⟩
          case measure => simp [intOf]; omega
        · obtain rfl : chg = true := by rw [HCHG.out, HKD.out]; decide
          have f1 : (x.o.kind == 1) = false := by rw [HKD.out]; decide
          have f7 : (x.o.kind == 7) = false := by rw [HKD.out]; decide
          have f8 : (x.o.kind == 8) = false := by rw [HKD.out]; decide
          clear HCHG
          have HS' : Hid (Sim s (doX X x.o) (doX Y x.o)) := HSIM.out.both HOKX.out (by rw [HKD.out]; decide) (fun _ => by rw [HCT.out]; exact HBN.out.1 rfl)
          have hte : ToldL.mk er2 tv2 ti2 tn2 = ToldL.mk er tv ti tn := HTT2.out.symm.trans ((HSIM.out.told HOKX.out hs255 (by rw [HKD.out]; decide) (by rw [HKD.out]; decide) (fun _ => by rw [HCT.out]; exact HBN.out.1 rfl) (.inr (.inr (.inl HKD.out)))).trans HTT.out)
          obtain ⟨rfl, rfl, rfl, rfl⟩ := ToldL.mk.inj hte
          clear hte
          go_wp2_with fail
          refine HD2.out.mono ?_
          rintro e w8 ⟨⟨va2, vc2, ia2, ic2, na2, nc2⟩, qb8, rfl, hnt8, hl8, hq8, hk8⟩
          rw [show (ToldL.mk er2 tv2 ti2 tn2).vs.length = tl from HTL.out, show (ToldL.mk er2 tv2 ti2 tn2).ids.length = il from HIL.out, show (ToldL.mk er2 tv2 ti2 tn2).ns.length = nl from HNL.out]
          obtain ⟨W9, hW9⟩ : ∃ W9, W9 = w8.alloc (.cells #[.int .i64 er2, .slice va2 tl vc2, .slice ia2 il ic2, .slice na2 nl nc2] 48) := ⟨_, rfl⟩
          have hA9 : Below w8.heap.size w8 W9 := by rw [hW9]; exact (Below.refl _ _).alloc (Nat.le_refl _) _
          have HW9 := Lib.hid hW9
          have HL9 := Lib.hid (hl8.swap.below hA9)
          have d0 : w8.cell? ⟨wr.heap.size, 0, none⟩ = some (.int .i64 x.o.kind) := hk8.cell (by have h1 := HQ.out; have h2 := HSZ1.out; exact ⟨by omega, by rcases HL7.out.nb with e | e <;> have h3 := HLP.out.nb <;> have h4 := HLTA.out <;> omega⟩) c0
          have g8 : wr.heap.size < w8.heap.size := cell_lt d0
          have hoff : Off pb qb w6.heap.size := by
            have h2 := HLTA.out
            have h3 := HZA6.out
            exact ⟨by omega, by omega⟩
          have u0 := hk8.cell hoff HT7.out.1
          have u1 := hk8.cell hoff HT7.out.2.1
          have u2 := hk8.cell hoff HT7.out.2.2.1
          have u3 := hk8.cell hoff HT7.out.2.2.2
          have g6 : w6.heap.size < w8.heap.size := cell_lt u0
          have HN9 := Lib.hid ((HNT7.out.kept hk8 (fun b hb _ => by have h2 := HLTA.out; exact ⟨by omega, by omega⟩)).below hA9)
          have HNT9 := Lib.hid (hnt8.below hA9)
          have hsame := told_yes (ToldL.mk er2 tv2 ti2 tn2) _ _ _ HN9.out HNT9.out
          unfold ToldL.v at hsame
          simp only [HTL.out, HIL.out, HNL.out] at hsame
          rw [hW9] at hsame
          have HSAME := Lib.hid hsame
          clear hsame
          clear hnt8 hl8 hq8 hk8 hA9 hW9 g0 c0 c1 c2 c3 c4 c5 c6 c7 c8 c9 c10 c11 HD2
          go_wp2_with fail
          refine HSAME.out.mono ?_
          rintro e w10 ⟨rfl, hb10⟩
          rw [← HW9.out] at hb10
          have HL10 := Lib.hid (HL9.out.below hb10)
          clear hb10 HSAME u0 u1 u2 u3 d0 g8 g6
          go_wp2_with fail
          go_roundw
          case rel => exact ⟨k + 1, _, _, _, _, by omega, by go_num, HMU'.out, HS'.out, HL10.out⟩
          case measure => simp [intOf]; omega
        · obtain rfl : chg = false := by rw [HCHG.out, HKD.out]; decide
          have f1 : (x.o.kind == 1) = false := by rw [HKD.out]; decide
          have f7 : (x.o.kind == 7) = false := by rw [HKD.out]; decide
          have f8 : (x.o.kind == 8) = false := by rw [HKD.out]; decide
          clear HCHG
          have HS' : Hid (Sim s (doX X x.o) (doX Y x.o)) := HSIM.out.both HOKX.out (by rw [HKD.out]; decide) (fun h => by rw [HKD.out] at h; rcases h with h | h <;> cases h)
          have hte : ToldL.mk er2 tv2 ti2 tn2 = ToldL.mk er tv ti tn := HTT2.out.symm.trans ((HSIM.out.told HOKX.out hs255 (by rw [HKD.out]; decide) (by rw [HKD.out]; decide) (fun h => by rw [HKD.out] at h; rcases h with h | h <;> cases h) (.inr (.inr (.inr (by rw [HSV.out]; exact HBM.out rfl))))).trans HTT.out)
          obtain ⟨rfl, rfl, rfl, rfl⟩ := ToldL.mk.inj hte
          clear hte
          go_wp2_with fail
          refine HD2.out.mono ?_
          rintro e w8 ⟨⟨va2, vc2, ia2, ic2, na2, nc2⟩, qb8, rfl, hnt8, hl8, hq8, hk8⟩
          rw [show (ToldL.mk er2 tv2 ti2 tn2).vs.length = tl from HTL.out, show (ToldL.mk er2 tv2 ti2 tn2).ids.length = il from HIL.out, show (ToldL.mk er2 tv2 ti2 tn2).ns.length = nl from HNL.out]
          obtain ⟨W9, hW9⟩ : ∃ W9, W9 = w8.alloc (.cells #[.int .i64 er2, .slice va2 tl vc2, .slice ia2 il ic2, .slice na2 nl nc2] 48) := ⟨_, rfl⟩
          have hA9 : Below w8.heap.size w8 W9 := by rw [hW9]; exact (Below.refl _ _).alloc (Nat.le_refl _) _
          have HW9 := Lib.hid hW9
          have HL9 := Lib.hid (hl8.swap.below hA9)
          have d0 : w8.cell? ⟨wr.heap.size, 0, none⟩ = some (.int .i64 x.o.kind) := hk8.cell (by have h1 := HQ.out; have h2 := HSZ1.out; exact ⟨by omega, by rcases HL7.out.nb with e | e <;> have h3 := HLP.out.nb <;> have h4 := HLTA.out <;> omega⟩) c0
          have g8 : wr.heap.size < w8.heap.size := cell_lt d0
          have hoff : Off pb qb w6.heap.size := by
            have h2 := HLTA.out
            have h3 := HZA6.out
            exact ⟨by omega, by omega⟩
          have u0 := hk8.cell hoff HT7.out.1
          have u1 := hk8.cell hoff HT7.out.2.1
          have u2 := hk8.cell hoff HT7.out.2.2.1
          have u3 := hk8.cell hoff HT7.out.2.2.2
          have g6 : w6.heap.size < w8.heap.size := cell_lt u0
          have HN9 := Lib.hid ((HNT7.out.kept hk8 (fun b hb _ => by have h2 := HLTA.out; exact ⟨by omega, by omega⟩)).below hA9)
          have HNT9 := Lib.hid (hnt8.below hA9)
          have hsame := told_yes (ToldL.mk er2 tv2 ti2 tn2) _ _ _ HN9.out HNT9.out
          unfold ToldL.v at hsame
          simp only [HTL.out, HIL.out, HNL.out] at hsame
          rw [hW9] at hsame
          have HSAME := Lib.hid hsame
          clear hsame
          clear hnt8 hl8 hq8 hk8 hA9 hW9 g0 c0 c1 c2 c3 c4 c5 c6 c7 c8 c9 c10 c11 HD2
          go_wp2_with fail
          refine HSAME.out.mono ?_
          rintro e w10 ⟨rfl, hb10⟩
          rw [← HW9.out] at hb10
          have HL10 := Lib.hid (HL9.out.below hb10)
          clear hb10 HSAME u0 u1 u2 u3 d0 g8 g6
          go_wp2_with fail
          go_roundw
          case rel => exact ⟨k + 1, _, _, _, _, by omega, by go_num, HMU'.out, HS'.out, HL10.out⟩
          case measure => simp [intOf]; omega
        · obtain rfl : chg = false := by rw [HCHG.out, HKD.out]; decide
          have f1 : (x.o.kind == 1) = false := by rw [HKD.out]; decide
          have f7 : (x.o.kind == 7) = false := by rw [HKD.out]; decide
          have f8 : (x.o.kind == 8) = false := by rw [HKD.out]; decide
          clear HCHG
          have HS' : Hid (Sim s (doX X x.o) (doX Y x.o)) := HSIM.out.both HOKX.out (by rw [HKD.out]; decide) (fun h => by rw [HKD.out] at h; rcases h with h | h <;> cases h)
          have hte : ToldL.mk er2 tv2 ti2 tn2 = ToldL.mk er tv ti tn := HTT2.out.symm.trans ((HSIM.out.told HOKX.out hs255 (by rw [HKD.out]; decide) (by rw [HKD.out]; decide) (fun h => by rw [HKD.out] at h; rcases h with h | h <;> cases h) (.inr (.inr (.inr (by rw [HSV.out]; exact HBM.out rfl))))).trans HTT.out)
          obtain ⟨rfl, rfl, rfl, rfl⟩ := ToldL.mk.inj hte
          clear hte
          go_wp2_with fail
          refine HD2.out.mono ?_
          rintro e w8 ⟨⟨va2, vc2, ia2, ic2, na2, nc2⟩, qb8, rfl, hnt8, hl8, hq8, hk8⟩
          rw [show (ToldL.mk er2 tv2 ti2 tn2).vs.length = tl from HTL.out, show (ToldL.mk er2 tv2 ti2 tn2).ids.length = il from HIL.out, show (ToldL.mk er2 tv2 ti2 tn2).ns.length = nl from HNL.out]
          obtain ⟨W9, hW9⟩ : ∃ W9, W9 = w8.alloc (.cells #[.int .i64 er2, .slice va2 tl vc2, .slice ia2 il ic2, .slice na2 nl nc2] 48) := ⟨_, rfl⟩
          have hA9 : Below w8.heap.size w8 W9 := by rw [hW9]; exact (Below.refl _ _).alloc (Nat.le_refl _) _
          have HW9 := Lib.hid hW9
          have HL9 := Lib.hid (hl8.swap.below hA9)
          have d0 : w8.cell? ⟨wr.heap.size, 0, none⟩ = some (.int .i64 x.o.kind) := hk8.cell (by have h1 := HQ.out; have h2 := HSZ1.out; exact ⟨by omega, by rcases HL7.out.nb with e | e <;> have h3 := HLP.out.nb <;> have h4 := HLTA.out <;> omega⟩) c0
          have g8 : wr.heap.size < w8.heap.size := cell_lt d0
          have hoff : Off pb qb w6.heap.size := by
            have h2 := HLTA.out
            have h3 := HZA6.out
            exact ⟨by omega, by omega⟩
          have u0 := hk8.cell hoff HT7.out.1
          have u1 := hk8.cell hoff HT7.out.2.1
          have u2 := hk8.cell hoff HT7.out.2.2.1
          have u3 := hk8.cell hoff HT7.out.2.2.2
          have g6 : w6.heap.size < w8.heap.size := cell_lt u0
          have HN9 := Lib.hid ((HNT7.out.kept hk8 (fun b hb _ => by have h2 := HLTA.out; exact ⟨by omega, by omega⟩)).below hA9)
          have HNT9 := Lib.hid (hnt8.below hA9)
          have hsame := told_yes (ToldL.mk er2 tv2 ti2 tn2) _ _ _ HN9.out HNT9.out
          unfold ToldL.v at hsame
          simp only [HTL.out, HIL.out, HNL.out] at hsame
          rw [hW9] at hsame
          have HSAME := Lib.hid hsame
          clear hsame
          clear hnt8 hl8 hq8 hk8 hA9 hW9 g0 c0 c1 c2 c3 c4 c5 c6 c7 c8 c9 c10 c11 HD2
          go_wp2_with fail
          refine HSAME.out.mono ?_
          rintro e w10 ⟨rfl, hb10⟩
          rw [← HW9.out] at hb10
          have HL10 := Lib.hid (HL9.out.below hb10)
          clear hb10 HSAME u0 u1 u2 u3 d0 g8 g6
          go_wp2_with fail
          go_roundw
          case rel => exact ⟨k + 1, _, _, _, _, by omega, by go_num, HMU'.out, HS'.out, HL10.out⟩
          case measure => simp [intOf]; omega
        · obtain rfl : chg = false := by rw [HCHG.out, HKD.out]; decide
          have f1 : (x.o.kind == 1) = false := by rw [HKD.out]; decide
          have f7 : (x.o.kind == 7) = false := by rw [HKD.out]; decide
          have f8 : (x.o.kind == 8) = false := by rw [HKD.out]; decide
          clear HCHG
          have HS' : Hid (Sim s (doX X x.o) (doX Y x.o)) := HSIM.out.both HOKX.out (by rw [HKD.out]; decide) (fun h => by rw [HKD.out] at h; rcases h with h | h <;> cases h)
          have hte : ToldL.mk er2 tv2 ti2 tn2 = ToldL.mk er tv ti tn := HTT2.out.symm.trans ((HSIM.out.told HOKX.out hs255 (by rw [HKD.out]; decide) (by rw [HKD.out]; decide) (fun h => by rw [HKD.out] at h; rcases h with h | h <;> cases h) (.inr (.inr (.inr (by rw [HSV.out]; exact HBM.out rfl))))).trans HTT.out)
          obtain ⟨rfl, rfl, rfl, rfl⟩ := ToldL.mk.inj hte
          clear hte
          go_wp2_with fail
          refine HD2.out.mono ?_
          rintro e w8 ⟨⟨va2, vc2, ia2, ic2, na2, nc2⟩, qb8, rfl, hnt8, hl8, hq8, hk8⟩
          rw [show (ToldL.mk er2 tv2 ti2 tn2).vs.length = tl from HTL.out, show (ToldL.mk er2 tv2 ti2 tn2).ids.length = il from HIL.out, show (ToldL.mk er2 tv2 ti2 tn2).ns.length = nl from HNL.out]
          obtain ⟨W9, hW9⟩ : ∃ W9, W9 = w8.alloc (.cells #[.int .i64 er2, .slice va2 tl vc2, .slice ia2 il ic2, .slice na2 nl nc2] 48) := ⟨_, rfl⟩
          have hA9 : Below w8.heap.size w8 W9 := by rw [hW9]; exact (Below.refl _ _).alloc (Nat.le_refl _) _
          have HW9 := Lib.hid hW9
          have HL9 := Lib.hid (hl8.swap.below hA9)
          have d0 : w8.cell? ⟨wr.heap.size, 0, none⟩ = some (.int .i64 x.o.kind) := hk8.cell (by have h1 := HQ.out; have h2 := HSZ1.out; exact ⟨by omega, by rcases HL7.out.nb with e | e <;> have h3 := HLP.out.nb <;> have h4 := HLTA.out <;> omega⟩) c0
          have g8 : wr.heap.size < w8.heap.size := cell_lt d0
          have hoff : Off pb qb w6.heap.size := by
            have h2 := HLTA.out
            have h3 := HZA6.out
            exact ⟨by omega, by omega⟩
          have u0 := hk8.cell hoff HT7.out.1
          have u1 := hk8.cell hoff HT7.out.2.1
          have u2 := hk8.cell hoff HT7.out.2.2.1
          have u3 := hk8.cell hoff HT7.out.2.2.2
          have g6 : w6.heap.size < w8.heap.size := cell_lt u0
          have HN9 := Lib.hid ((HNT7.out.kept hk8 (fun b hb _ => by have h2 := HLTA.out; exact ⟨by omega, by omega⟩)).below hA9)
          have HNT9 := Lib.hid (hnt8.below hA9)
          have hsame := told_yes (ToldL.mk er2 tv2 ti2 tn2) _ _ _ HN9.out HNT9.out
          unfold ToldL.v at hsame
          simp only [HTL.out, HIL.out, HNL.out] at hsame
          rw [hW9] at hsame
          have HSAME := Lib.hid hsame
          clear hsame
          clear hnt8 hl8 hq8 hk8 hA9 hW9 g0 c0 c1 c2 c3 c4 c5 c6 c7 c8 c9 c10 c11 HD2
          go_wp2_with fail
          refine HSAME.out.mono ?_
          rintro e w10 ⟨rfl, hb10⟩
          rw [← HW9.out] at hb10
          have HL10 := Lib.hid (HL9.out.below hb10)
          clear hb10 HSAME u0 u1 u2 u3 d0 g8 g6
          go_wp2_with fail
          go_roundw
          case rel => exact ⟨k + 1, _, _, _, _, by omega, by go_num, HMU'.out, HS'.out, HL10.out⟩
          case measure => simp [intOf]; omega
        · obtain rfl : chg = false := by rw [HCHG.out, HKD.out]; decide
          have f1 : (x.o.kind == 1) = false := by rw [HKD.out]; decide
          have f7 : (x.o.kind == 7) = false := by rw [HKD.out]; decide
          have f8 : (x.o.kind == 8) = false := by rw [HKD.out]; decide
          clear HCHG
          have HS' : Hid (Sim s (doX X x.o) (doX Y x.o)) := HSIM.out.both HOKX.out (by rw [HKD.out]; decide) (fun h => by rw [HKD.out] at h; rcases h with h | h <;> cases h)
          have e1 : (bm == 0) = false := by simpa using hb
          clear hb
          go_wp2_with fail
          refine HD2.out.mono ?_
          rintro e w8 ⟨⟨va2, vc2, ia2, ic2, na2, nc2⟩, qb8, rfl, hnt8, hl8, hq8, hk8⟩
          obtain ⟨tl2, htl2⟩ : ∃ tl, tv2.length = tl := ⟨_, rfl⟩
          obtain ⟨il2, hil2⟩ : ∃ il, ti2.length = il := ⟨_, rfl⟩
          obtain ⟨nl2, hnl2⟩ : ∃ nl, tn2.length = nl := ⟨_, rfl⟩
          rw [show (ToldL.mk er2 tv2 ti2 tn2).vs.length = tl2 from htl2, show (ToldL.mk er2 tv2 ti2 tn2).ids.length = il2 from hil2, show (ToldL.mk er2 tv2 ti2 tn2).ns.length = nl2 from hnl2]
          clear htl2 hil2 hnl2
          obtain ⟨W9, hW9⟩ : ∃ W9, W9 = w8.alloc (.cells #[.int .i64 er2, .slice va2 tl2 vc2, .slice ia2 il2 ic2, .slice na2 nl2 nc2] 48) := ⟨_, rfl⟩
          have hA9 : Below w8.heap.size w8 W9 := by rw [hW9]; exact (Below.refl _ _).alloc (Nat.le_refl _) _
          have HW9 := Lib.hid hW9
          have HL9 := Lib.hid (hl8.swap.below hA9)
          have d0 : w8.cell? ⟨wr.heap.size, 0, none⟩ = some (.int .i64 x.o.kind) := hk8.cell (by have h1 := HQ.out; have h2 := HSZ1.out; exact ⟨by omega, by rcases HL7.out.nb with e | e <;> have h3 := HLP.out.nb <;> have h4 := HLTA.out <;> omega⟩) c0
          have g8 : wr.heap.size < w8.heap.size := cell_lt d0
          clear hnt8 hl8 hq8 hk8 hA9 hW9 g0 c0 c1 c2 c3 c4 c5 c6 c7 c8 c9 c10 c11 HD2
          go_wp2_with fail
          rw [← HW9.out]
          go_roundw
          case rel => exact ⟨k + 1, _, _, _, _, by omega, by go_num, HMU'.out, HS'.out, HL9.out⟩
          case measure => simp [intOf]; omega
        · obtain rfl : chg = false := by rw [HCHG.out, HKD.out]; decide
          have f1 : (x.o.kind == 1) = false := by rw [HKD.out]; decide
          have f7 : (x.o.kind == 7) = false := by rw [HKD.out]; decide
          have f8 : (x.o.kind == 8) = false := by rw [HKD.out]; decide
          clear HCHG
          have HS' : Hid (Sim s (doX X x.o) (doX Y x.o)) := HSIM.out.both HOKX.out (by rw [HKD.out]; decide) (fun h => by rw [HKD.out] at h; rcases h with h | h <;> cases h)
          have e1 : (bm == 0) = false := by simpa using hb
          clear hb
          go_wp2_with fail
          refine HD2.out.mono ?_
          rintro e w8 ⟨⟨va2, vc2, ia2, ic2, na2, nc2⟩, qb8, rfl, hnt8, hl8, hq8, hk8⟩
          obtain ⟨tl2, htl2⟩ : ∃ tl, tv2.length = tl := ⟨_, rfl⟩
          obtain ⟨il2, hil2⟩ : ∃ il, ti2.length = il := ⟨_, rfl⟩
          obtain ⟨nl2, hnl2⟩ : ∃ nl, tn2.length = nl := ⟨_, rfl⟩
          rw [show (ToldL.mk er2 tv2 ti2 tn2).vs.length = tl2 from htl2, show (ToldL.mk er2 tv2 ti2 tn2).ids.length = il2 from hil2, show (ToldL.mk er2 tv2 ti2 tn2).ns.length = nl2 from hnl2]
          clear htl2 hil2 hnl2
          obtain ⟨W9, hW9⟩ : ∃ W9, W9 = w8.alloc (.cells #[.int .i64 er2, .slice va2 tl2 vc2, .slice ia2 il2 ic2, .slice na2 nl2 nc2] 48) := ⟨_, rfl⟩
          have hA9 : Below w8.heap.size w8 W9 := by rw [hW9]; exact (Below.refl _ _).alloc (Nat.le_refl _) _
          have HW9 := Lib.hid hW9
          have HL9 := Lib.hid (hl8.swap.below hA9)
          have d0 : w8.cell? ⟨wr.heap.size, 0, none⟩ = some (.int .i64 x.o.kind) := hk8.cell (by have h1 := HQ.out; have h2 := HSZ1.out; exact ⟨by omega, by rcases HL7.out.nb with e | e <;> have h3 := HLP.out.nb <;> have h4 := HLTA.out <;> omega⟩) c0
          have g8 : wr.heap.size < w8.heap.size := cell_lt d0
          clear hnt8 hl8 hq8 hk8 hA9 hW9 g0 c0 c1 c2 c3 c4 c5 c6 c7 c8 c9 c10 c11 HD2
          go_wp2_with fail
          rw [← HW9.out]
          go_roundw
          case rel => exact ⟨k + 1, _, _, _, _, by omega, by go_num, HMU'.out, HS'.out, HL9.out⟩
          case measure => simp [intOf]; omega
        · obtain rfl : chg = false := by rw [HCHG.out, HKD.out]; decide
          have f1 : (x.o.kind == 1) = false := by rw [HKD.out]; decide
          have f7 : (x.o.kind == 7) = false := by rw [HKD.out]; decide
          have f8 : (x.o.kind == 8) = false := by rw [HKD.out]; decide
          clear HCHG
          have HS' : Hid (Sim s (doX X x.o) (doX Y x.o)) := HSIM.out.both HOKX.out (by rw [HKD.out]; decide) (fun h => by rw [HKD.out] at h; rcases h with h | h <;> cases h)
          have e1 : (bm == 0) = false := by simpa using hb
          clear hb
          go_wp2_with fail
          refine HD2.out.mono ?_
          rintro e w8 ⟨⟨va2, vc2, ia2, ic2, na2, nc2⟩, qb8, rfl, hnt8, hl8, hq8, hk8⟩
          obtain ⟨tl2, htl2⟩ : ∃ tl, tv2.length = tl := ⟨_, rfl⟩
          obtain ⟨il2, hil2⟩ : ∃ il, ti2.length = il := ⟨_, rfl⟩
          obtain ⟨nl2, hnl2⟩ : ∃ nl, tn2.length = nl := ⟨_, rfl⟩
          rw [show (ToldL.mk er2 tv2 ti2 tn2).vs.length = tl2 from htl2, show (ToldL.mk er2 tv2 ti2 tn2).ids.length = il2 from hil2, show (ToldL.mk er2 tv2 ti2 tn2).ns.length = nl2 from hnl2]
          clear htl2 hil2 hnl2
          obtain ⟨W9, hW9⟩ : ∃ W9, W9 = w8.alloc (.cells #[.int .i64 er2, .slice va2 tl2 vc2, .slice ia2 il2 ic2, .slice na2 nl2 nc2] 48) := ⟨_, rfl⟩
          have hA9 : Below w8.heap.size w8 W9 := by rw [hW9]; exact (Below.refl _ _).alloc (Nat.le_refl _) _
          have HW9 := Lib.hid hW9
          have HL9 := Lib.hid (hl8.swap.below hA9)
          have d0 : w8.cell? ⟨wr.heap.size, 0, none⟩ = some (.int .i64 x.o.kind) := hk8.cell (by have h1 := HQ.out; have h2 := HSZ1.out; exact ⟨by omega, by rcases HL7.out.nb with e | e <;> have h3 := HLP.out.nb <;> have h4 := HLTA.out <;> omega⟩) c0
          have g8 : wr.heap.size < w8.heap.size := cell_lt d0
          clear hnt8 hl8 hq8 hk8 hA9 hW9 g0 c0 c1 c2 c3 c4 c5 c6 c7 c8 c9 c10 c11 HD2
          go_wp2_with fail
          rw [← HW9.out]
          go_roundw
          case rel => exact ⟨k + 1, _, _, _, _, by omega, by go_num, HMU'.out, HS'.out, HL9.out⟩
          case measure => simp [intOf]; omega
    · obtain rfl : k = n := by omega
      have HBR := Lib.hid (HB4.out.trans ((HLP.out.far (by have := HLP4.out.ge; omega) (by have := HLP4.out.ge; have := HLP4.out.lt; omega)).mono HB1.out.size))
      go_wp2_with fail
      go_ret
      exact ⟨rfl, HBR.out⟩
end Go.Proofs.YteimdhkajbldjaaGreat
