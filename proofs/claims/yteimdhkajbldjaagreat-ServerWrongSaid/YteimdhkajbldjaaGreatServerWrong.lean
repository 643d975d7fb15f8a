/- ServerWrong's walk. -/
import Derived.Test.YteimdhkajbldjaaGreatSrvB
import Derived.Test.YteimdhkajbldjaaGreatVAsk
set_option linter.unusedVariables false
set_option linter.unusedSimpArgs false
set_option maxRecDepth 100000
namespace Go.Proofs.YteimdhkajbldjaaGreat
open Go.RowKit Go.Sort

set_option maxHeartbeats 8000000 in
theorem serverWrong_walk (a : Option Addr) (c : Nat) (g : List RowI) (o : OpL) (P : OpP) (w : World) (hs : SlG w a g) (hl : g.length ≤ c) (hm : c ≤ maxLen) (hi : o.in_ P w) :
    Calls Tryz.prog 6 #[.slice a g.length c, o.v P] w fun e w' => e = .returned (.bool true) ∧ Below w.heap.size w w' := by
  obtain ⟨W0, hW0⟩ : ∃ W0, W0 = w.alloc (.cells #[.int .i64 o.kind, .int .i64 o.who.role, .int .i64 o.who.why, .int .i64 o.who.time, .slice P.ra o.n P.rc, .string o.r.id, .int .i64 o.r.cats, .slice P.p.fa o.r.fs.length P.p.fc, .slice P.p.ra o.r.rs.length P.p.rc, .string o.id, .string o.f.key, .string o.f.val] 39) := ⟨_, rfl⟩
  have hA : Below w.heap.size w W0 := by rw [hW0]; exact (Below.refl _ _).alloc (Nat.le_refl _) _
  have hbx : OpAt W0 w.heap.size 0 ⟨o, P⟩ := by rw [hW0]; constructor <;> simp [go_sem]
  obtain ⟨gl, hgl⟩ : ∃ gl, g.length = gl := ⟨_, rfl⟩
  have HS := Lib.hid hs
  have HL := Lib.hid hl
  have HM := Lib.hid hm
  have HI := Lib.hid hi
  have HA := Lib.hid hA
  have HBX := Lib.hid hbx
  have HGL := Lib.hid hgl
  have HW0 := Lib.hid hW0
  rw [hgl]
  clear hs hl hm hi hA hbx hgl hW0
  go_enter Tryz.func6, Tryz.ntmps6
  go_wp2_with fail
  refine (srvBegun_is _).mono ?_
  rintro e w1 ⟨rfl, hb1⟩
  rw [← HW0.out] at hb1
  have HB1 := Lib.hid hb1
  clear hb1
  go_wp2_with fail
  refine (ruled_is (fun _ => False) _ (fun z h => h.elim)).mono ?_
  rintro e w2 ⟨p, rfl, hs2, hb2⟩
  have hB2 := HA.out.trans ((HB1.out.trans (hb2.mono HB1.out.size)).mono HA.out.size)
  have HBX2 := Lib.hid ((HBX.out.below HB1.out).below hb2)
  have HASK := Lib.hid (asked_is a g c w2 (HS.out.below hB2) HL.out HM.out)
  rw [HGL.out] at HASK
  have HS2 := Lib.hid hs2
  have HB2 := Lib.hid hB2
  clear hs2 hb2 hB2
  go_wp2_with fail
  refine HASK.out.mono ?_
  rintro e w3 ⟨A, n, ca, l, rfl, hn30, hrow, hb3⟩
  have HROW := Lib.hid hrow
  have HS3 := Lib.hid (HS2.out.below hb3)
  have HPW : Hid (p < w2.heap.size) := HS2.out.pw
  have HPS : Hid (w.heap.size < p) := by
    show w.heap.size < p
    have h1 := HS2.out.sp
    have h2 := HB1.out.size
    have h3 : W0.heap.size = w.heap.size + 1 := by rw [HW0.out]; simp
    omega
  have HB3 := Lib.hid (HB2.out.trans (hb3.mono HB2.out.size))
  have HBX3 := Lib.hid (HBX2.out.below hb3)
  clear hrow hb3 HASK HS2
  go_wp2_with fail
  go_loopw [23] (fun i wr => ∃ (k : Nat) (X : SrvX), k ≤ n ∧ i = .int .i64 k ∧ Hid (LpS w1.heap.size p w3 X wr)) (fun i _ => n - (intOf i).toNat)
  case atStart => exact ⟨0, _, Nat.zero_le _, rfl, LpS.start HS3.out⟩
  case round =>
    obtain ⟨k, X, hk, rfl, HLP⟩ := hrel
    by_cases hlt : k < n
    · have hrow := HROW.out.kept HLP.out.kept (fun b hb => by have := HPW.out; omega)
      obtain ⟨x, b, off, hx, rfl, hat, hin, hok⟩ := hrow.at hlt
      obtain ⟨c0, c1, c2, c3, c4, c5, c6, c7, c8, c9, c10, c11⟩ := hat
      have hbx : Below wr.heap.size wr (wr.alloc (.cells #[.int .i64 x.o.kind, .int .i64 x.o.who.role, .int .i64 x.o.who.why, .int .i64 x.o.who.time, .slice x.P.ra x.o.n x.P.rc, .string x.o.r.id, .int .i64 x.o.r.cats, .slice x.P.p.fa x.o.r.fs.length x.P.p.fc, .slice x.P.p.ra x.o.r.rs.length x.P.p.rc, .string x.o.id, .string x.o.f.key, .string x.o.f.val] 39)) := (Below.refl _ _).alloc (Nat.le_refl _) _
      have HDO := Lib.hid ((HLP.out.below hbx).doing x.o x.P (hin.below hbx) rfl rfl)
      have i1 : (0 : Int) ≤ (k : Int) := by omega
      have i2 : (k : Int) < (n : Int) := by omega
      clear hrow hx hin hok hbx
      go_wp2_with fail
      refine HDO.out.mono ?_
      rintro e w4 ⟨P', rfl, _, hl4⟩
      have HL4 := Lib.hid hl4
      clear hl4 HDO c0 c1 c2 c3 c4 c5 c6 c7 c8 c9 c10 c11
      go_wp2_with fail
      go_roundw
      case rel => exact ⟨k + 1, _, by omega, by go_num, HL4.out⟩
      case measure => simp [intOf]; omega
    · obtain rfl : k = n := by omega
      obtain ⟨q, hql, hqS, hqq, hdo⟩ := HLP.out.own
      have HDO := Lib.hid hdo
      have HQL := Lib.hid hql
      have HQS := Lib.hid hqS
      have hkr := HLP.out.kept
      have HBXR := Lib.hid (HBX3.out.kept hkr (by have := HPS.out; omega))
      have HBR := Lib.hid (HB3.out.trans ((HLP.out.far (by have := HS3.out.sp; have := HS3.out.pw; omega)).mono (Nat.le_trans HA.out.size HB1.out.size)))
      have HV := Lib.hid (HLP.out.versions rfl)
      clear hdo hql hqS hqq hkr hlt
      go_wp2_with fail
      refine HV.out.mono ?_
      rintro e w5 ⟨A5, m5, c5, rfl, hn5, hb5⟩
      obtain ⟨rn, hrn⟩ : ∃ rn, X.n = rn := ⟨_, rfl⟩
      have HR := Lib.hid ((HLP.out.below hb5).rules hrn)
      have HN5 := Lib.hid hn5
      have HB5 := Lib.hid hb5
      have HRN := Lib.hid hrn
      clear hn5 hb5 HV hrn
      go_wp2_with fail
      refine HR.out.mono ?_
      rintro e w6 ⟨A6, c6, rfl, ho6, hb6⟩
      have hb56 := HB5.out.trans (hb6.mono HB5.out.size)
      have hB6 := HBR.out.trans (hb56.mono HBR.out.size)
      obtain ⟨T, hT⟩ : ∃ T, doT X o = T := ⟨_, rfl⟩
      have HD := Lib.hid (HDO.out w6 (doX X o) T o P hb56 (HI.out.below hB6) hT rfl)
      obtain ⟨c0, c1, c2, c3, c4, c5', c6', c7, c8, c9, c10, c11⟩ := HBXR.out.below hb56
      simp only [Nat.zero_add] at c0 c1 c2 c3 c4 c5' c6' c7 c8 c9 c10 c11
      have HO6 := Lib.hid ho6
      have HB6 := Lib.hid hB6
      have HB56 := Lib.hid hb56
      have HBB6 := Lib.hid hb6
      have HT := Lib.hid hT
      clear ho6 hb6 hb56 hB6 HR hT
      go_wp2_with fail
      refine HD.out.mono ?_
      rintro e w7 ⟨P7, rfl, hT7, hl7, hk7⟩
      have hB7 : Below w.heap.size w w7 := HB6.out.trans (hk7.to (fun z hz => by have := HPS.out; have := HQS.out; have := HB1.out.size; have := HA.out.size; constructor <;> omega) HB6.out.size)
      have HB7 := Lib.hid hB7
      have HL7 := Lib.hid hl7
      have HK7 := Lib.hid hk7
      clear hB7 hl7 hk7 hT7 HD c0 c1 c2 c3 c4 c5' c6' c7 c8 c9 c10 c11
      obtain ⟨er, her⟩ : ∃ er, T.code = er := ⟨_, rfl⟩
      by_cases h0 : er = 0
      · rw [her]
        subst h0
        clear her
        go_wp2_with fail
        go_ret
        exact ⟨rfl, HB7.out.alloc HB7.out.size _⟩
      · obtain ⟨hX, hvs, hids, hns⟩ := wrong_math (X := X) (o := o) (by rw [HT.out, her]; exact h0)
        rw [HT.out] at hvs hids hns
        obtain rfl : T = ⟨er, [], [], []⟩ := by cases T; simp only at her hvs hids hns; subst her hvs hids hns; rfl
        rw [hX] at HL7
        have h1 : (er == 0) = false := by simpa using h0
        have h2 : (er != 0) = true := by simpa using h0
        have hb8 : Below w7.heap.size w7 (w7.alloc (.cells #[.int .i64 er, .slice P7.va 0 P7.vc, .slice P7.ia 0 P7.ic, .slice P7.na 0 P7.nc] 48)) := (Below.refl _ _).alloc (Nat.le_refl _) _
        have HV := Lib.hid ((HL7.out.below hb8).versions rfl)
        have HB8 := Lib.hid hb8
        clear her hX hvs hids hns hb8 h0
        go_wp2_with fail
        refine HV.out.mono ?_
        rintro e w9 ⟨A9, m9, c9, rfl, hn9, hb9⟩
        have hb79 := HB8.out.trans (hb9.mono HB8.out.size)
        have d1 : w9.cell? ⟨w7.heap.size, 1, none⟩ = some (.slice P7.va 0 P7.vc) := (hb9.cell (p := ⟨w7.heap.size, 1, none⟩) (by simp)).trans (by simp [go_sem])
        have d2 : w9.cell? ⟨w7.heap.size, 2, none⟩ = some (.slice P7.ia 0 P7.ic) := (hb9.cell (p := ⟨w7.heap.size, 2, none⟩) (by simp)).trans (by simp [go_sem])
        have d3 : w9.cell? ⟨w7.heap.size, 3, none⟩ = some (.slice P7.na 0 P7.nc) := (hb9.cell (p := ⟨w7.heap.size, 3, none⟩) (by simp)).trans (by simp [go_sem])
        have hw5 : NewW wr.heap.size w9 A5 m5 c5 X.vs := ((HN5.out.below HBB6.out).kept HK7.out (fun b hb _ => by have := HQL.out; have := HS3.out.pw; have := HLP.out.kept.size; have := HB3.out.size; constructor <;> omega)).below hb79
        have hst := HLP.out.ok.st
        have HSM := Lib.hid (alike_is (b := true) c5 c9 w9 hw5.at_ hn9.at_ hst hst (by simp))
        have HR := Lib.hid (((HL7.out.below HB8.out).below hb9).rules HRN.out)
        have HB79 := Lib.hid hb79
        clear hn9 hb9 hb79 hw5 hst HV
        have ho7 := own_kept HO6.out HK7.out (own_from HO6.out (fun b hb _ => by have := HQL.out; have := HS3.out.pw; have := HLP.out.kept.size; have := HB3.out.size; have := HB5.out.size; constructor <;> omega))
        have ho9 := own_below ho7 HB79.out
        have HO9 := Lib.hid ho9
        have HRM : Hid (rn ≤ maxLen) := by show rn ≤ maxLen; have := rules_le HLP.out.ok; rw [HRN.out] at this; exact this
        have HL9 := Lib.hid (HL7.out.below HB79.out)
        have HB9 := Lib.hid (HB7.out.trans (HB79.out.mono HB7.out.size))
        clear ho7 ho9 HR
        go_wp2_with fail
        refine HSM.out.mono ?_
        rintro e w10 ⟨rfl, hb10⟩
        have HR := Lib.hid ((HL9.out.below hb10).rules HRN.out)
        have HB10 := Lib.hid hb10
        have e1 := (hb10.cell (p := ⟨w7.heap.size, 1, none⟩) (cell_lt d1)).trans d1
        have e2 := (hb10.cell (p := ⟨w7.heap.size, 2, none⟩) (cell_lt d1)).trans d2
        have e3 := (hb10.cell (p := ⟨w7.heap.size, 3, none⟩) (cell_lt d1)).trans d3
        clear hb10 d1 d2 d3 HSM
        go_wp2_with fail
        refine HR.out.mono ?_
        rintro e w11 ⟨A11, c11, rfl, ho11, hb11⟩
        have HEQ := Lib.hid (eqR_yes A6 A11 rn c6 c11 X.rs w11 (OwnR.slr (own_below (own_below HO9.out HB10.out) hb11)).1 (OwnR.slr ho11).1 HRM.out)
        have f1 := (hb11.cell (p := ⟨w7.heap.size, 1, none⟩) (cell_lt e1)).trans e1
        have f2 := (hb11.cell (p := ⟨w7.heap.size, 2, none⟩) (cell_lt e1)).trans e2
        have f3 := (hb11.cell (p := ⟨w7.heap.size, 3, none⟩) (cell_lt e1)).trans e3
        have HB11 := Lib.hid (HB9.out.trans ((HB10.out.trans (hb11.mono HB10.out.size)).mono HB9.out.size))
        clear ho11 hb11 e1 e2 e3 HR
        go_wp2_with fail
        refine HEQ.out.mono ?_
        rintro e w12 ⟨rfl, hb12⟩
        have g1 := (hb12.cell (p := ⟨w7.heap.size, 1, none⟩) (cell_lt f1)).trans f1
        have g2 := (hb12.cell (p := ⟨w7.heap.size, 2, none⟩) (cell_lt f1)).trans f2
        have g3 := (hb12.cell (p := ⟨w7.heap.size, 3, none⟩) (cell_lt f1)).trans f3
        have HB12 := Lib.hid (HB11.out.trans (hb12.mono HB11.out.size))
        clear hb12 f1 f2 f3 HEQ
        go_wp2_with fail
        go_ret
        exact ⟨rfl, HB12.out⟩
end Go.Proofs.YteimdhkajbldjaaGreat
