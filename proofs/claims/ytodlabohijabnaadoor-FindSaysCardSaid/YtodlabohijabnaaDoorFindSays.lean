/- FindSays' walk. -/
import Derived.Test.YtodlabohijabnaaDoorFLits
import Derived.Test.YtodlabohijabnaaDoorFRef
import Derived.Test.YtodlabohijabnaaDoorSRefStore
import Derived.Test.YtodlabohijabnaaDoorRefRec
set_option linter.unusedVariables false
set_option linter.unusedSimpArgs false
set_option maxRecDepth 100000
namespace Go.Proofs.YtodlabohijabnaaDoor
open Go.RowKit Go.Sort Go.Maps

abbrev recA0 : RecL := ⟨sA, 0, [], []⟩
theorem okA0 : recA0.Ok := ⟨nameA, Int.le_refl _, by decide, by simp, by simp, fOk_mk (by simp [Asc]) (fun f hf => by cases hf), fun i s hi => absurd hi (Nat.not_lt_zero i)⟩
theorem withA_lit {B : Nat} (w0 : World) (hB : w0.heap.size = B) :
    Calls Tryd.prog 12 #[.slice (some ⟨B, 0, none⟩) 1 1, .slice (some ⟨B + 1, 0, none⟩) 1 1]
      ((w0.alloc (.cells #[.string sA, .int .i64 0, .slice none 0 0, .slice none 0 0, .bool false] 34)).alloc (.cells #[.string sA] 9))
      fun e w' => ∃ A c, e = .returned (.tuple #[.slice A 1 c, .int .i64 0]) ∧ Hid (SlS w' A [sA]) ∧ Hid (Below B w0 w') := by
  subst hB
  have hin : (⟨⟨recA0, false⟩, ⟨none, 0, none, 0⟩⟩ : PV).in_ w0 := ⟨SlF.nil _ _, SlS.nil _ _, by simp, by simp, by simp, by simp⟩
  obtain ⟨he, hr⟩ := with_small (ids := [sA]) (st_one okA0) (by simp)
  have hw : withR [⟨recA0, false⟩] [sA] = [sA] := hr.trans (with_one (r := recA0) (fun s hs => by cases hs))
  have h1 : Below w0.heap.size w0 (w0.alloc (.cells #[.string sA, .int .i64 0, .slice none 0 0, .slice none 0 0, .bool false] 34)) := (Below.refl _ _).alloc (Nat.le_refl _) _
  have hv := (vs_one _ _ hin).below ((Below.refl _ _).alloc (Nat.le_refl _) (.cells #[.string sA] 9))
  have hids := sl_one (w0.alloc (.cells #[.string sA, .int .i64 0, .slice none 0 0, .slice none 0 0, .bool false] 34)) 9 [sA]
  have hlit := with_fine 1 1 [sA] _ hv (st_one okA0) hids rfl hw he
  simp only [World.size_alloc] at hlit
  refine hlit.mono ?_
  rintro e w1 ⟨A, k, c, rfl, hk, ho, hb⟩
  obtain rfl : k = 1 := hk.symm
  have h2 := h1.alloc (by simp) (.cells #[.string sA] 9)
  exact ⟨A, c, rfl, (OwnS.at_ ho rfl).1, h2.trans (hb.mono h2.size)⟩

theorem eqL_is {A A' : Option Addr} {Y : List ByteArray} {M : Nat} {w : World} (c3 c8 : Nat) (h1 : SlS w A Y) (h2 : SlS w A' Y) (hl : Y.length = M) (hm : M ≤ maxLen) :
    Calls Tryd.prog 13 #[.slice A M c3, .slice A' M c8] w fun e w' => e = .returned (.bool true) ∧ Below w.heap.size w w' := by
  have h := eqS_is (b := true) A A' Y Y c3 c8 w h1 h2 (by rw [hl]; exact hm) (by rw [hl]; exact hm) (by simp)
  rwa [hl] at h

set_option maxHeartbeats 4000000 in
theorem findSays_walk (a : Option Addr) (c : Nat) (l : List PV) (f : FieldL) (ai : Option Addr) (ci : Nat) (ids : List ByteArray) (w : World) (hs : SlW w a l) (hl : l.length ≤ c) (hm : c ≤ maxLen) (hsh : ∀ x ∈ l, x.v.r.short) (hf : f.short) (hsi : SlS w ai ids) (hli : ids.length ≤ ci) (hmi : ci ≤ maxLen) :
    Calls Tryd.prog 3 #[.slice a l.length c, f.v, .slice ai ids.length ci] w fun e w' => e = .returned (.bool true) ∧ Below w.heap.size w w' := by
  have HSW := Lib.hid hs
  have HSH := Lib.hid hsh
  have HF := Lib.hid hf
  obtain ⟨n, hn⟩ : ∃ n, l.length = n := ⟨_, rfl⟩
  have HN := Lib.hid hn
  obtain ⟨il, hil⟩ : ∃ il, ids.length = il := ⟨_, rfl⟩
  have HIL := Lib.hid hil
  have HSI := Lib.hid hsi
  obtain ⟨vs, hvs⟩ : ∃ vs, l.map (·.v) = vs := ⟨_, rfl⟩
  have HVS := Lib.hid hvs
  have HV := Lib.hid (show VsAt w a n vs from ⟨l, hvs, hn, hs⟩)
  rw [hn] at hl ⊢
  rw [hil] at hli ⊢
  have HL := Lib.hid hl
  have HM := Lib.hid hm
  have hnm : n ≤ maxLen := Nat.le_trans hl hm
  have him : il ≤ maxLen := Nat.le_trans hli hmi
  obtain ⟨e1, he1⟩ : ∃ e1, byErr vs f = e1 := ⟨_, rfl⟩
  obtain ⟨L1, hL1⟩ : ∃ L1, byR vs f = L1 := ⟨_, rfl⟩
  obtain ⟨e2, he2⟩ : ∃ e2, withErr vs ids = e2 := ⟨_, rfl⟩
  obtain ⟨L2, hL2⟩ : ∃ L2, withR vs ids = L2 := ⟨_, rfl⟩
  obtain ⟨st, hst⟩ : ∃ st, stErr vs = st := ⟨_, rfl⟩
  have HE1 := Lib.hid he1; have HE2 := Lib.hid he2; have HL1 := Lib.hid hL1; have HL2 := Lib.hid hL2; have HST := Lib.hid hst
  obtain ⟨W0, hW0⟩ : ∃ W0, W0 = w.alloc (.cells #[.string f.key, .string f.val] 24) := ⟨_, rfl⟩
  have hA0 : Below w.heap.size w W0 := by rw [hW0]; exact (Below.refl _ _).alloc (Nat.le_refl _) _
  have k0 : W0.cell? ⟨w.heap.size, 0, none⟩ = some (.string f.key) := by rw [hW0]; simp [go_sem]
  have k1 : W0.cell? ⟨w.heap.size, 1, none⟩ = some (.string f.val) := by rw [hW0]; simp [go_sem]
  have HBY := Lib.hid (by_is c f W0 (HV.out.below hA0) hnm hL1 he1)
  have HW0 := Lib.hid hW0
  have HA0 := Lib.hid hA0
  have HK0 := Lib.hid k0
  have HK1 := Lib.hid k1
  clear hs hsh hf hn hil hsi hvs hl hm hli hmi he1 hL1 he2 hL2 hst hW0 hA0 k0 k1
  go_enter Tryd.func3, Tryd.ntmps3
  go_wp2_with fail
  rw [← HW0.out]
  (with_reducible refine HBY.out.mono ?_)
  rintro e w1 ⟨A1, n1, c1, rfl, hn1, ho1, hb1⟩
  obtain ⟨hs1, hm1, hc1⟩ := OwnS.at_ ho1 hn1
  have HS1 := Lib.hid hs1
  have HN1 := Lib.hid hn1
  have HM1 := Lib.hid (Nat.le_trans hm1 hc1)
  have HB1 := Lib.hid (HA0.out.trans (hb1.mono HA0.out.size))
  have p0 := (hb1.cell (p := ⟨w.heap.size, 0, none⟩) (cell_lt HK0.out)).trans HK0.out
  have p1 := (hb1.cell (p := ⟨w.heap.size, 1, none⟩) (cell_lt HK0.out)).trans HK1.out
  have HWI := Lib.hid (with_is c ci ids w1 (HV.out.below HB1.out) hnm (HSI.out.below HB1.out) HIL.out HL2.out HE2.out)
  have HP0 := Lib.hid p0
  have HP1 := Lib.hid p1
  clear hn1 ho1 hb1 hs1 hm1 hc1 p0 p1 HBY HK0 HK1
  go_wp2_with fail
  (with_reducible refine HWI.out.mono ?_)
  rintro e w2 ⟨A2, n2, c2, rfl, hn2, ho2, hb2⟩
  obtain ⟨hs2, hm2, hc2⟩ := OwnS.at_ ho2 hn2
  have HS2 := Lib.hid hs2
  have HN2 := Lib.hid hn2
  have HM2 := Lib.hid (Nat.le_trans hm2 hc2)
  have HB2 := Lib.hid (HB1.out.trans (hb2.mono HB1.out.size))
  have HB12 := Lib.hid hb2
  clear hn2 ho2 hb2 hs2 hm2 hc2 HWI
  go_wp2_with fail
  refine (withA_lit (B := w2.heap.size) _ rfl).mono ?_
  rintro e w3 ⟨A3, c3, rfl, HS3, HB3⟩
  go_wp2_with fail
  refine (eqS_is (b := true) A3 _ [sA] [sA] c3 1 _ (HS3.out.below ((Below.refl _ _).alloc (Nat.le_refl _) _)) (sl_one w3 9 [sA]) (by unfold maxLen; simp) (by unfold maxLen; simp) (by simp)).mono ?_
  rintro e w4 ⟨rfl, hb4⟩
  have hb34 : Below w3.heap.size w3 w4 := ((Below.refl _ _).alloc (Nat.le_refl _) _).trans (hb4.mono (by simp))
  have HB24 := Lib.hid (HB3.out.trans (hb34.mono HB3.out.size))
  have HB4 := Lib.hid (HB2.out.trans (HB24.out.mono HB2.out.size))
  clear hb4 hb34 HS3 HB3
  have HSTO := Lib.hid (refStore_is c w4 l (HSW.out.below HB4.out) HVS.out HN.out HL.out HM.out HSH.out HST.out)
  go_wp2_with fail
  (with_reducible refine HSTO.out.mono ?_)
  rintro e w5 ⟨rfl, hb5⟩
  have HB25 := Lib.hid (HB24.out.trans (hb5.mono HB24.out.size))
  have HB15 := Lib.hid (HB12.out.trans (HB25.out.mono HB12.out.size))
  have HB5 := Lib.hid (HB1.out.trans (HB15.out.mono HB1.out.size))
  have p0 := (HB15.out.cell (p := ⟨w.heap.size, 0, none⟩) (cell_lt HP0.out)).trans HP0.out
  have p1 := (HB15.out.cell (p := ⟨w.heap.size, 1, none⟩) (cell_lt HP0.out)).trans HP1.out
  have HS15 := Lib.hid (HS1.out.below HB15.out)
  have HS25 := Lib.hid (HS2.out.below HB25.out)
  clear hb5 HSTO HB24 HB4 HS1 HS2 HP0 HP1 HB12
  by_cases hst : st = 0
  · subst hst
    have hbe : byErr vs f = if isFd f = true then 0 else 3 := by unfold byErr; rw [if_neg (fun k => k HST.out)]
    have hwe : withErr vs ids = if 60 < il then 2 else 0 := by unfold withErr; rw [if_neg (fun k => k HST.out), HIL.out]
    have HBE := Lib.hid hbe
    have HWE := Lib.hid hwe
    have HV5 := Lib.hid (HV.out.below HB5.out)
    have HSI5 := Lib.hid (HSI.out.below HB5.out)
    clear hbe hwe
    obtain ⟨tk, htk⟩ : ∃ tk, isNm f.key = tk := ⟨_, rfl⟩
    obtain ⟨tv, htv⟩ : ∃ tv, isVl f.val = tv := ⟨_, rfl⟩
    have HTK := Lib.hid htk
    have HTV := Lib.hid htv
    have HCK := Lib.hid (refId_is f.key w5 htk)
    clear htk htv
    cases tk with
    | false =>
      have hfd : isFd f = false := by unfold isFd; rw [HTK.out]; rfl
      have h3 : e1 = 3 := by rw [← HE1.out, HBE.out, hfd]; rfl
      have hn0 : n1 = 0 := by rw [← HN1.out, ← HL1.out]; unfold byR; rw [HBE.out, hfd]; rfl
      subst h3 hn0
      clear hfd
      go_wp2_with fail
      (with_reducible refine HCK.out.mono ?_)
      rintro e w6 ⟨rfl, hb6⟩
      have HB56 := Lib.hid hb6
      clear hb6 p0 p1
      by_cases hbig : 60 < il
      · have h4 : e2 = 2 := by rw [← HE2.out, HWE.out, if_pos hbig]
        have hm0 : n2 = 0 := by rw [← HN2.out, ← HL2.out]; unfold withR; rw [HWE.out, if_pos hbig]; rfl
        subst h4 hm0
        have hgt : (il : Int) > 60 := by omega
        have hgt2 : (60 : Int) < (il : Int) := by omega
        have HBZ := Lib.hid (HB5.out.trans (HB56.out.mono HB5.out.size))
        go_wp2_with fail
        go_ret
        exact ⟨by simp, HBZ.out⟩
      · have h0 : withErr vs ids = 0 := by rw [HWE.out, if_neg hbig]
        have h4 : e2 = 0 := HE2.out.symm.trans h0
        have hLL : withL vs ids = L2 := by rw [← HL2.out]; unfold withR; rw [if_pos h0]
        subst h4
        have hgt : ¬ (il : Int) > 60 := by omega
        have hgt2 : ¬ (60 : Int) < (il : Int) := by omega
        have HRW := Lib.hid (refWith_is c ci ids w6 (HV5.out.below HB56.out) HST.out (HSI5.out.below HB56.out) HIL.out (by omega) hLL)
        clear h0 hLL
        go_wp2_with fail
        (with_reducible refine HRW.out.mono ?_)
        rintro e w8 ⟨A8, n8, c8, rfl, hn8, ho8, hb8⟩
        obtain ⟨hs8, _, _⟩ := OwnS.at_ ho8 hn8
        have hb58 := HB56.out.trans (hb8.mono HB56.out.size)
        obtain rfl : n8 = n2 := hn8.symm.trans HN2.out
        have HEQ2 := Lib.hid (eqL_is c2 c8 (HS25.out.below hb58) hs8 HN2.out HM2.out)
        have HB58 := Lib.hid hb58
        clear hn8 ho8 hb8 hs8 hb58 HRW
        go_wp2_with fail
        (with_reducible refine HEQ2.out.mono ?_)
        rintro e w9 ⟨rfl, hb9⟩
        have hb59 := HB58.out.trans (hb9.mono HB58.out.size)
        have HBZ := Lib.hid (HB5.out.trans (hb59.mono HB5.out.size))
        clear hb9 hb59 HEQ2
        go_wp2_with fail
        go_ret
        exact ⟨by simp, HBZ.out⟩
    | true =>
      go_wp2_with fail
      (with_reducible refine HCK.out.mono ?_)
      rintro e w6' ⟨rfl, hb6⟩
      have q0 := (hb6.cell (p := ⟨w.heap.size, 0, none⟩) (cell_lt p0)).trans p0
      have q1 := (hb6.cell (p := ⟨w.heap.size, 1, none⟩) (cell_lt p0)).trans p1
      have HCV := Lib.hid (refValue_is f.val w6' HF.out.2 HTV.out)
      have HB6' := Lib.hid hb6
      clear hb6 p0 p1
      cases tv with
      | false =>
        have hfd : isFd f = false := by unfold isFd; rw [HTK.out, HTV.out]; rfl
        have h3 : e1 = 3 := by rw [← HE1.out, HBE.out, hfd]; rfl
        have hn0 : n1 = 0 := by rw [← HN1.out, ← HL1.out]; unfold byR; rw [HBE.out, hfd]; rfl
        subst h3 hn0
        clear hfd
        go_wp2_with fail
        (with_reducible refine HCV.out.mono ?_)
        rintro e w6 ⟨rfl, hb6⟩
        have HB56 := Lib.hid (HB6'.out.trans (hb6.mono HB6'.out.size))
        clear hb6 q0 q1
        by_cases hbig : 60 < il
        · have h4 : e2 = 2 := by rw [← HE2.out, HWE.out, if_pos hbig]
          have hm0 : n2 = 0 := by rw [← HN2.out, ← HL2.out]; unfold withR; rw [HWE.out, if_pos hbig]; rfl
          subst h4 hm0
          have hgt : (il : Int) > 60 := by omega
          have hgt2 : (60 : Int) < (il : Int) := by omega
          have HBZ := Lib.hid (HB5.out.trans (HB56.out.mono HB5.out.size))
          go_wp2_with fail
          go_ret
          exact ⟨by simp, HBZ.out⟩
        · have h0 : withErr vs ids = 0 := by rw [HWE.out, if_neg hbig]
          have h4 : e2 = 0 := HE2.out.symm.trans h0
          have hLL : withL vs ids = L2 := by rw [← HL2.out]; unfold withR; rw [if_pos h0]
          subst h4
          have hgt : ¬ (il : Int) > 60 := by omega
          have hgt2 : ¬ (60 : Int) < (il : Int) := by omega
          have HRW := Lib.hid (refWith_is c ci ids w6 (HV5.out.below HB56.out) HST.out (HSI5.out.below HB56.out) HIL.out (by omega) hLL)
          clear h0 hLL
          go_wp2_with fail
          (with_reducible refine HRW.out.mono ?_)
          rintro e w8 ⟨A8, n8, c8, rfl, hn8, ho8, hb8⟩
          obtain ⟨hs8, _, _⟩ := OwnS.at_ ho8 hn8
          have hb58 := HB56.out.trans (hb8.mono HB56.out.size)
          obtain rfl : n8 = n2 := hn8.symm.trans HN2.out
          have HEQ2 := Lib.hid (eqL_is c2 c8 (HS25.out.below hb58) hs8 HN2.out HM2.out)
          have HB58 := Lib.hid hb58
          clear hn8 ho8 hb8 hs8 hb58 HRW
          go_wp2_with fail
          (with_reducible refine HEQ2.out.mono ?_)
          rintro e w9 ⟨rfl, hb9⟩
          have hb59 := HB58.out.trans (hb9.mono HB58.out.size)
          have HBZ := Lib.hid (HB5.out.trans (hb59.mono HB5.out.size))
          clear hb9 hb59 HEQ2
          go_wp2_with fail
          go_ret
          exact ⟨by simp, HBZ.out⟩
      | true =>
        have hfd : isFd f = true := by unfold isFd; rw [HTK.out, HTV.out]; rfl
        have h0 : byErr vs f = 0 := by rw [HBE.out, hfd]; rfl
        have h3 : e1 = 0 := HE1.out.symm.trans h0
        have hLL : byL vs f = L1 := by rw [← HL1.out]; unfold byR; rw [if_pos h0]
        subst h3
        have HLB := Lib.hid hLL
        clear hfd h0 hLL
        go_wp2_with fail
        (with_reducible refine HCV.out.mono ?_)
        rintro e w6'' ⟨rfl, hb6⟩
        have r0 := (hb6.cell (p := ⟨w.heap.size, 0, none⟩) (cell_lt q0)).trans q0
        have r1 := (hb6.cell (p := ⟨w.heap.size, 1, none⟩) (cell_lt q0)).trans q1
        have HB6'' := Lib.hid (HB6'.out.trans (hb6.mono HB6'.out.size))
        have HRB := Lib.hid (refBy_is c f w6'' (HV5.out.below HB6''.out) HST.out HLB.out)
        clear hb6 q0 q1 HCV
        go_wp2_with fail
        (with_reducible refine HRB.out.mono ?_)
        rintro e w7 ⟨A7, n7, c7, rfl, hn7, ho7, hb7⟩
        obtain ⟨hs7, _, _⟩ := OwnS.at_ ho7 hn7
        have hb57 := HB6''.out.trans (hb7.mono HB6''.out.size)
        obtain rfl : n7 = n1 := hn7.symm.trans HN1.out
        have HEQ := Lib.hid (eqL_is c1 c7 (HS15.out.below hb57) hs7 HN1.out HM1.out)
        have HB57 := Lib.hid hb57
        clear hn7 ho7 hb7 hs7 hb57 r0 r1 HRB
        go_wp2_with fail
        (with_reducible refine HEQ.out.mono ?_)
        rintro e w6 ⟨rfl, hb6⟩
        have HB56 := Lib.hid (HB57.out.trans (hb6.mono HB57.out.size))
        clear hb6 HEQ
        by_cases hbig : 60 < il
        · have h4 : e2 = 2 := by rw [← HE2.out, HWE.out, if_pos hbig]
          have hm0 : n2 = 0 := by rw [← HN2.out, ← HL2.out]; unfold withR; rw [HWE.out, if_pos hbig]; rfl
          subst h4 hm0
          have hgt : (il : Int) > 60 := by omega
          have hgt2 : (60 : Int) < (il : Int) := by omega
          have HBZ := Lib.hid (HB5.out.trans (HB56.out.mono HB5.out.size))
          go_wp2_with fail
          go_ret
          exact ⟨by simp, HBZ.out⟩
        · have h0 : withErr vs ids = 0 := by rw [HWE.out, if_neg hbig]
          have h4 : e2 = 0 := HE2.out.symm.trans h0
          have hLL : withL vs ids = L2 := by rw [← HL2.out]; unfold withR; rw [if_pos h0]
          subst h4
          have hgt : ¬ (il : Int) > 60 := by omega
          have hgt2 : ¬ (60 : Int) < (il : Int) := by omega
          have HRW := Lib.hid (refWith_is c ci ids w6 (HV5.out.below HB56.out) HST.out (HSI5.out.below HB56.out) HIL.out (by omega) hLL)
          clear h0 hLL
          go_wp2_with fail
          (with_reducible refine HRW.out.mono ?_)
          rintro e w8 ⟨A8, n8, c8, rfl, hn8, ho8, hb8⟩
          obtain ⟨hs8, _, _⟩ := OwnS.at_ ho8 hn8
          have hb58 := HB56.out.trans (hb8.mono HB56.out.size)
          obtain rfl : n8 = n2 := hn8.symm.trans HN2.out
          have HEQ2 := Lib.hid (eqL_is c2 c8 (HS25.out.below hb58) hs8 HN2.out HM2.out)
          have HB58 := Lib.hid hb58
          clear hn8 ho8 hb8 hs8 hb58 HRW
          go_wp2_with fail
          (with_reducible refine HEQ2.out.mono ?_)
          rintro e w9 ⟨rfl, hb9⟩
          have hb59 := HB58.out.trans (hb9.mono HB58.out.size)
          have HBZ := Lib.hid (HB5.out.trans (hb59.mono HB5.out.size))
          clear hb9 hb59 HEQ2
          go_wp2_with fail
          go_ret
          exact ⟨by simp, HBZ.out⟩
  · have hne : stErr vs ≠ 0 := by rw [HST.out]; exact hst
    have h1 : e1 = st := by rw [← HE1.out]; unfold byErr; rw [if_pos hne, HST.out]
    have h2 : e2 = st := by rw [← HE2.out]; unfold withErr; rw [if_pos hne, HST.out]
    have hn0 : n1 = 0 := by
      rw [← HN1.out, ← HL1.out]
      unfold byR
      rw [if_neg (by rw [HE1.out, h1]; exact hst)]
      rfl
    have hm0 : n2 = 0 := by
      rw [← HN2.out, ← HL2.out]
      unfold withR
      rw [if_neg (by rw [HE2.out, h2]; exact hst)]
      rfl
    subst h1 h2 hn0 hm0
    have g1 : (e2 == 0) = false := by simpa using hst
    have g2 : (e2 != 0) = true := by simpa using hst
    clear hne p0 p1
    go_wp2_with fail
    go_ret
    exact ⟨by simp, HB5.out⟩
end Go.Proofs.YtodlabohijabnaaDoor
