/- FindWith's walk. -/
import Derived.Test.YtodlabohijabnaaDoorFLits
import Derived.Test.YtodlabohijabnaaDoorFSort
import Derived.Test.YtodlabohijabnaaDoorSGrown
import Derived.Deep.QuietTactic
import Derived.BigQuiet
set_option linter.unusedVariables false
set_option linter.unusedSimpArgs false
set_option maxRecDepth 100000
namespace Go.Proofs.YtodlabohijabnaaDoor
open Go.RowKit Go.Sort Go.Maps

theorem sl_takeX {w : World} {a : Option Addr} {ids : List ByteArray} (h : SlS w a ids) (k : Nat) : SlS w a (ids.take k) := fun j x hj => h j x (by rw [List.getElem?_take] at hj; split at hj <;> first | exact hj | cases hj)

set_option maxHeartbeats 2000000 in
theorem findWith_walk (a : Option Addr) (c : Nat) (g : List RowI) (a1 : Option Addr) (ca1 : Nat) (ids1 : List ByteArray) (a2 : Option Addr) (ca2 : Nat) (ids2 : List ByteArray) (w : World) (hs : SlG w a g) (hl : g.length ≤ c) (hm : c ≤ maxLen) (hs1 : SlS w a1 ids1) (hl1 : ids1.length ≤ ca1) (hm1 : ca1 ≤ maxLen) (hs2 : SlS w a2 ids2) (hl2 : ids2.length ≤ ca2) (hm2 : ca2 ≤ maxLen) :
    Calls Tryd.prog 6 #[.slice a g.length c, .slice a1 ids1.length ca1, .slice a2 ids2.length ca2] w fun e w' => e = .returned (.bool true) ∧ Below w.heap.size w w' := by
  have HS := Lib.hid hs
  have HL := Lib.hid hl
  have HM := Lib.hid hm
  obtain ⟨gl, hgl⟩ : ∃ gl, g.length = gl := ⟨_, rfl⟩
  have HGL := Lib.hid hgl
  obtain ⟨i1, hi1⟩ : ∃ il, ids1.length = il := ⟨_, rfl⟩
  obtain ⟨i2, hi2⟩ : ∃ il, ids2.length = il := ⟨_, rfl⟩
  obtain ⟨M, hM⟩ : ∃ M : Nat, M = min i1 20 := ⟨_, rfl⟩
  obtain ⟨M2, hM2⟩ : ∃ M : Nat, M = min i2 20 := ⟨_, rfl⟩
  have hmin1 : min (i1 : Int) 20 = (M : Int) := by omega
  have hmin2 : min (i2 : Int) 20 = (M2 : Int) := by omega
  rw [hgl]
  rw [hi1] at hl1 ⊢
  rw [hi2] at hl2 ⊢
  have hMc : M ≤ ca1 := by omega
  have hMc2 : M2 ≤ ca2 := by omega
  have hM20 : M ≤ 20 := by omega
  have hM220 : M2 ≤ 20 := by omega
  obtain ⟨J, hJ⟩ : ∃ J, ids1.take M = J := ⟨_, rfl⟩
  obtain ⟨J2, hJ2⟩ : ∃ J, ids2.take M2 = J := ⟨_, rfl⟩
  have HJ : Hid (J.length = M) := by show _ = _; rw [← hJ, List.length_take, hi1]; omega
  have HJ2 : Hid (J2.length = M2) := by show _ = _; rw [← hJ2, List.length_take, hi2]; omega
  have HJS : Hid (SlS w a1 J) := by show SlS _ _ _; rw [← hJ]; exact sl_takeX hs1 M
  have HJS2 : Hid (SlS w a2 J2) := by show SlS _ _ _; rw [← hJ2]; exact sl_takeX hs2 M2
  clear hs hl hm hs1 hs2 hgl hi1 hi2 hM hM2 hJ hJ2 hl1 hl2 hm1 hm2
  go_enter Tryd.func6, Tryd.ntmps6
  go_wp2_with fail
  refine (withW_lit (B := w.heap.size) _ rfl).mono ?_
  rintro e w1 ⟨A1, c1, rfl, HS1, HB1⟩
  go_wp2_with fail
  refine (eqS_is (b := true) A1 _ [sA, sB] [sA, sB] c1 2 _ (HS1.out.below ((Below.refl _ _).alloc (Nat.le_refl _) _)) (sl_one w1 9 [sA, sB]) (by unfold maxLen; simp) (by unfold maxLen; simp) (by simp)).mono ?_
  rintro e w2 ⟨rfl, hb2⟩
  have hb12 : Below w1.heap.size w1 w2 := ((Below.refl _ _).alloc (Nat.le_refl _) _).trans (hb2.mono (by simp))
  have HB2 := Lib.hid (HB1.out.trans (hb12.mono HB1.out.size))
  have HG := Lib.hid (grown_is a g c w2 (HS.out.below HB2.out) HL.out HM.out)
  rw [HGL.out] at HG
  clear hb2 hb12 HS1 HB1
  go_wp2_with fail
  refine HG.out.mono ?_
  rintro e w3 ⟨vs, A, m, c', rfl, hok, hnw, hb3⟩
  have HST := Lib.hid (hok.fine (by omega))
  have HV := Lib.hid hnw.at_
  have HB3 := Lib.hid (HB2.out.trans (hb3.mono HB2.out.size))
  clear hok hnw hb3 HG HB2
  go_wp2_with fail
  go_quiet (fail)
  go_wp2_with fail
  have hb34 : Below w3.heap.size w3 (w3.drewN nq) := below_drewN (Below.refl _ _) _
  obtain ⟨W3, hW3⟩ : ∃ W3, W3 = w3.drewN nq := ⟨_, rfl⟩
  rw [← hW3] at hb34 ⊢
  have HV4 := Lib.hid (HV.out.below hb34)
  have HB4 := Lib.hid (HB3.out.trans (hb34.mono HB3.out.size))
  obtain ⟨X, hX⟩ : ∃ X, withL vs J = X := ⟨_, rfl⟩
  obtain ⟨Y, hY⟩ : ∃ Y, withL vs J2 = Y := ⟨_, rfl⟩
  obtain ⟨Z, hZ⟩ : ∃ Z, withL vs (J ++ J2) = Z := ⟨_, rfl⟩
  have hlX : X.length ≤ 10000 := by rw [← hX]; exact Nat.le_trans (picked_len _ _) (Nat.le_trans (stErr_ok.1 HST.out).1 (by omega))
  have hlY : Y.length ≤ 10000 := by rw [← hY]; exact Nat.le_trans (picked_len _ _) (Nat.le_trans (stErr_ok.1 HST.out).1 (by omega))
  obtain ⟨e1, r1⟩ := with_small (vs := vs) (ids := J) HST.out (by rw [HJ.out]; omega)
  obtain ⟨e2, r2⟩ := with_small (vs := vs) (ids := J2) HST.out (by rw [HJ2.out]; omega)
  obtain ⟨e3, r3⟩ := with_small (vs := vs) (ids := J ++ J2) HST.out (by rw [List.length_append, HJ.out, HJ2.out]; omega)
  have HZS : Hid (sortedN (X ++ Y) = Z) := asc_ext (sortedN_asc _) (by rw [← hZ]; exact picked_asc _ _) fun s => by
    rw [sortedN_mem, List.mem_append, ← hX, ← hY, ← hZ, withL_both]
  have HXO : Hid (∀ s ∈ J, s ∈ idsV vs → s ∈ X) := fun s h1 h2 => by show s ∈ X; rw [← hX]; exact withL_own h1 h2
  have HXI : Hid (∀ s ∈ X, s ∈ idsV vs) := fun s h1 => by rw [← hX] at h1; exact withL_in h1
  have HR1 := Lib.hid (show withR vs J = X by rw [r1, hX])
  have HR2 := Lib.hid (show withR vs J2 = Y by rw [r2, hY])
  have HR3 := Lib.hid (show withR vs (J ++ J2) = Z by rw [r3, hZ])
  have HE1 := Lib.hid e1; have HE2 := Lib.hid e2; have HE3 := Lib.hid e3
  clear hW3 hX hY hZ e1 r1 e2 r2 e3 r3 hb34 HV
  refine (with_fine c' ca1 J W3 HV4.out HST.out (HJS.out.below HB4.out) HJ.out HR1.out HE1.out).mono ?_
  rintro e w5 ⟨A5, k5, c5, rfl, hk5, ho5, hb5⟩
  obtain ⟨hs5, hm5, hc5⟩ := OwnS.at_ ho5 hk5
  have HS5 := Lib.hid hs5
  have HK5 := Lib.hid hk5
  have HM5 := Lib.hid (Nat.le_trans hm5 hc5)
  have HV5 := Lib.hid (HV4.out.below hb5)
  have HB5 := Lib.hid (HB4.out.trans (hb5.mono HB4.out.size))
  clear hk5 ho5 hb5 hs5 hm5 hc5 HR1 HE1
  go_wp2_with fail
  refine (with_fine c' ca2 J2 w5 HV5.out HST.out (HJS2.out.below HB5.out) HJ2.out HR2.out HE2.out).mono ?_
  rintro e w6 ⟨A6, k6, c6, rfl, hk6, ho6, hb6⟩
  obtain ⟨hs6, hm6, hc6⟩ := OwnS.at_ ho6 hk6
  have HS6 := Lib.hid hs6
  have HK6 := Lib.hid hk6
  have HS56 := Lib.hid (HS5.out.below hb6)
  have HV6 := Lib.hid (HV5.out.below hb6)
  have HB6 := Lib.hid (HB5.out.trans (hb6.mono HB5.out.size))
  clear hk6 ho6 hb6 hs6 hm6 hc6 HR2 HE2
  obtain ⟨W6, hW6⟩ : ∃ W6, W6 = w6.alloc (.cells #[.slice a1 M ca1, .slice a2 M2 ca2] 25) := ⟨_, rfl⟩
  have hA6 : Below w6.heap.size w6 W6 := by rw [hW6]; exact (Below.refl _ _).alloc (Nat.le_refl _) _
  have hb06 := HB6.out.trans (hA6.mono HB6.out.size)
  have HCC := Lib.hid (concatS_two w6.heap.size M M2 J J2 a1 a2 ca1 ca2 W6 HJ.out HJ2.out (HJS.out.below hb06) (HJS2.out.below hb06) (by omega) (by omega) (by rw [hW6]; simp [go_sem]) (by rw [hW6]; simp [go_sem]))
  have HA6 := Lib.hid hA6
  have HB6' := Lib.hid hb06
  have HW6 := Lib.hid hW6
  clear hA6 hb06 hW6
  go_wp2_with fail
  rw [← HW6.out]
  refine HCC.out.mono ?_
  rintro e w7 ⟨A7, c7, rfl, ho7, hb7⟩
  obtain ⟨hs7, hm7, hc7⟩ := OwnS.sl ho7
  obtain ⟨jl, hjj⟩ : ∃ jl, (J ++ J2).length = jl := ⟨_, rfl⟩
  rw [hjj]
  have hb67 := HA6.out.trans (hb7.mono HA6.out.size)
  have HS67 := Lib.hid (HS6.out.below hb67)
  have HS57 := Lib.hid (HS56.out.below hb67)
  have HV7 := Lib.hid (HV6.out.below hb67)
  have HB7 := Lib.hid (HB6'.out.trans (hb7.mono HB6'.out.size))
  have HWZ := Lib.hid (with_fine c' c7 (J ++ J2) w7 HV7.out HST.out hs7 hjj HR3.out HE3.out)
  clear ho7 hb7 hs7 hm7 hc7 hb67 hjj HR3 HE3 HCC HS6 HS56 HS5 HV5 HV6 HW6 HA6 HB6'
  go_wp2_with fail
  (with_reducible refine HWZ.out.mono ?_)
  rintro e w8 ⟨A8, k8, c8, rfl, hk8, ho8, hb8⟩
  obtain ⟨hs8, hm8, hc8⟩ := OwnS.at_ ho8 hk8
  have HS8 := Lib.hid hs8
  have HK8 := Lib.hid hk8
  have HM8 := Lib.hid (Nat.le_trans hm8 hc8)
  have HS68 := Lib.hid (HS67.out.below hb8)
  have HS58 := Lib.hid (HS57.out.below hb8)
  have HV8 := Lib.hid (HV7.out.below hb8)
  have HB8 := Lib.hid (HB7.out.trans (hb8.mono HB7.out.size))
  have HIDS := Lib.hid (ids_ok c' w8 HV8.out HST.out)
  clear hk8 ho8 hb8 hs8 hm8 hc8 HWZ HS67 HS57 HV7
  go_wp2_with fail
  refine HIDS.out.mono ?_
  rintro e w9 ⟨A9, m9, c9, nm, rfl, his, hml, hsl9, hmc9, hcm9, hb9⟩
  have HNM : Hid (∀ s, s ∈ idsV vs ↔ s ∈ nm) := fun s => by
    show _ ↔ s ∈ nm
    rw [his.eqV]
  obtain ⟨W9, hW9⟩ : ∃ W9, W9 = w9.alloc (.cells #[.slice A9 m9 c9] 25) := ⟨_, rfl⟩
  have hA9 : Below w9.heap.size w9 W9 := by rw [hW9]; exact (Below.refl _ _).alloc (Nat.le_refl _) _
  have HBX : Hid (Boxed w9.heap.size A9 m9 c9 nm W9) := ⟨by rw [hW9]; simp [go_sem], hsl9.below hA9, hml, Nat.le_trans hmc9 hcm9⟩
  have hb89 := hb9.trans (hA9.mono hb9.size)
  have HS89 := Lib.hid (HS8.out.below hb89)
  have HS69 := Lib.hid (HS68.out.below hb89)
  have HS59 := Lib.hid (HS58.out.below hb89)
  have HB9 := Lib.hid (HB8.out.trans (hb89.mono HB8.out.size))
  have HW9 := Lib.hid hW9
  clear his hml hsl9 hmc9 hcm9 hb9 hA9 hW9 hb89 HIDS HS8 HS68 HS58
  obtain ⟨WA, hWA⟩ : ∃ WA, WA = W9.alloc (.cells #[.slice A5 k5 c5, .slice A6 k6 c6] 25) := ⟨_, rfl⟩
  have hAA : Below W9.heap.size W9 WA := by rw [hWA]; exact (Below.refl _ _).alloc (Nat.le_refl _) _
  have HCC2 := Lib.hid (concatS_two W9.heap.size k5 k6 X Y A5 A6 c5 c6 WA HK5.out HK6.out (HS59.out.below hAA) (HS69.out.below hAA) (by rw [← HK5.out]; exact hlX) (by rw [← HK6.out]; exact hlY) (by rw [hWA]; simp [go_sem]) (by rw [hWA]; simp [go_sem]))
  have HAA := Lib.hid hAA
  have HBA := Lib.hid (HB9.out.trans (hAA.mono HB9.out.size))
  rw [HW9.out] at hWA
  have HWA := Lib.hid hWA
  have HS8A := Lib.hid (HS89.out.below hAA)
  have HS5A := Lib.hid (HS59.out.below hAA)
  have HBXA := Lib.hid (HBX.out.below hAA)
  have hz9 : W9.heap.size = w9.heap.size + 1 := by rw [HW9.out]; simp
  rw [hz9] at HCC2
  clear hAA hWA hz9 HS89 HS69 HS59 HBX
  go_wp2_with fail
  rw [← HWA.out]
  refine HCC2.out.mono ?_
  rintro e w10 ⟨A10, c10, rfl, ho10, hb10⟩
  obtain ⟨l10, hl10⟩ : ∃ l10, (X ++ Y).length = l10 := ⟨_, rfl⟩
  have hl10' : l10 ≤ 100000 := by rw [← hl10, List.length_append]; omega
  rw [hl10] at ho10 ⊢
  have HSC := Lib.hid (sortComp_is A10 c10 (X ++ Y) w10 ho10 hl10 hl10' hb10.size)
  have HB10 := Lib.hid hb10
  clear ho10 hb10 hl10 hl10' hlX hlY HCC2
  go_wp2_with fail
  refine HSC.out.mono ?_
  rintro e w11 ⟨rfl, HB11, HCP⟩
  have HB11' := Lib.hid (HB10.out.trans HB11.out)
  clear HSC
  go_wp2_with fail
  refine HCP.out.mono ?_
  rintro e w12 ⟨A12, k12, c12, rfl, HK12, HS12, HM12, HB12⟩
  have hb12 : Below WA.heap.size WA w12 := HB11'.out.trans HB12.out
  have hEQ := eqS_is (b := true) A8 A12 Z Z c8 c12 w12 (HS8A.out.below hb12) (by rw [← HZS.out]; exact HS12.out) (by rw [HK8.out]; exact HM8.out) (by rw [HK8.out]; exact HM8.out) (by simp)
  have hk128 : k12 = k8 := by rw [← HK12.out, ← HK8.out, HZS.out]
  rw [HK8.out] at hEQ
  rw [← hk128] at hEQ ⊢
  have HEQ := Lib.hid hEQ
  have HS5C := Lib.hid (HS5A.out.below hb12)
  have HBXC := Lib.hid (HBXA.out.below hb12)
  have HBC := Lib.hid (HBA.out.trans (hb12.mono HBA.out.size))
  clear hEQ hk128 hb12 HCP HS5A HBXA HS8A HBA HB11 HB12 HK12 HS12
  go_wp2_with fail
  (with_reducible refine HEQ.out.mono ?_)
  rintro e w13 ⟨rfl, hb13⟩
  have HS5D := Lib.hid (HS5C.out.below hb13)
  have HBXD := Lib.hid (HBXC.out.below hb13)
  have HBD := Lib.hid (HBC.out.trans (hb13.mono HBC.out.size))
  clear hb13 HEQ HS5C HBXC HBC
  go_wp2_with fail
  go_loopw [105] (fun i wr => ∃ k : Nat, k ≤ M ∧ i = .int .i64 k ∧ Hid (Below w13.heap.size w13 wr)) (fun i _ => M - (intOf i).toNat)
  case atStart => exact ⟨0, Nat.zero_le _, rfl, Below.refl _ _⟩
  case round =>
    obtain ⟨k, hk, rfl, HB⟩ := hrel
    have HBW := Lib.hid (HBD.out.trans (HB.out.mono HBD.out.size))
    have hbx := HBXD.out.below HB.out
    have hs5 := HS5D.out.below HB.out
    by_cases hlt : k < M
    · obtain ⟨id, hid⟩ : ∃ id, J[k]? = some id := ⟨_, List.getElem?_eq_getElem (by rw [HJ.out]; exact hlt)⟩
      obtain ⟨b, off, rfl, hc⟩ := (HJS.out.below HBW.out) k id hid
      have i1 : (0 : Int) ≤ (k : Int) := by omega
      have i2 : (k : Int) < (M : Int) := by omega
      have hc0 := hbx.c0
      have HIN := Lib.hid (List.mem_of_getElem? hid)
      clear hid
      by_cases hin : id ∈ nm
      · have HC1 := Lib.hid (contains_is (b := true) A9 nm c9 id wr hbx.sl hbx.ln hbx.mx (by simp [hin]))
        have HX : Hid (id ∈ X) := HXO.out id HIN.out ((HNM.out id).2 hin)
        have HS5w := Lib.hid hs5
        clear hin hbx hs5
        go_wp2_with fail
        (with_reducible refine HC1.out.mono ?_)
        rintro e w14 ⟨rfl, hb14⟩
        have HC2 := Lib.hid (contains_is (b := true) A5 X c5 id w14 (HS5w.out.below hb14) HK5.out HM5.out (by simp [HX.out]))
        have HB14 := Lib.hid (HB.out.trans (hb14.mono HB.out.size))
        clear hb14 HC1
        go_wp2_with fail
        (with_reducible refine HC2.out.mono ?_)
        rintro e w15 ⟨rfl, hb15⟩
        have HB15 := Lib.hid (HB14.out.trans (hb15.mono HB14.out.size))
        clear hb15 HC2
        go_wp2_with fail
        go_roundw
        case rel => exact ⟨k + 1, by omega, by go_num, HB15.out⟩
        case measure => simp [intOf]; omega
      · have HC1 := Lib.hid (contains_is (b := false) A9 nm c9 id wr hbx.sl hbx.ln hbx.mx (by simp [hin]))
        clear hin hbx hs5
        go_wp2_with fail
        (with_reducible refine HC1.out.mono ?_)
        rintro e w14 ⟨rfl, hb14⟩
        have HB14 := Lib.hid (HB.out.trans (hb14.mono HB.out.size))
        clear hb14 HC1
        go_wp2_with fail
        go_roundw
        case rel => exact ⟨k + 1, by omega, by go_num, HB14.out⟩
        case measure => simp [intOf]; omega
    · obtain rfl : k = M := by omega
      have HNO := Lib.hid (noneW_is A5 X k5 c5 w9.heap.size A9 m9 c9 nm wr HK5.out hs5 HM5.out hbx (fun s hs => (HNM.out s).1 (HXI.out s hs)))
      clear hs5 hbx
      go_wp2_with fail
      (with_reducible refine HNO.out.mono ?_)
      rintro e w14 ⟨rfl, hb14⟩
      have HB14 := Lib.hid (HBW.out.trans (hb14.mono HBW.out.size))
      clear hb14
      go_wp2_with fail
      go_ret
      exact ⟨by simp, HB14.out⟩
end Go.Proofs.YtodlabohijabnaaDoor
