/- FindHides' walk. -/
import Derived.Test.YtodlabohijabnaaDoorFLits
import Derived.Test.YtodlabohijabnaaDoorSGrown
import Derived.Test.YtodlabohijabnaaDoorSMath2
set_option linter.unusedVariables false
set_option linter.unusedSimpArgs false
set_option maxRecDepth 100000
namespace Go.Proofs.YtodlabohijabnaaDoor
open Go.RowKit Go.Sort Go.Maps

theorem byR_two {vs : List VerL} (h : stErr vs = 0) (f : FieldL) : (isFd f = true ∧ byErr vs f = 0 ∧ byR vs f = byL vs f) ∨ (isFd f = false ∧ byErr vs f = 3 ∧ byR vs f = []) := by
  cases hf : isFd f with
  | true =>
    have h0 : byErr vs f = 0 := by unfold byErr; rw [if_neg (fun k => k h), if_pos hf]
    exact .inl ⟨rfl, h0, by unfold byR; rw [if_pos h0]⟩
  | false =>
    have h0 : byErr vs f = 3 := by unfold byErr; rw [if_neg (fun k => k h), if_neg (by rw [hf]; simp)]
    exact .inr ⟨rfl, h0, by unfold byR; rw [if_neg (by rw [h0]; decide)]⟩

theorem sl_takeX {w : World} {a : Option Addr} {ids : List ByteArray} (h : SlS w a ids) (k : Nat) : SlS w a (ids.take k) := fun j x hj => h j x (by rw [List.getElem?_take] at hj; split at hj <;> first | exact hj | cases hj)

set_option maxHeartbeats 2000000 in
theorem findHides_walk (a : Option Addr) (c : Nat) (g : List RowI) (f : FieldL) (ai : Option Addr) (ci : Nat) (ids : List ByteArray) (x : Int) (w : World) (hs : SlG w a g) (hl : g.length ≤ c) (hm : c ≤ maxLen) (hf : f.short) (hsi : SlS w ai ids) (hli : ids.length ≤ ci) (hmi : ci ≤ maxLen) :
    Calls Tryd.prog 9 #[.slice a g.length c, f.v, .slice ai ids.length ci, .int .i64 x] w fun e w' => e = .returned (.bool true) ∧ Below w.heap.size w w' := by
  have HS := Lib.hid hs
  have HL := Lib.hid hl
  have HM := Lib.hid hm
  have HSI := Lib.hid hsi
  obtain ⟨s, hx⟩ : ∃ s, s = mk8 x := ⟨_, rfl⟩
  have hs8 : s ≤ 255 := by rw [hx]; exact mk8_le x
  have hmx : bits .and .i64 x 255 = (s : Int) := by rw [hx]; exact mk8_eq x
  obtain ⟨gl, hgl⟩ : ∃ gl, g.length = gl := ⟨_, rfl⟩
  have HGL := Lib.hid hgl
  obtain ⟨il, hil⟩ : ∃ il, ids.length = il := ⟨_, rfl⟩
  have HIL := Lib.hid hil
  obtain ⟨M, hM⟩ : ∃ M : Nat, M = min il 20 := ⟨_, rfl⟩
  have hmin : min (il : Int) 20 = (M : Int) := by omega
  rw [hgl]
  rw [hil] at hli ⊢
  have hMi : M ≤ il := by omega
  have hM20 : M ≤ 20 := by omega
  obtain ⟨J, hJ⟩ : ∃ J, ids.take M = J := ⟨_, rfl⟩
  have HJ : Hid (J.length = M) := by show _ = _; rw [← hJ, List.length_take, hil]; omega
  have HJS : Hid (SlS w ai J) := by show SlS _ _ _; rw [← hJ]; exact sl_takeX hsi M
  have HA := Lib.hid (show Below w.heap.size w (w.alloc (.cells #[.string f.key, .string f.val] 24)) from (Below.refl _ _).alloc (Nat.le_refl _) _)
  clear hs hl hm hsi hx hgl hil hM hJ hf
  go_enter Tryd.func9, Tryd.ntmps9
  go_wp2_with fail
  refine (withH_lit (B := w.heap.size + 1) _ (by simp)).mono ?_
  rintro e w1 ⟨A1, c1, rfl, HS1, HB0⟩
  have k0 : w1.cell? ⟨w.heap.size, 0, none⟩ = some (.string f.key) := (HB0.out.cell (p := ⟨w.heap.size, 0, none⟩) (by simp)).trans (by simp [go_sem])
  have k1 : w1.cell? ⟨w.heap.size, 1, none⟩ = some (.string f.val) := (HB0.out.cell (p := ⟨w.heap.size, 1, none⟩) (by simp)).trans (by simp [go_sem])
  have HB1 := Lib.hid (HA.out.trans (HB0.out.mono (by simp)))
  clear HB0 HA
  go_wp2_with fail
  refine (eqS_is (b := true) A1 _ [sA] [sA] c1 1 _ (HS1.out.below ((Below.refl _ _).alloc (Nat.le_refl _) _)) (sl_one w1 9 [sA]) (by unfold maxLen; simp) (by unfold maxLen; simp) (by simp)).mono ?_
  rintro e w2 ⟨rfl, hb2⟩
  have hb12 : Below w1.heap.size w1 w2 := ((Below.refl _ _).alloc (Nat.le_refl _) _).trans (hb2.mono (by simp))
  have q0 := (hb12.cell (p := ⟨w.heap.size, 0, none⟩) (cell_lt k0)).trans k0
  have q1 := (hb12.cell (p := ⟨w.heap.size, 1, none⟩) (cell_lt k0)).trans k1
  have HB2 := Lib.hid (HB1.out.trans (hb12.mono HB1.out.size))
  have HG := Lib.hid (grown_is a g c w2 (HS.out.below HB2.out) HL.out HM.out)
  rw [HGL.out] at HG
  clear hb2 hb12 k0 k1 HS1 HB1
  go_wp2_with fail
  refine HG.out.mono ?_
  rintro e w3 ⟨vs0, A, m, c', rfl, hok, hnw, hb3⟩
  have HST0 := Lib.hid (hok.fine (by omega))
  have HV0 := Lib.hid hnw.at_
  have r0 := (hb3.cell (p := ⟨w.heap.size, 0, none⟩) (cell_lt q0)).trans q0
  have r1 := (hb3.cell (p := ⟨w.heap.size, 1, none⟩) (cell_lt q0)).trans q1
  have HB3 := Lib.hid (HB2.out.trans (hb3.mono HB2.out.size))
  have HPT := Lib.hid (part_is c' s w3 HV0.out HST0.out hs8)
  clear hok hnw hb3 q0 q1 HG HB2
  go_wp2_with fail
  refine HPT.out.mono ?_
  rintro e w4 ⟨Ap, mp, cp, rfl, hnw, hb4⟩
  have HST : Hid (stErr (prt vs0 s) = 0) := stErr_prt HST0.out s
  obtain ⟨vs, hvs⟩ : ∃ vs, prt vs0 s = vs := ⟨_, rfl⟩
  rw [hvs] at HST hnw
  have HV := Lib.hid hnw.at_
  have s0 := (hb4.cell (p := ⟨w.heap.size, 0, none⟩) (cell_lt r0)).trans r0
  have s1 := (hb4.cell (p := ⟨w.heap.size, 1, none⟩) (cell_lt r0)).trans r1
  have HB4 := Lib.hid (HB3.out.trans (hb4.mono HB3.out.size))
  have HIDS := Lib.hid (ids_ok cp w4 HV.out HST.out)
  clear hnw hb4 r0 r1 HPT hvs HST0 HV0 HB3
  go_wp2_with fail
  refine HIDS.out.mono ?_
  rintro e w5 ⟨A5, m5, c5, nm, rfl, his, hml, hsl5, hmc5, hcm5, hb5⟩
  have HNM : Hid (∀ s, s ∈ idsV vs → s ∈ nm) := fun s hs => by
    show s ∈ nm
    rw [his.eqV]
    exact hs
  have t0 := (hb5.cell (p := ⟨w.heap.size, 0, none⟩) (cell_lt s0)).trans s0
  have t1 := (hb5.cell (p := ⟨w.heap.size, 1, none⟩) (cell_lt s0)).trans s1
  have HV5 := Lib.hid (HV.out.below hb5)
  have HB5 := Lib.hid (HB4.out.trans (hb5.mono HB4.out.size))
  obtain ⟨W6, hW6⟩ : ∃ W6, W6 = w5.alloc (.cells #[.slice A5 m5 c5] 25) := ⟨_, rfl⟩
  have hA6 : Below w5.heap.size w5 W6 := by rw [hW6]; exact (Below.refl _ _).alloc (Nat.le_refl _) _
  have HBX : Hid (Boxed w5.heap.size A5 m5 c5 nm W6) := ⟨by rw [hW6]; simp [go_sem], hsl5.below hA6, hml, Nat.le_trans hmc5 hcm5⟩
  have u0 := (hA6.cell (p := ⟨w.heap.size, 0, none⟩) (cell_lt t0)).trans t0
  have u1 := (hA6.cell (p := ⟨w.heap.size, 1, none⟩) (cell_lt t0)).trans t1
  have HV6 := Lib.hid (HV5.out.below hA6)
  have HB6 := Lib.hid (HB5.out.trans (hA6.mono HB5.out.size))
  have HW6 := Lib.hid hW6
  rw [hW6] at u0 u1
  clear his hml hsl5 hmc5 hcm5 hb5 s0 s1 t0 t1 HIDS HV HB4 HV5 HB5 hA6 hW6
  go_wp2_with fail
  rw [← HW6.out]
  rw [← HW6.out] at u0 u1
  obtain ⟨er, her⟩ : ∃ er, byErr vs f = er := ⟨_, rfl⟩
  obtain ⟨L, hL⟩ : ∃ L, byR vs f = L := ⟨_, rfl⟩
  have H2 := Lib.hid (byR_two HST.out f)
  rw [her, hL] at H2
  have HBY := Lib.hid (byF_fine cp f W6 HV6.out HST.out hL her)
  have HLI : Hid (∀ s ∈ L, s ∈ nm) := fun s hs => by
    rcases H2.out with ⟨_, _, e⟩ | ⟨_, _, e⟩
    · rw [e] at hs
      exact HNM.out s (byL_in hs)
    · rw [e] at hs
      cases hs
  have HLN : Hid (L.length ≤ 5120) := by
    show L.length ≤ 5120
    rcases H2.out with ⟨_, _, e⟩ | ⟨_, _, e⟩
    · rw [e]
      exact Nat.le_trans (picked_len _ _) (stErr_ok.1 HST.out).1
    · rw [e]
      exact Nat.zero_le _
  have HE2 : Hid (er = 0 ∨ er = 3) := by
    rcases H2.out with ⟨_, e, _⟩ | ⟨_, e, _⟩
    · exact .inl e
    · exact .inr e
  clear H2 her hL
  refine HBY.out.mono ?_
  rintro e w7 ⟨A7, k7, c7, rfl, hk7, ho7, hb7⟩
  obtain ⟨hs7, hm7, hc7⟩ := OwnS.at_ ho7 hk7
  have HS7 := Lib.hid hs7
  have HK7 := Lib.hid hk7
  have HB7 := Lib.hid (HB6.out.trans (hb7.mono HB6.out.size))
  have HBX7 := Lib.hid (HBX.out.below hb7)
  obtain ⟨we, wr⟩ := with_small (vs := vs) (ids := J) HST.out (by rw [HJ.out]; omega)
  have HWI := Lib.hid (with_fine cp ci J w7 (HV6.out.below hb7) HST.out (HJS.out.below HB7.out) HJ.out wr we)
  have HM7 := Lib.hid (Nat.le_trans hm7 hc7)
  clear hk7 ho7 hb7 hs7 hm7 hc7 we wr HBY HBX u0 u1
  go_wp2_with fail
  refine HWI.out.mono ?_
  rintro e w8 ⟨A8, k8, c8, rfl, hk8, ho8, hb8⟩
  obtain ⟨hs8', hm8, hc8⟩ := OwnS.at_ ho8 hk8
  have HS8 := Lib.hid hs8'
  have HK8 := Lib.hid hk8
  have HS78 := Lib.hid (HS7.out.below hb8)
  have HB8 := Lib.hid (HB7.out.trans (hb8.mono HB7.out.size))
  have HBX8 := Lib.hid (HBX7.out.below hb8)
  have HK7n : Hid (k7 ≤ 10000) := by show k7 ≤ 10000; rw [← HK7.out]; exact Nat.le_trans HLN.out (by omega)
  have HK8n : Hid (k8 ≤ 10000) := by
    show k8 ≤ 10000
    rw [← HK8.out]
    exact Nat.le_trans (picked_len _ _) (Nat.le_trans (stErr_ok.1 HST.out).1 (by omega))
  clear hk8 ho8 hb8 hs8' hm8 hc8 HWI HS7 HBX7
  obtain ⟨W9, hW9⟩ : ∃ W9, W9 = w8.alloc (.cells #[.slice A7 k7 c7, .slice A8 k8 c8] 25) := ⟨_, rfl⟩
  have hA9 : Below w8.heap.size w8 W9 := by rw [hW9]; exact (Below.refl _ _).alloc (Nat.le_refl _) _
  have HCC := Lib.hid (concatS_two w8.heap.size k7 k8 L (withL vs J) A7 A8 c7 c8 W9 HK7.out HK8.out (HS78.out.below hA9) (HS8.out.below hA9) HK7n.out HK8n.out (by rw [hW9]; simp [go_sem]) (by rw [hW9]; simp [go_sem]))
  have HBX9 := Lib.hid (HBX8.out.below hA9)
  have HB9 := Lib.hid (HB8.out.trans (hA9.mono HB8.out.size))
  have HW9 := Lib.hid hW9
  clear hA9 hW9
  have TAIL : ∀ e w10, NewS W9.heap.size (L ++ withL vs J) W9 e w10 → ∃ A10 k10 c10, e = .returned (.slice A10 k10 c10) ∧ Hid (Below w.heap.size w w10) ∧ Hid (Calls Tryd.prog 37 #[.slice A10 k10 c10, .func (.func 41) #[] #[.pointer (some ⟨w5.heap.size, 0, none⟩)]] w10
      fun e w' => e = .returned (.bool false) ∧ Below w10.heap.size w10 w') := by
    rintro e w10 ⟨A10, c10, rfl, ho, hb⟩
    obtain ⟨hs, hm, hc⟩ := OwnS.sl ho
    refine ⟨A10, _, c10, rfl, HB9.out.trans (hb.mono HB9.out.size), noneH_is A10 _ _ c10 w5.heap.size A5 m5 c5 nm w10 rfl hs (Nat.le_trans hm hc) (HBX9.out.below hb) fun s hs => ?_⟩
    rcases List.mem_append.1 hs with hs | hs
    · exact HLI.out s hs
    · exact HNM.out s (withL_in hs)
  have HT := Lib.hid TAIL
  clear TAIL
  rcases HE2.out with rfl | rfl
  · go_wp2_with fail
    rw [← HW9.out]
    refine HCC.out.mono ?_
    intro e w10 hn
    obtain ⟨A10, k10, c10, rfl, HB10, HC10⟩ := HT.out e w10 hn
    clear hn
    go_wp2_with fail
    refine HC10.out.mono ?_
    rintro e w11 ⟨rfl, hb11⟩
    have HB11 := Lib.hid (HB10.out.trans (hb11.mono HB10.out.size))
    clear hb11
    go_wp2_with fail
    go_ret
    exact ⟨by simp, HB11.out⟩
  · go_wp2_with fail
    rw [← HW9.out]
    refine HCC.out.mono ?_
    intro e w10 hn
    obtain ⟨A10, k10, c10, rfl, HB10, HC10⟩ := HT.out e w10 hn
    clear hn
    go_wp2_with fail
    refine HC10.out.mono ?_
    rintro e w11 ⟨rfl, hb11⟩
    have HB11 := Lib.hid (HB10.out.trans (hb11.mono HB10.out.size))
    clear hb11
    go_wp2_with fail
    go_ret
    exact ⟨by simp, HB11.out⟩
end Go.Proofs.YtodlabohijabnaaDoor
