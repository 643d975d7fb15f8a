/- IndexFinds' walk. -/
import Derived.Test.YtodlabohijabnaaDoorIxB
import Derived.Test.YtodlabohijabnaaDoorSFine
set_option linter.unusedVariables false
set_option linter.unusedSimpArgs false
set_option maxRecDepth 100000
namespace Go.Proofs.YtodlabohijabnaaDoor
open Go.RowKit Go.Sort Go.Maps

/-- By, of names that are handed on -/
theorem by_fine' {n : Nat} {er : Int} {L : List ByteArray} {a : Option Addr} {vs : List VerL} (c : Nat) (f : FieldL) (w : World) (h : VsAt w a n vs) (hst : stErr vs = 0) (hL : byR vs f = L) (he : byErr vs f = er) :
    Calls Tryd.prog 11 #[.slice a n c, f.v] w (StrsTo L er w) :=
  by_is c f w h (by have := h.len; have := (stErr_ok.1 hst).1; unfold maxLen; omega) hL he
theorem byX_new {vs : List VerL} (h : stErr vs = 0) (f : FieldL) : byX (newX vs) f = byR vs f ∧ byE f = byErr vs f := by
  have e0 : byErr vs f = if isFd f = true then 0 else 3 := by
    unfold byErr
    exact if_neg (fun k => k h)
  unfold byX byE byR
  rw [e0]
  by_cases hf : isFd f = true
  · simp [hf, newX]
  · simp [hf]

set_option maxHeartbeats 1000000 in
theorem indexFinds_walk (a : Option Addr) (c : Nat) (g : List RowI) (f : FieldL) (w : World) (hs : SlG w a g) (hl : g.length ≤ c) (hm : c ≤ maxLen) (hf : f.short) :
    Calls Tryd.prog 7 #[.slice a g.length c, f.v] w fun e w' => e = .returned (.bool true) ∧ Below w.heap.size w w' := by
  have HS := Lib.hid hs
  have HL := Lib.hid hl
  have HM := Lib.hid hm
  obtain ⟨gl, hgl⟩ : ∃ gl, g.length = gl := ⟨_, rfl⟩
  have HGL := Lib.hid hgl
  rw [hgl]
  have hA : Below w.heap.size w (w.alloc (.cells #[.string f.key, .string f.val] 24)) := (Below.refl _ _).alloc (Nat.le_refl _) _
  have HA := Lib.hid hA
  clear hs hl hm hgl hf
  go_enter Tryd.func7, Tryd.ntmps7
  go_wp2_with fail
  refine (begun_is _).mono ?_
  rintro e w2 ⟨rfl, hb2⟩
  have q0 : w2.cell? ⟨w.heap.size, 0, none⟩ = some (.string f.key) := (hb2.cell (p := ⟨w.heap.size, 0, none⟩) (by simp)).trans (by simp [go_sem])
  have q1 : w2.cell? ⟨w.heap.size, 1, none⟩ = some (.string f.val) := (hb2.cell (p := ⟨w.heap.size, 1, none⟩) (by simp)).trans (by simp [go_sem])
  have HB2 := Lib.hid (HA.out.trans (hb2.mono (by simp)))
  have HG := Lib.hid (grown_is a g c w2 (HS.out.below HB2.out) HL.out HM.out)
  rw [HGL.out] at HG
  clear hb2 hA
  go_wp2_with fail
  refine HG.out.mono ?_
  rintro e w3 ⟨vs, A, m, c', rfl, hok, hnw, hb3⟩
  have HST := Lib.hid (hok.fine (by omega))
  have HV := Lib.hid hnw.at_
  have r0 := (hb3.cell (p := ⟨w.heap.size, 0, none⟩) (cell_lt q0)).trans q0
  have r1 := (hb3.cell (p := ⟨w.heap.size, 1, none⟩) (cell_lt q0)).trans q1
  have HB3 := Lib.hid (HB2.out.trans (hb3.mono HB2.out.size))
  have HNEW := Lib.hid (new_ok c' w3 HV.out HST.out)
  clear hok hnw hb3 q0 q1 HG
  go_wp2_with fail
  refine HNEW.out.mono ?_
  rintro e w4 ⟨p, rfl, hidx, hb4⟩
  have s0 := (hb4.cell (p := ⟨w.heap.size, 0, none⟩) (cell_lt r0)).trans r0
  have s1 := (hb4.cell (p := ⟨w.heap.size, 1, none⟩) (cell_lt r0)).trans r1
  have HI4 := Lib.hid hidx
  have HV4 := Lib.hid (HV.out.below hb4)
  have HB4 := Lib.hid (HB3.out.trans (hb4.mono HB3.out.size))
  obtain ⟨er, her⟩ : ∃ er, byErr vs f = er := ⟨_, rfl⟩
  obtain ⟨L, hL⟩ : ∃ L, byR vs f = L := ⟨_, rfl⟩
  obtain ⟨x1, x2⟩ := byX_new HST.out f
  have HL1 := Lib.hid (x1.trans hL)
  have HE1 := Lib.hid (x2.trans her)
  have HL2 := Lib.hid hL
  have HE2 := Lib.hid her
  have HLN : Hid (∀ f, (newX vs f).length ≤ 1000000) := fun f => Nat.le_trans (newX_len vs f) (Nat.le_trans (stErr_ok.1 HST.out).1 (by omega))
  have HBY := Lib.hid (idxBy_is f w4 HI4.out (HLN.out f) HL1.out HE1.out)
  clear hidx hb4 r0 r1 HNEW HV x1 x2 hL her
  go_wp2_with fail
  refine HBY.out.mono ?_
  rintro e w5 ⟨A5, k5, c5, rfl, hk5, ho5, hb5⟩
  have r0 := (hb5.cell (p := ⟨w.heap.size, 0, none⟩) (cell_lt s0)).trans s0
  have r1 := (hb5.cell (p := ⟨w.heap.size, 1, none⟩) (cell_lt s0)).trans s1
  have HI5 := Lib.hid (HI4.out.below hb5)
  have HV5 := Lib.hid (HV4.out.below hb5)
  have HB5 := Lib.hid (HB4.out.trans (hb5.mono HB4.out.size))
  obtain ⟨hs5, hm5, hc5⟩ := OwnS.at_ ho5 hk5
  have HS5 := Lib.hid hs5
  have HK5 := Lib.hid hk5
  have HM5 := Lib.hid (Nat.le_trans hm5 hc5)
  have HFB := Lib.hid (by_fine' c' f w5 HV5.out HST.out HL2.out HE2.out)
  clear hk5 ho5 hb5 s0 s1 HBY HI4 HV4 hs5 hm5 hc5
  go_wp2_with fail
  refine HFB.out.mono ?_
  rintro e w6 ⟨A6, k6, c6, rfl, hk6, ho6, hb6⟩
  have HI6 := Lib.hid (HI5.out.below hb6)
  have HV6 := Lib.hid (HV5.out.below hb6)
  have HS56 := Lib.hid (HS5.out.below hb6)
  have HB6 := Lib.hid (HB5.out.trans (hb6.mono HB5.out.size))
  obtain ⟨hs6, hm6, hc6⟩ := OwnS.at_ ho6 hk6
  have HS6 := Lib.hid hs6
  have HK6 := Lib.hid hk6
  have HM6 := Lib.hid (Nat.le_trans hm6 hc6)
  have HSM := Lib.hid (same_ok c' w6 HI6.out HV6.out HST.out HLN.out)
  clear hk6 ho6 hb6 r0 r1 HFB HI5 HV5 HS5 hs6 hm6 hc6
  go_wp2_with fail
  refine HSM.out.mono ?_
  rintro e w7 ⟨rfl, hb7⟩
  have HB7 := Lib.hid (HB6.out.trans (hb7.mono HB6.out.size))
  have hkk : k6 = k5 := HK6.out.symm.trans HK5.out
  subst hkk
  have hEQ := eqS_is (b := true) A5 A6 L L c5 c6 w7 (HS56.out.below hb7) (HS6.out.below hb7) (by rw [HK5.out]; exact HM5.out) (by rw [HK5.out]; exact HM5.out) (by simp)
  rw [HK5.out] at hEQ
  have HEQ := Lib.hid hEQ
  clear hb7 HSM hEQ
  go_wp2_with fail
  refine HEQ.out.mono ?_
  rintro e w8 ⟨rfl, hb8⟩
  have HB8 := Lib.hid (HB7.out.trans (hb8.mono HB7.out.size))
  clear hb8 HEQ
  go_wp2_with fail
  go_ret
  exact ⟨rfl, HB8.out⟩
end Go.Proofs.YtodlabohijabnaaDoor
