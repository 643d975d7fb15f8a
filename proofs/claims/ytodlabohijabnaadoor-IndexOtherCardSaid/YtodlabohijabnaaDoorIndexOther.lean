/- IndexOther's walk. -/
import Derived.Test.YtodlabohijabnaaDoorIxB
import Derived.Test.YtodlabohijabnaaDoorSFine
set_option linter.unusedVariables false
set_option linter.unusedSimpArgs false
set_option maxRecDepth 100000
namespace Go.Proofs.YtodlabohijabnaaDoor
open Go.RowKit Go.Sort Go.Maps

theorem gok_abc {k : Nat} {vs : List VerL} (h : GOk k vs) : ∀ v ∈ vs, v.r.id = sA ∨ v.r.id = sB ∨ v.r.id = sC := fun v hv => (h.abc v hv).1
/-- what has been noted when k of the three names have been noted -/
noncomputable def noted (s t : List VerL) : Nat → SaysX
  | 0 => newX s
  | 1 => noteX (newX s) (fsOf t sC) sC
  | 2 => noteX (noteX (newX s) (fsOf t sC) sC) (fsOf t sA) sA
  | _ => noteX (noteX (noteX (newX s) (fsOf t sC) sC) (fsOf t sA) sA) (fsOf t sB) sB
theorem noted_step {s t : List VerL} {k : Nat} {id : ByteArray} (h : [sC, sA, sB][k]? = some id) : noteX (noted s t k) (fsOf t id) id = noted s t (k + 1) := by
  match k, h with
  | 0, h => cases h; rfl
  | 1, h => cases h; rfl
  | 2, h => cases h; rfl
  | k + 3, h => simp at h
theorem noted_asc (s t : List VerL) : ∀ k f, Asc (noted s t k f)
  | 0, f => byL_asc s f
  | 1, f => noteX_asc (byL_asc s) _ _ f
  | 2, f => noteX_asc (noteX_asc (byL_asc s) _ _) _ _ f
  | k + 3, f => noteX_asc (noteX_asc (noteX_asc (byL_asc s) _ _) _ _) _ _ f
theorem noted_len (s t : List VerL) (hs : s.length ≤ 15) : ∀ k f, (noted s t k f).length ≤ 1000
  | 0, f => Nat.le_trans (newX_len s f) (by omega)
  | 1, f => by
    have h0 := newX_len s f
    have h1 := noteX_len (newX s) (fsOf t sC) sC f
    show (noteX (newX s) (fsOf t sC) sC f).length ≤ _
    omega
  | 2, f => by
    have h0 := newX_len s f
    have h1 := noteX_len (newX s) (fsOf t sC) sC f
    have h2 := noteX_len (noteX (newX s) (fsOf t sC) sC) (fsOf t sA) sA f
    show (noteX (noteX (newX s) (fsOf t sC) sC) (fsOf t sA) sA f).length ≤ _
    omega
  | k + 3, f => by
    have h0 := newX_len s f
    have h1 := noteX_len (newX s) (fsOf t sC) sC f
    have h2 := noteX_len (noteX (newX s) (fsOf t sC) sC) (fsOf t sA) sA f
    have h3 := noteX_len (noteX (noteX (newX s) (fsOf t sC) sC) (fsOf t sA) sA) (fsOf t sB) sB f
    show (noteX (noteX (noteX (newX s) (fsOf t sC) sC) (fsOf t sA) sA) (fsOf t sB) sB f).length ≤ _
    omega

set_option maxHeartbeats 2000000 in
theorem indexOther_walk (a : Option Addr) (c : Nat) (g : List RowI) (a' : Option Addr) (c' : Nat) (g' : List RowI) (w : World) (hs : SlG w a g) (hl : g.length ≤ c) (hm : c ≤ maxLen) (hs' : SlG w a' g') (hl' : g'.length ≤ c') (hm' : c' ≤ maxLen) :
    Calls Tryd.prog 10 #[.slice a g.length c, .slice a' g'.length c'] w fun e w' => e = .returned (.bool true) ∧ Below w.heap.size w w' := by
  have HS := Lib.hid hs
  have HL := Lib.hid hl
  have HM := Lib.hid hm
  have HS' := Lib.hid hs'
  have HL' := Lib.hid hl'
  have HM' := Lib.hid hm'
  obtain ⟨gl, hgl⟩ : ∃ gl, g.length = gl := ⟨_, rfl⟩
  obtain ⟨gl', hgl'⟩ : ∃ gl', g'.length = gl' := ⟨_, rfl⟩
  have HGL := Lib.hid hgl
  have HGL' := Lib.hid hgl'
  rw [hgl, hgl']
  clear hs hl hm hgl hs' hl' hm' hgl'
  go_enter Tryd.func10, Tryd.ntmps10
  go_wp2_with fail
  refine (begun_is _).mono ?_
  rintro e w2 ⟨rfl, hb2⟩
  have HB2 := Lib.hid hb2
  have HG := Lib.hid (grown_is a g c w2 (HS.out.below HB2.out) HL.out HM.out)
  rw [HGL.out] at HG
  clear hb2
  go_wp2_with fail
  refine HG.out.mono ?_
  rintro e w3 ⟨s, A, m, c3, rfl, hok, hnw, hb3⟩
  have HST := Lib.hid (hok.fine (by omega))
  have HABC := Lib.hid (gok_abc hok)
  have HSL := Lib.hid hok.len
  have HV := Lib.hid hnw.at_
  have HB3 := Lib.hid (HB2.out.trans (hb3.mono HB2.out.size))
  have HG := Lib.hid (grown_is a' g' c' w3 (HS'.out.below HB3.out) HL'.out HM'.out)
  rw [HGL'.out] at HG
  clear hok hnw hb3
  go_wp2_with fail
  refine HG.out.mono ?_
  rintro e w4 ⟨t, A4, m4, c4, rfl, hok, hnw, hb4⟩
  have HST4 := Lib.hid (hok.fine (by omega))
  have HABC4 := Lib.hid (gok_abc hok)
  have HV3 := Lib.hid (HV.out.below hb4)
  have HV4 := Lib.hid hnw.at_
  have HB4 := Lib.hid (HB3.out.trans (hb4.mono HB3.out.size))
  have HNEW := Lib.hid (new_ok c3 w4 HV3.out HST.out)
  clear hok hnw hb4 HG HV
  go_wp2_with fail
  refine HNEW.out.mono ?_
  rintro e w5 ⟨p, rfl, hidx, hb5⟩
  have HI5 := Lib.hid hidx
  have HV5 := Lib.hid (HV4.out.below hb5)
  have HB45 := Lib.hid hb5
  have HS4 : Hid (w4.heap.size ≤ w5.heap.size) := hb5.size
  clear hidx hb5 HNEW HV3
  obtain ⟨S, hS⟩ : ∃ S, S = w4.heap.size := ⟨_, rfl⟩
  rw [← hS] at HI5 HB45 HS4
  have HSE := Lib.hid hS
  clear hS
  go_wp2_with fail
  obtain ⟨W5, hW5⟩ : ∃ W5, W5 = w5.alloc (.cells #[.string ⟨#[99]⟩, .string ⟨#[97]⟩, .string ⟨#[98]⟩] 9) := ⟨_, rfl⟩
  have hA5 : Below w5.heap.size w5 W5 := by rw [hW5]; exact (Below.refl _ _).alloc (Nat.le_refl _) _
  have hab : SlS W5 (some ⟨w5.heap.size, 0, none⟩) [sC, sA, sB] := by rw [hW5]; exact sl_one w5 9 [sC, sA, sB]
  have hz5 : W5.heap.size = w5.heap.size + 1 := by rw [hW5]; simp
  rw [← hW5]
  obtain ⟨Z, hZ⟩ : ∃ Z : Nat → Prop, Z = fun z => z < S ∨ z = w5.heap.size := ⟨_, rfl⟩
  have hA5i : IdxA W5 S p 40000 Z (noted s t 0) := ((HI5.out.with).below hA5).sub fun z k => by rw [hZ] at k; rcases k with k | k; exact .inl k; exact .inr (by omega)
  have hzl : ∀ z, Z z → z < W5.heap.size := fun z k => by
    have h1 := HS4.out
    rw [hZ] at k
    rcases k with k | k <;> omega
  have HZB : Hid (Z w5.heap.size) := by rw [hZ]; exact .inr rfl
  have HZS : Hid (∀ z, z < S → Z z) := fun z k => by rw [hZ]; exact .inl k
  have HAB := Lib.hid hab
  have HA5I := Lib.hid hA5i
  have HZL := Lib.hid hzl
  have HB5 : Hid (Below S w4 W5) := HB45.out.trans (hA5.mono HS4.out)
  have HSW : Hid (S ≤ W5.heap.size) := by have h1 := HS4.out; show S ≤ _; omega
  obtain ⟨lb, hlb⟩ : ∃ lb, lb = w5.heap.size := ⟨_, rfl⟩
  rw [← hlb] at HAB HZB ⊢
  clear hW5 hA5 hab hz5 hA5i hzl hZ hlb HI5 HV5
  have HLN : Hid (∀ k f, (noted s t k f).length ≤ 1000) := noted_len s t HSL.out
  go_loopw [32] (fun i wr => ∃ k : Nat, k ≤ 3 ∧ i = .int .i64 k ∧ Hid (IdxA wr S p (40000 + 6 * k) Z (noted s t k)) ∧ Hid (Keeps Z W5 wr)) (fun i _ => 3 - (intOf i).toNat)
  case atStart => exact ⟨0, by omega, rfl, HA5I.out, Keeps.refl _ _⟩
  case round =>
    obtain ⟨k, hk, rfl, HI, HK⟩ := hrel
    have HBF : Hid (Below S w4 wr) := HB5.out.trans (HK.out.to HZS.out HSW.out)
    have HVR : Hid (VsAt wr A4 m4 t) := HV4.out.below (by rw [← HSE.out]; exact HBF.out)
    by_cases hlt : k < 3
    · obtain ⟨id, hid⟩ : ∃ id, [sC, sA, sB][k]? = some id := ⟨_, List.getElem?_eq_getElem (by simpa using hlt)⟩
      obtain ⟨b, off, hbe, hc⟩ := HAB.out k id hid
      cases hbe
      rw [Nat.zero_add] at hc
      have hcw := HK.out.cell HZB.out hc
      have i1 : (0 : Int) ≤ (k : Int) := by omega
      have i2 : (k : Int) < (3 : Int) := by omega
      have hN := note_ok c4 id wr HI.out (fun z h => Nat.lt_of_lt_of_le (HZL.out z h) HK.out.size) HVR.out HST4.out (noted_asc s t k) (fun f => Nat.le_trans (HLN.out k f) (by omega)) (by omega)
      rw [noted_step hid] at hN
      have HN := Lib.hid hN
      clear hid hc hN
      go_wp2_with fail
      refine HN.out.mono ?_
      rintro e w6 ⟨rfl, hidx, hkp⟩
      have HI6 := Lib.hid hidx
      have HK6 := Lib.hid (HK.out.trans hkp)
      clear hidx hkp hcw HN
      go_wp2_with fail
      go_roundw
      case rel => exact ⟨k + 1, by omega, by go_num, HI6.out, HK6.out⟩
      case measure => simp [intOf]; omega
    · obtain rfl : k = 3 := by omega
      have HIF : Hid (Idx wr S p 50000 (newX t)) := by
        have h1 := HI.out.idx
        rw [show noted s t 3 = newX t from note_three HABC.out HABC4.out] at h1
        exact h1.mono (by omega)
      have HBW : Hid (Below w.heap.size w wr) := HB4.out.trans (HBF.out.mono (by rw [HSE.out]; exact HB4.out.size))
      have HNW := Lib.hid (new_ok c4 wr HVR.out HST4.out)
      clear hlt HI HBF HK
      go_wp2_with fail
      refine HNW.out.mono ?_
      rintro e w6 ⟨p2, rfl, hidx, hb6⟩
      have HI6 := Lib.hid (HIF.out.below hb6)
      have HJ6 := Lib.hid hidx
      have HV6 := Lib.hid (HVR.out.below hb6)
      have HB6 := Lib.hid (HBW.out.trans (hb6.mono HBW.out.size))
      have HLN6 : Hid (∀ f, (newX t f).length ≤ 1000000) := fun f => Nat.le_trans (newX_len t f) (Nat.le_trans (stErr_ok.1 HST4.out).1 (by omega))
      have HSM := Lib.hid (same_ok c4 w6 HI6.out HV6.out HST4.out HLN6.out)
      clear hidx hb6 HNW HIF HVR
      go_wp2_with fail
      refine HSM.out.mono ?_
      rintro e w7 ⟨rfl, hb7⟩
      have HI7 := Lib.hid (HI6.out.below hb7)
      have HJ7 := Lib.hid (HJ6.out.below hb7)
      have HB7 := Lib.hid (HB6.out.trans (hb7.mono HB6.out.size))
      obtain ⟨fs, hfs, hfl⟩ := lists_ex_new HST4.out
      obtain ⟨N, hN⟩ : ∃ N, total (newX t) = N := ⟨_, rfl⟩
      have hNb : N ≤ 1000000000 := by rw [← hN]; exact total_new HST4.out
      have HFS := Lib.hid hfs
      have HFL := Lib.hid hfl
      have HTN := Lib.hid hN
      have HNB := Lib.hid hNb
      have HC1 := Lib.hid (idxCount_is w7 HI7.out ⟨fs, HFS.out⟩ HTN.out HNB.out)
      clear hb7 HSM HI6 HJ6 hfs hfl hN hNb
      go_wp2_with fail
      refine HC1.out.mono ?_
      rintro e w8 ⟨rfl, hb8⟩
      have HI8 := Lib.hid (HI7.out.below hb8)
      have HJ8 := Lib.hid (HJ7.out.below hb8)
      have HB8 := Lib.hid (HB7.out.trans (hb8.mono HB7.out.size))
      have HC2 := Lib.hid (idxCount_is w8 HJ8.out ⟨fs, HFS.out⟩ HTN.out HNB.out)
      clear hb8 HC1 HI7 HJ7
      go_wp2_with fail
      refine HC2.out.mono ?_
      rintro e w9 ⟨rfl, hb9⟩
      have HI9 := Lib.hid (HI8.out.below hb9)
      have HJ9 := Lib.hid (HJ8.out.below hb9)
      have HB9 := Lib.hid (HB8.out.trans (hb9.mono HB8.out.size))
      have HK1 := Lib.hid (idxKeys_is w9 HI9.out HFS.out HFL.out)
      clear hb9 HC2 HI8 HJ8
      go_wp2_with fail
      refine HK1.out.mono ?_
      rintro e w10 ⟨A10, k10, c10, ks, rfl, hks, hkl, hks10, hkm, hb10⟩
      have HJ10 := Lib.hid (HJ9.out.below hb10.out)
      have HB10 := Lib.hid (HB9.out.trans (hb10.out.mono HB9.out.size))
      have HKS := Lib.hid hks
      have HK2 := Lib.hid (idxKeys_is w10 HJ10.out HFS.out HFL.out)
      clear hb10 HK1 HI9 HJ9 hks
      go_wp2_with fail
      refine HK2.out.mono ?_
      rintro e w11 ⟨A11, k11, c11, ks2, rfl, hks, hkl2, hks11, hkm2, hb11⟩
      obtain rfl : ks2 = ks := hks.ext HKS.out
      obtain rfl : k11 = k10 := hkl2.out.symm.trans hkl.out
      have HB11 := Lib.hid (HB10.out.trans (hb11.out.mono HB10.out.size))
      have hEQ := eqS_is (b := true) A10 A11 ks2 ks2 c10 c11 w11 (hks10.out.below hb11.out) hks11.out (by rw [hkl.out]; exact hkm.out) (by rw [hkl.out]; exact hkm.out) (by simp)
      rw [hkl.out] at hEQ
      have HEQ := Lib.hid hEQ
      clear hb11 HK2 hks hEQ HJ10
      go_wp2_with fail
      refine HEQ.out.mono ?_
      rintro e w12 ⟨rfl, hb12⟩
      have HB12 := Lib.hid (HB11.out.trans (hb12.mono HB11.out.size))
      clear hb12 HEQ
      go_wp2_with fail
      go_ret
      exact ⟨rfl, HB12.out⟩
end Go.Proofs.YtodlabohijabnaaDoor
