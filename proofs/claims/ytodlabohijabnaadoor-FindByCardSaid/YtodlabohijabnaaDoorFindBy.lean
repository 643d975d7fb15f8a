/- FindBy's walk. -/
import Derived.Test.YtodlabohijabnaaDoorFLaws
import Derived.Test.YtodlabohijabnaaDoorSFine
set_option linter.unusedVariables false
set_option linter.unusedSimpArgs false
set_option maxRecDepth 100000
namespace Go.Proofs.YtodlabohijabnaaDoor
open Go.RowKit Go.Sort Go.Maps

abbrev recKV : RecL := ⟨sA, 0, [⟨sK, sV⟩], []⟩
theorem okKV : recKV.Ok := ⟨nameA, Int.le_refl _, by decide, by simp, by simp, fOk_mk (by simp [Asc]) (fun f hf => by rw [List.mem_singleton] at hf; subst hf; exact fdKV), fun i s hi => absurd hi (Nat.not_lt_zero i)⟩
theorem byKV : byErr [⟨recKV, false⟩] ⟨sK, sV⟩ = 0 ∧ byR [⟨recKV, false⟩] ⟨sK, sV⟩ = [sA] := by
  have h : byErr [⟨recKV, false⟩] ⟨sK, sV⟩ = 0 := by
    unfold byErr
    rw [if_neg (fun k => k (st_one okKV)), if_pos fdKV]
  refine ⟨h, ?_⟩
  unfold byR
  rw [if_pos h]
  exact by_one (by simp)
/-- By, of names that are handed on -/
theorem by_fine {n : Nat} {er : Int} {L : List ByteArray} {a : Option Addr} {vs : List VerL} (c : Nat) (f : FieldL) (w : World) (h : VsAt w a n vs) (hst : stErr vs = 0) (hL : byR vs f = L) (he : byErr vs f = er) :
    Calls Tryd.prog 11 #[.slice a n c, f.v] w (StrsTo L er w) :=
  by_is c f w h (by have := h.len; have := (stErr_ok.1 hst).1; unfold maxLen; omega) hL he

theorem by_lit {B : Nat} (w0 : World) (hB : w0.heap.size = B) :
    Calls Tryd.prog 11 #[.slice (some ⟨B + 1, 0, none⟩) 1 1, .agg #[.string sK, .string sV]]
      ((w0.alloc (.cells #[.string sK, .string sV] 24)).alloc (.cells #[.string sA, .int .i64 0, .slice (some ⟨B, 0, none⟩) 1 1, .slice none 0 0, .bool false] 34))
      fun e w' => ∃ A c, e = .returned (.tuple #[.slice A 1 c, .int .i64 0]) ∧ Hid (SlS w' A [sA]) ∧ Hid (Below B w0 w') := by
  subst hB
  have hin : (⟨⟨recKV, false⟩, ⟨some ⟨w0.heap.size, 0, none⟩, 1, none, 0⟩⟩ : PV).in_ (w0.alloc (.cells #[.string sK, .string sV] 24)) :=
    ⟨slf_one w0 ⟨sK, sV⟩, SlS.nil _ _, by simp, by simp, by unfold maxLen; simp, by simp⟩
  have hlit := by_is 1 ⟨sK, sV⟩ _ (vs_one _ _ hin) (by unfold maxLen; omega) byKV.2 byKV.1
  rw [World.size_alloc] at hlit
  refine hlit.mono ?_
  rintro e w1 ⟨A, k, c, rfl, hk, ho, hb⟩
  obtain rfl : k = 1 := hk.symm
  have h1 : Below w0.heap.size w0 ((w0.alloc (.cells #[.string sK, .string sV] 24)).alloc (.cells #[.string sA, .int .i64 0, .slice (some ⟨w0.heap.size, 0, none⟩) 1 1, .slice none 0 0, .bool false] 34)) := ((Below.refl _ _).alloc (Nat.le_refl _) _).alloc (by simp) _
  exact ⟨A, c, rfl, (OwnS.at_ ho rfl).1, h1.trans (hb.mono h1.size)⟩

set_option maxHeartbeats 1000000 in
theorem findBy_walk (a : Option Addr) (c : Nat) (g : List RowI) (f : FieldL) (w : World) (hs : SlG w a g) (hl : g.length ≤ c) (hm : c ≤ maxLen) (hf : f.short) :
    Calls Tryd.prog 5 #[.slice a g.length c, f.v] w fun e w' => e = .returned (.bool true) ∧ Below w.heap.size w w' := by
  have HS := Lib.hid hs
  have HL := Lib.hid hl
  have HM := Lib.hid hm
  obtain ⟨gl, hgl⟩ : ∃ gl, g.length = gl := ⟨_, rfl⟩
  have HGL := Lib.hid hgl
  rw [hgl]
  have hA : Below w.heap.size w (w.alloc (.cells #[.string f.key, .string f.val] 24)) := (Below.refl _ _).alloc (Nat.le_refl _) _
  have HA := Lib.hid hA
  clear hs hl hm hgl hf
  go_enter Tryd.func5, Tryd.ntmps5
  go_wp2_with fail
  refine (by_lit (B := w.heap.size + 1) _ (by simp)).mono ?_
  rintro e w1 ⟨A1, c1, rfl, HS1, HB0⟩
  have k0 : w1.cell? ⟨w.heap.size, 0, none⟩ = some (.string f.key) := (HB0.out.cell (p := ⟨w.heap.size, 0, none⟩) (by simp)).trans (by simp [go_sem])
  have k1 : w1.cell? ⟨w.heap.size, 1, none⟩ = some (.string f.val) := (HB0.out.cell (p := ⟨w.heap.size, 1, none⟩) (by simp)).trans (by simp [go_sem])
  have HB1 := Lib.hid (HA.out.trans (HB0.out.mono (by simp)))
  clear HB0 hA
  go_wp2_with fail
  refine (eqS_is (b := true) A1 _ [sA] [sA] c1 1 _ (HS1.out.below ((Below.refl _ _).alloc (Nat.le_refl _) _)) (sl_one w1 9 [sA]) (by unfold maxLen; simp) (by unfold maxLen; simp) (by simp)).mono ?_
  rintro e w2 ⟨rfl, hb2⟩
  have hb12 : Below w1.heap.size w1 w2 := ((Below.refl _ _).alloc (Nat.le_refl _) _).trans (hb2.mono (by simp))
  have q0 := (hb12.cell (p := ⟨w.heap.size, 0, none⟩) (cell_lt k0)).trans k0
  have q1 := (hb12.cell (p := ⟨w.heap.size, 1, none⟩) (cell_lt k0)).trans k1
  have HB2 := Lib.hid (HB1.out.trans (hb12.mono HB1.out.size))
  have HG := Lib.hid (grown_is a g c w2 (HS.out.below HB2.out) HL.out HM.out)
  rw [HGL.out] at HG
  clear hb2 hb12 k0 k1 HS1 HB1
  go_wp2_with fail
  refine HG.out.mono ?_
  rintro e w3 ⟨vs, A, m, c', rfl, hok, hnw, hb3⟩
  have HOK := Lib.hid hok.ok
  have HST := Lib.hid (hok.fine (by omega))
  have HV := Lib.hid hnw.at_
  have r0 := (hb3.cell (p := ⟨w.heap.size, 0, none⟩) (cell_lt q0)).trans q0
  have r1 := (hb3.cell (p := ⟨w.heap.size, 1, none⟩) (cell_lt q0)).trans q1
  have HB3 := Lib.hid (HB2.out.trans (hb3.mono HB2.out.size))
  obtain ⟨er, her⟩ : ∃ er, byErr vs f = er := ⟨_, rfl⟩
  obtain ⟨L, hL⟩ : ∃ L, byR vs f = L := ⟨_, rfl⟩
  have HER := Lib.hid her
  have HLR := Lib.hid hL
  have HBY := Lib.hid (by_fine c' f w3 HV.out HST.out hL her)
  clear hok hnw hb3 q0 q1 HG her hL
  go_wp2_with fail
  refine HBY.out.mono ?_
  rintro e w4 ⟨A4, k4, c4, rfl, hk4, ho4, hb4⟩
  have s0 := (hb4.cell (p := ⟨w.heap.size, 0, none⟩) (cell_lt r0)).trans r0
  have s1 := (hb4.cell (p := ⟨w.heap.size, 1, none⟩) (cell_lt r0)).trans r1
  have HV4 := Lib.hid (HV.out.below hb4)
  have HB4 := Lib.hid (HB3.out.trans (hb4.mono HB3.out.size))
  obtain ⟨hs4, hm4, hc4⟩ := OwnS.at_ ho4 hk4
  have HS4 := Lib.hid hs4
  have HK4 := Lib.hid hk4
  have HM4 := Lib.hid (Nat.le_trans hm4 hc4)
  clear hk4 ho4 hb4 r0 r1 HBY HV hs4 hm4 hc4
  by_cases hf : isFd f = true
  · have he0 : byErr vs f = 0 := by unfold byErr; rw [if_neg (fun k => k HST.out), if_pos hf]
    obtain rfl : er = 0 := by rw [← HER.out, he0]
    have HLL : Hid (L = byL vs f) := by
      show L = _
      rw [← HLR.out]
      unfold byR
      rw [if_pos he0]
    clear hf he0
    go_wp2_with fail
    obtain ⟨W5, hW5⟩ : ∃ W5, W5 = w4.alloc (.cells #[.string ⟨#[97]⟩, .string ⟨#[98]⟩, .string ⟨#[99]⟩] 9) := ⟨_, rfl⟩
    have hA5 : Below w4.heap.size w4 W5 := by rw [hW5]; exact (Below.refl _ _).alloc (Nat.le_refl _) _
    have hab : SlS W5 (some ⟨w4.heap.size, 0, none⟩) [sA, sB, sC] := by rw [hW5]; exact sl_one w4 9 [sA, sB, sC]
    rw [← hW5]
    have HA5 := Lib.hid hA5
    have HAB := Lib.hid hab
    have HS0 := Lib.hid s0
    have HS1 := Lib.hid s1
    clear hW5 hA5 hab s0 s1
    go_loopw [51] (fun i wr => ∃ k : Nat, k ≤ 3 ∧ i = .int .i64 k ∧ Hid (Below w4.heap.size w4 wr) ∧ Hid (Below W5.heap.size W5 wr)) (fun i _ => 3 - (intOf i).toNat)
    case atStart => exact ⟨0, by omega, rfl, HA5.out, Below.refl _ _⟩
    case round =>
      obtain ⟨k, hk, rfl, HB, HBW⟩ := hrel
      by_cases hlt : k < 3
      · obtain ⟨id, hid⟩ : ∃ id, [sA, sB, sC][k]? = some id := ⟨_, List.getElem?_eq_getElem (by simpa using hlt)⟩
        obtain ⟨b, off, hbe, hc⟩ := (HAB.out.below HBW.out) k id hid
        cases hbe
        rw [Nat.zero_add] at hc
        have i1 : (0 : Int) ≤ (k : Int) := by omega
        have i2 : (k : Int) < (3 : Int) := by omega
        have HID := Lib.hid hid
        clear hid
        have q0 := (HB.out.cell (p := ⟨w.heap.size, 0, none⟩) (cell_lt HS0.out)).trans HS0.out
        have q1 := (HB.out.cell (p := ⟨w.heap.size, 1, none⟩) (cell_lt HS0.out)).trans HS1.out
        cases hg : getV vs id with
        | none =>
          obtain ⟨g1, g2⟩ := get_none HST.out hg
          have HGET := Lib.hid (get_fine c' id wr (HV4.out.below HB.out) HST.out g2 g1)
          have hno : memS L id = false := by
            cases hm : memS L id with
            | false => rfl
            | true =>
              have h1 := memS_iff.1 hm
              rw [HLL.out, mem_byL] at h1
              obtain ⟨v, hv, _⟩ := h1
              rw [hg] at hv
              cases hv
          have HNO := Lib.hid hno
          clear hg g1 g2 hno
          go_wp2_with fail
          refine HGET.out.mono ?_
          rintro e w6 ⟨p, rfl, hnr, hb6⟩
          have hal := (Below.refl w6.heap.size w6).alloc (Nat.le_refl _) (.cells #[.string RecL.zero.id, .int .i64 RecL.zero.cats, .slice p.fa RecL.zero.fs.length p.fc, .slice p.ra RecL.zero.rs.length p.rc] 32)
          have hb67 := hb6.trans (hal.mono hb6.size)
          have HB7 := Lib.hid (HB.out.trans (hb67.mono HB.out.size))
          have HB7W := Lib.hid (HBW.out.trans (hb67.mono HBW.out.size))
          have HCT := Lib.hid (contains_is (b := false) A4 L c4 id _ (HS4.out.below HB7.out) HK4.out HM4.out (by rw [← HNO.out]; exact memS_iff.symm))
          clear hnr hb6 hal hb67 HGET
          go_wp2_with fail
          refine HCT.out.mono ?_
          rintro e w8 ⟨rfl, hb8⟩
          have HB8 := Lib.hid (HB7.out.trans (hb8.mono HB7.out.size))
          have HB8W := Lib.hid (HB7W.out.trans (hb8.mono HB7W.out.size))
          clear hb8 HCT
          go_wp2_with fail
          go_roundw
          case rel => exact ⟨k + 1, by omega, by go_num, HB8.out, HB8W.out⟩
          case measure => simp [intOf]; omega
        | some v =>
          obtain ⟨g1, g2⟩ := get_some HST.out hg
          obtain ⟨r, hr⟩ : ∃ r, v.r = r := ⟨_, rfl⟩
          rw [hr] at g2
          have HGET := Lib.hid (get_fine c' id wr (HV4.out.below HB.out) HST.out g2 g1)
          obtain ⟨t, ht⟩ : ∃ t, hasF f r = t := ⟨_, rfl⟩
          have hmt : memS L id = t := by
            rw [← ht, Bool.eq_iff_iff, memS_iff, HLL.out, mem_byL, hasF_iff]
            constructor
            · rintro ⟨u, hu, hfu⟩
              rw [hg] at hu
              cases hu
              rw [← hr]
              exact hfu
            · exact fun h => ⟨v, hg, by rw [hr]; exact h⟩
          have HMT := Lib.hid hmt
          have HTT := Lib.hid ht
          clear hg g1 g2 hmt ht hr
          go_wp2_with fail
          refine HGET.out.mono ?_
          rintro e w6 ⟨p, rfl, hnr, hb6⟩
          have hal := (Below.refl w6.heap.size w6).alloc (Nat.le_refl _) (.cells #[.string r.id, .int .i64 r.cats, .slice p.fa r.fs.length p.fc, .slice p.ra r.rs.length p.rc] 32)
          have hb67 := hb6.trans (hal.mono hb6.size)
          have HB7 := Lib.hid (HB.out.trans (hb67.mono HB.out.size))
          have HB7W := Lib.hid (HBW.out.trans (hb67.mono HBW.out.size))
          have HCT := Lib.hid (contains_is (b := t) A4 L c4 id _ (HS4.out.below HB7.out) HK4.out HM4.out (by rw [← HMT.out]; exact memS_iff.symm))
          have HRI := Lib.hid (hnr.in_.below hal)
          have HBO := Lib.hid (BoxAt.new w6 r p 32)
          have p0 := (hb67.cell (p := ⟨w.heap.size, 0, none⟩) (cell_lt q0)).trans q0
          have p1 := (hb67.cell (p := ⟨w.heap.size, 1, none⟩) (cell_lt q0)).trans q1
          have HP0 := Lib.hid p0
          have HP1 := Lib.hid p1
          clear hnr hb6 hal hb67 HGET p0 p1 q0 q1
          go_wp2_with fail
          refine HCT.out.mono ?_
          rintro e w8 ⟨rfl, hb8⟩
          have HB8 := Lib.hid (HB7.out.trans (hb8.mono HB7.out.size))
          have HB8W := Lib.hid (HB7W.out.trans (hb8.mono HB7W.out.size))
          obtain ⟨d0, d1, d2, d3⟩ := HBO.out.below hb8
          have p0 := (hb8.cell (p := ⟨w.heap.size, 0, none⟩) (cell_lt HP0.out)).trans HP0.out
          have p1 := (hb8.cell (p := ⟨w.heap.size, 1, none⟩) (cell_lt HP0.out)).trans HP1.out
          have hin8 := HRI.out.below hb8
          have HCF := Lib.hid (containsF_is (b := t) p.fa r.fs p.fc f w8 hin8.hf (Nat.le_trans hin8.fl hin8.fm) HTT.out)
          clear hb8 HCT hin8 hc
          cases t with
          | true =>
            go_wp2_with fail
            refine HCF.out.mono ?_
            rintro e w9 ⟨rfl, hb9⟩
            have HB9 := Lib.hid (HB8.out.trans (hb9.mono HB8.out.size))
            have HB9W := Lib.hid (HB8W.out.trans (hb9.mono HB8W.out.size))
            clear hb9
            go_wp2_with fail
            go_roundw
            case rel => exact ⟨k + 1, by omega, by go_num, HB9.out, HB9W.out⟩
            case measure => simp [intOf]; omega
          | false =>
            go_wp2_with fail
            refine HCF.out.mono ?_
            rintro e w9 ⟨rfl, hb9⟩
            have HB9 := Lib.hid (HB8.out.trans (hb9.mono HB8.out.size))
            have HB9W := Lib.hid (HB8W.out.trans (hb9.mono HB8W.out.size))
            clear hb9
            go_wp2_with fail
            go_roundw
            case rel => exact ⟨k + 1, by omega, by go_num, HB9.out, HB9W.out⟩
            case measure => simp [intOf]; omega
      · obtain rfl : k = 3 := by omega
        have HASC : Hid (Asc L) := by
          show Asc L
          rw [HLL.out]
          exact byL_asc' vs f
        have HSO := Lib.hid (sorted_is A4 L c4 wr (HS4.out.below HB.out) HK4.out HM4.out HASC.out)
        have HB9 := Lib.hid (HB4.out.trans (HB.out.mono HB4.out.size))
        clear hlt
        go_wp2_with fail
        refine HSO.out.mono ?_
        rintro e w6 ⟨rfl, hb6⟩
        have HB10 := Lib.hid (HB9.out.trans (hb6.mono HB9.out.size))
        clear hb6
        go_wp2_with fail
        go_ret
        exact ⟨rfl, HB10.out⟩
  · have he0 : byErr vs f = 3 := by unfold byErr; rw [if_neg (fun k => k HST.out), if_neg hf]
    obtain rfl : er = 3 := by rw [← HER.out, he0]
    have hLn : L = [] := by rw [← HLR.out]; unfold byR; rw [if_neg (by rw [he0]; decide)]
    subst hLn
    obtain rfl : k4 = 0 := HK4.out.symm
    clear hf he0
    go_wp2_with fail
    go_ret
    exact ⟨rfl, HB4.out⟩
end Go.Proofs.YtodlabohijabnaaDoor
