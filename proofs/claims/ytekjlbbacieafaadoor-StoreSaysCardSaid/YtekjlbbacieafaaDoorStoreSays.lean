/- StoreSays' walk. -/
import Derived.Test.YtekjlbbacieafaaDoorSRefIds
import Derived.Test.YtekjlbbacieafaaDoorREq
import Derived.Test.YtekjlbbacieafaaDoorStoreMore
set_option linter.unusedVariables false
set_option linter.unusedSimpArgs false
set_option maxRecDepth 100000
namespace Go.Proofs.YtekjlbbacieafaaDoor
open Go.RowKit Go.Sort

theorem says_bad {vs : List VerL} {er : Int} (he : stErr vs = er) (h0 : er ≠ 0) (ct : Int) (id : ByteArray) : prtErr vs ct = er ∧ prtL vs ct = [] ∧ getErr vs id = er ∧ getR vs id = RecL.zero ∧ histErr vs id = er ∧ histL vs id = [] := by
  have h1 : stErr vs ≠ 0 := by rw [he]; exact h0
  have hp : prtErr vs ct = er := by unfold prtErr; rw [if_pos h1, he]
  refine ⟨hp, by unfold prtL; rw [if_neg (by rw [hp]; exact h0)], by unfold getErr; rw [if_pos h1, he], by unfold getR; rw [if_pos h1], by unfold histErr; rw [if_pos h1, he], by unfold histL; rw [if_pos h1]⟩
def goneA : PV := ⟨goneV ⟨#[97]⟩ 0, At.none⟩
theorem goneA_at (w : World) : VsAt (goneA.box w) (some ⟨w.heap.size, 0, none⟩) 1 [goneV ⟨#[97]⟩ 0] := by
  refine ⟨[goneA], rfl, rfl, slW_of (fun y hy => ?_) fun j u hu => ?_⟩
  · rw [List.mem_singleton] at hy
    subst hy
    exact (NewRec.none 0 _ _ _).in_
  · have := cell_five_new w goneA 37 j u hu
    rw [addr_at] at this
    rw [Nat.zero_add]
    exact this
theorem goneA_err : stErr [goneV ⟨#[97]⟩ 0] = 3 := by
  unfold stErr
  rw [if_neg (by decide)]
  have h1 : verErr [] (goneV ⟨#[97]⟩ 0) = 3 := verErr_gone ((RecL.err_ok _).2 (RecL.okBare (by decide) (by decide))) (by rw [same_nil]; omega) rfl (.inr rfl)
  unfold errFrom
  rw [h1, if_pos (by decide)]
/-- the document's own answers, of a store that may be -/
theorem says_get {vs : List VerL} (hst : stErr vs = 0) (id : ByteArray) {t e : Int} {r : RecL} (ht : bestAt vs id vs.length 256 = t) (he : getErr vs id = e) (hr : getR vs id = r) :
    (t < 0 ∧ e = 4 ∧ r = RecL.zero) ∨ ∃ (j : Nat) (v : VerL), t = (j : Int) ∧ vs[j]? = some v ∧ e = 0 ∧ r = v.r := by
  rcases best_get (stErr_ok.1 hst).2 id with ⟨z1, z2⟩ | ⟨j, v, z1, z2, z3⟩
  · obtain ⟨y1, y2⟩ := get_none hst z2
    exact .inl ⟨by omega, he.symm.trans y1, hr.symm.trans y2⟩
  · obtain ⟨y1, y2⟩ := get_some hst z3
    exact .inr ⟨j, v, by omega, z2, he.symm.trans y1, hr.symm.trans y2⟩

set_option maxHeartbeats 8000000 in
theorem storeSays_walk (a : Option Addr) (c : Nat) (l : List PV) (ct : Int) (id : ByteArray) (w : World) (hs : SlW w a l) (hl : l.length ≤ c) (hm : c ≤ maxLen) (hall : ∀ x ∈ l, x.v.r.short) (hid : id.size ≤ maxLen) :
    Calls Tryd.prog 3 #[.slice a l.length c, .int .i64 ct, .string id] w fun e w' => e = .returned (.bool true) ∧ Below w.heap.size w w' := by
  have HS := Lib.hid hs
  have HM := Lib.hid hm
  have HALL := Lib.hid hall
  obtain ⟨n, hn⟩ : ∃ n, l.length = n := ⟨_, rfl⟩
  have HN := Lib.hid hn
  rw [hn] at hl ⊢
  obtain ⟨vs, hvs⟩ : ∃ vs, l.map (·.v) = vs := ⟨_, rfl⟩
  have HVS := Lib.hid hvs
  have HV := Lib.hid (show VsAt w a n vs from ⟨l, hvs, hn, hs⟩)
  have HNM := Lib.hid (show n ≤ maxLen from Nat.le_trans hl hm)
  have HNC := Lib.hid hl
  obtain ⟨e1, h1⟩ : ∃ e, prtErr vs ct = e := ⟨_, rfl⟩
  obtain ⟨P, h2⟩ : ∃ P, prtL vs ct = P := ⟨_, rfl⟩
  obtain ⟨e2, h3⟩ : ∃ e, getErr vs id = e := ⟨_, rfl⟩
  obtain ⟨r, h4⟩ : ∃ r, getR vs id = r := ⟨_, rfl⟩
  obtain ⟨e3, h5⟩ : ∃ e, histErr vs id = e := ⟨_, rfl⟩
  obtain ⟨H, h6⟩ : ∃ H, histL vs id = H := ⟨_, rfl⟩
  obtain ⟨er, h7⟩ : ∃ er, stErr vs = er := ⟨_, rfl⟩
  have H1 := Lib.hid h1
  have H2 := Lib.hid h2
  have H3 := Lib.hid h3
  have H4 := Lib.hid h4
  have H5 := Lib.hid h5
  have H6 := Lib.hid h6
  have H7 := Lib.hid h7
  have HPRT := Lib.hid (prt_is c ct w HV.out HNM.out h2 h1)
  clear hs hl hm hall hid hn hvs h1 h2 h3 h4 h5 h6 h7
  go_enter Tryd.func3, Tryd.ntmps3
  go_wp2_with fail
  refine HPRT.out.mono ?_
  rintro e w1 ⟨A1, m1, c1, rfl, hnw, hb⟩
  have HB1 := Lib.hid hb
  have HP1 := Lib.hid hnw.at_
  have HGET := Lib.hid (get_is c id w1 (HV.out.below hb) HNM.out H4.out H3.out)
  clear hnw hb HPRT
  go_wp2_with fail
  refine HGET.out.mono ?_
  rintro e w2 ⟨q, rfl, hnr, hb⟩
  have hal := (Below.refl w2.heap.size w2).alloc (Nat.le_refl _) (.cells #[.string r.id, .int .i64 r.cats, .slice q.fa r.fs.length q.fc, .slice q.ra r.rs.length q.rc] 29)
  have hb2 := hb.trans (hal.mono hb.size)
  have HB2 := Lib.hid (HB1.out.trans (hb2.mono HB1.out.size))
  have HP2 := Lib.hid (HP1.out.below hb2)
  have HRI := Lib.hid (hnr.in_.below hal)
  have HBO := Lib.hid (BoxAt.new w2 r q 29)
  have HHI := Lib.hid (hist_is c id _ (HV.out.below HB2.out) HNM.out H6.out H5.out)
  obtain ⟨B, hB⟩ : ∃ B, B = w2.heap.size := ⟨_, rfl⟩
  clear hnr hal hb hb2 HGET HP1
  go_wp2_with fail
  refine HHI.out.mono ?_
  rintro e w3 ⟨A3, m3, c3, rfl, hnw, hb⟩
  have HB3 := Lib.hid (HB2.out.trans (hb.mono HB2.out.size))
  have HP3 := Lib.hid (HP2.out.below hb)
  have HRI3 := Lib.hid (HRI.out.below hb)
  have HBO3 := Lib.hid (HBO.out.below hb)
  have HH3 := Lib.hid hnw.at_
  clear hnw hb HHI HP2 HRI HBO
  rw [← hB] at HBO3 ⊢
  clear hB
  by_cases he : er = 0
  · subst he
    have HID := Lib.hid (ids_ok c w3 (HV.out.below HB3.out) H7.out)
    go_wp2_with fail
    refine HID.out.mono ?_
    rintro e w4 ⟨A4, m4, c4, xs, rfl, hids, hxl, hsl, hmc, hcm, hb⟩
    have HXI := Lib.hid hids
    have HXL := Lib.hid hxl
    have HXS := Lib.hid hsl
    have HXM := Lib.hid (Nat.le_trans hmc hcm)
    have HB4 := Lib.hid (HB3.out.trans (hb.mono HB3.out.size))
    have HP4 := Lib.hid (HP3.out.below hb)
    have HRI4 := Lib.hid (HRI3.out.below hb)
    have HBO4 := Lib.hid (HBO3.out.below hb)
    have HH4 := Lib.hid (HH3.out.below hb)
    have HST := Lib.hid (refStore_is c w4 l (HS.out.below HB4.out) HVS.out HN.out HNC.out HM.out HALL.out H7.out)
    clear hids hxl hsl hmc hcm hb HID HP3 HRI3 HBO3 HH3
    go_wp2_with fail
    refine HST.out.mono ?_
    rintro e w5 ⟨rfl, hb⟩
    have HB5 := Lib.hid (HB4.out.trans (hb.mono HB4.out.size))
    have HX5 := Lib.hid (HXS.out.belowW hb)
    have HP5 := Lib.hid (HP4.out.below hb)
    have HRI5 := Lib.hid (HRI4.out.below hb)
    have HBO5 := Lib.hid (HBO4.out.below hb)
    have HH5 := Lib.hid (HH4.out.below hb)
    have HCK := Lib.hid (checks_is c w5 (HV.out.below HB5.out) HNM.out H7.out)
    clear hb HST HP4 HRI4 HBO4 HH4 HXS
    go_wp2_with fail
    refine HCK.out.mono ?_
    rintro e w6 ⟨rfl, hb⟩
    have hb6 := hb.trans ((goneA.box_below w6).mono hb.size)
    have HB6 := Lib.hid (HB5.out.trans (hb6.mono HB5.out.size))
    have HX6 := Lib.hid (HX5.out.belowW hb6)
    have HP6 := Lib.hid (HP5.out.below hb6)
    have HRI6 := Lib.hid (HRI5.out.below hb6)
    have HBO6 := Lib.hid (HBO5.out.below hb6)
    have HH6 := Lib.hid (HH5.out.below hb6)
    have HCL := Lib.hid (checks_is 1 _ (goneA_at w6) (by unfold maxLen; omega) goneA_err)
    clear hb hb6 HCK HP5 HRI5 HBO5 HH5 HX5
    go_wp2_with fail
    refine HCL.out.mono ?_
    rintro e w7 ⟨rfl, hb⟩
    have HB7 := Lib.hid (HB6.out.trans (hb.mono HB6.out.size))
    have HX7 := Lib.hid (HX6.out.belowW hb)
    have HP7 := Lib.hid (HP6.out.below hb)
    have HRI7 := Lib.hid (HRI6.out.below hb)
    have HBO7 := Lib.hid (HBO6.out.below hb)
    have HH7 := Lib.hid (HH6.out.below hb)
    clear hb HCL HP6 HRI6 HBO6 HH6 HX6
    obtain ⟨t, ht⟩ : ∃ t, bestAt vs id n 256 = t := ⟨_, rfl⟩
    have HT := Lib.hid ht
    have HTT := Lib.hid (show bestAt vs id vs.length 256 = t by rw [← HV.out.len]; exact ht)
    clear ht
    by_cases hc : 0 ≤ ct ∧ ct ≤ 255
    · have z1 : prtErr vs ct = 0 := prtErr_ok.2 ⟨H7.out, hc⟩
      obtain rfl : e1 = 0 := H1.out.symm.trans z1
      have HPP := Lib.hid (show P = prt vs ct by rw [← H2.out]; unfold prtL; rw [if_pos z1])
      have HCT := Lib.hid (refCats_ok ct w7 hc)
      have HC := Lib.hid hc
      clear z1 hc
      go_wp2_with fail
      refine HCT.out.mono ?_
      rintro e w8 ⟨rfl, hb⟩
      have HB8 := Lib.hid (HB7.out.trans (hb.mono HB7.out.size))
      have HX8 := Lib.hid (HX7.out.belowW hb)
      have HP8 := Lib.hid (HP7.out.below hb)
      have HRI8 := Lib.hid (HRI7.out.below hb)
      have HBO8 := Lib.hid (HBO7.out.below hb)
      have HH8 := Lib.hid (HH7.out.below hb)
      have HSE := Lib.hid (refSeen_is a l c ct w8 (HS.out.below HB8.out) (by have := (stErr_ok.1 H7.out).1; have := HV.out.len; have := HN.out; omega) (fun x hx => (stErr_ok.1 H7.out).2.cats (by rw [← HVS.out]; exact List.mem_map_of_mem hx)) HC.out.1 HC.out.2)
      rw [HN.out, HVS.out] at HSE
      clear hb HCT HB7 HX7 HP7 HRI7 HBO7 HH7
      go_wp2_with fail
      refine HSE.out.mono ?_
      rintro e w9 ⟨A7, m7, c7, rfl, hv7, hb⟩
      have hml : (prt vs ct).length ≤ maxLen := by have := (stErr_ok.1 H7.out).1; have h2 := prt_length vs ct; unfold maxLen; omega
      have HSS := Lib.hid (sameS_is (b := true) c1 c7 w9 (HP8.out.below hb) hv7 (by have := HP8.out.len; rw [this, HPP.out]; exact hml) (by have := hv7.len; rw [this]; exact hml) (by rw [decide_eq_true_eq]; exact HPP.out))
      have HB9 := Lib.hid (HB8.out.trans (hb.mono HB8.out.size))
      have HX9 := Lib.hid (HX8.out.belowW hb)
      have HRI9' := Lib.hid (HRI8.out.below hb)
      have HBO9 := Lib.hid (HBO8.out.below hb)
      have HH9 := Lib.hid (HH8.out.below hb)
      clear hb hv7 hml HSE HB8 HX8 HP8 HRI8 HBO8 HH8
      go_wp2_with fail
      refine HSS.out.mono ?_
      rintro e wA ⟨rfl, hb⟩
      have HBA := Lib.hid (HB9.out.trans (hb.mono HB9.out.size))
      have HXA := Lib.hid (HX9.out.belowW hb)
      have HRIA := Lib.hid (HRI9'.out.below hb)
      have HBOA := Lib.hid (HBO9.out.below hb)
      have HHA := Lib.hid (HH9.out.below hb)
      clear hb HSS HB9 HX9 HRI9' HBO9 HH9
      have HRI9 := Lib.hid (refIds_is a l c wA (HS.out.below HBA.out) (by rw [HVS.out]; exact H7.out))
      rw [HN.out, HVS.out] at HRI9
      go_wp2_with fail
      refine HRI9.out.mono ?_
      rintro e wE ⟨A9, m9, c9, ys, rfl, hids, hyl, hsl, hmc, hcm, hb⟩
      obtain rfl : ys = xs := IsIds.ext hids HXI.out
      have hm9 : m9 = m4 := by rw [← hyl, HXL.out]
      subst hm9
      have HEQ := Lib.hid (eqS_is (b := true) A4 A9 ys ys c4 c9 wE (HXA.out.belowW hb) hsl (by rw [HXL.out]; exact HXM.out) (by rw [HXL.out]; exact HXM.out) (decide_eq_true rfl))
      rw [HXL.out] at HEQ
      have HBE := Lib.hid (HBA.out.trans (hb.mono HBA.out.size))
      have HRIE := Lib.hid (HRIA.out.below hb)
      have HBOE := Lib.hid (HBOA.out.below hb)
      have HHE := Lib.hid (HHA.out.below hb)
      clear hids hyl hsl hmc hcm hb HRI9 HBA HRIA HBOA HHA HXA
      go_wp2_with fail
      refine HEQ.out.mono ?_
      rintro e wF ⟨rfl, hb⟩
      have HBF := Lib.hid (HBE.out.trans (hb.mono HBE.out.size))
      have HRIF := Lib.hid (HRIE.out.below hb)
      have HBOF := Lib.hid (HBOE.out.below hb)
      have HHF := Lib.hid (HHE.out.below hb)
      have HHS := Lib.hid (refHist_is a l c id wF (HS.out.below HBF.out) (by have := (stErr_ok.1 H7.out).1; have := HV.out.len; have := HN.out; omega))
      rw [HN.out, HVS.out] at HHS
      clear hb HEQ HBE HRIE HBOE HHE
      go_wp2_with fail
      refine HHS.out.mono ?_
      rintro e wG ⟨A8, m8, c8, rfl, hv8, hb⟩
      have HBG := Lib.hid (HBF.out.trans (hb.mono HBF.out.size))
      have HRIG := Lib.hid (HRIF.out.below hb)
      have HBOG := Lib.hid (HBOF.out.below hb)
      have HHG := Lib.hid (HHF.out.below hb)
      have HV8 := Lib.hid hv8
      have hm8 := hv8.len
      have hm3 := HHG.out.len
      rw [← H6.out, show histL vs id = hist vs id by unfold histL; rw [if_neg (fun k => k H7.out)]] at hm3
      have hcs : (m8 = 0 ∧ m3 = 0 ∧ e3 = 4) ∨ (0 < m8 ∧ m8 = m3 ∧ e3 = 0) := by
        rcases histErr_two H7.out id with ⟨h1, h2⟩ | ⟨h1, h2⟩
        · exact .inl ⟨by rw [hm8, h1]; rfl, by rw [hm3, h1]; rfl, H5.out.symm.trans h2⟩
        · exact .inr ⟨by rw [hm8]; exact Nat.pos_of_ne_zero (fun k => h1 (List.eq_nil_of_length_eq_zero k)), by omega, H5.out.symm.trans h2⟩
      have HCS := Lib.hid hcs
      clear hv8 hb HHS HBF HRIF HBOF HHF hm8 hm3 hcs
      rcases HCS.out with ⟨rfl, rfl, rfl⟩ | ⟨h8, rfl, rfl⟩
      · obtain ⟨wA, hwA⟩ : ∃ wA, wA = wG := ⟨_, rfl⟩
        subst hwA
        have HBA := HBG
        have HRIA := HRIG
        have HBOA := HBOG
        clear HBG HRIG HBOG
        have HG := Lib.hid (says_get H7.out id (t := t) (HTT.out) H3.out H4.out)
        have HRG := Lib.hid (refGet_is c id wA (HV.out.below HBA.out) (by have := (stErr_ok.1 H7.out).1; have := HV.out.len; omega) HT.out)
        go_wp2_with fail
        refine HRG.out.mono ?_
        rintro e wB ⟨rfl, hb⟩
        have HBB := Lib.hid (HBA.out.trans (hb.mono HBA.out.size))
        have HRIB := Lib.hid (HRIA.out.below hb)
        have HBOB := Lib.hid (HBOA.out.below hb)
        clear hb HRG
        rcases HG.out with ⟨ht0, rfl, hz⟩ | ⟨j, v, hj, hvj, rfl, hrv⟩
        · have ht1 : ¬ (0 ≤ t) := by omega
          have HSA := Lib.hid (same_is (b := true) r RecL.zero q At.none wB HRIB.out (NewRec.none 0 wB _ _).in_ (by rw [decide_eq_true_eq]; exact hz))
          obtain ⟨d0, d1, d2, d3⟩ := HBOB.out
          clear hz
          go_wp2_with fail
          refine HSA.out.mono ?_
          rintro e wC ⟨rfl, hb⟩
          have HBC := Lib.hid (HBB.out.trans (hb.mono HBB.out.size))
          clear hb
          go_wp2_with fail
          go_ret
          exact ⟨rfl, HBC.out⟩
        · obtain ⟨x, hx, rfl⟩ : ∃ x, l[j]? = some x ∧ x.v = v := by
            rw [← HVS.out, List.getElem?_map] at hvj
            obtain ⟨x, h1, h2⟩ := Option.map_eq_some_iff.1 hvj
            exact ⟨x, h1, h2⟩
          obtain ⟨hxi, b, off, rfl, f0, f1, f2, f3, f4⟩ := (HS.out.below HBB.out) j x hx
          have hjn : (j : Int) < (n : Int) := by have := (List.getElem?_eq_some_iff.1 hx).1; have := HN.out; omega
          have hj0 : (0 : Int) ≤ (j : Int) := by omega
          subst hj
          have HXI2 := Lib.hid hxi
          have HRV := Lib.hid hrv
          obtain ⟨d0, d1, d2, d3⟩ := HBOB.out
          clear hx hvj hxi hrv f4
          go_upto_region 25 with fail
          go_still_tail 9, (by kernel_rfl)
          change wpList _ _ _ _ _ wB.drew
          have hdr := below_drew' wB
          obtain ⟨wD, hwD⟩ : ∃ wD, wD = wB.drew := ⟨_, rfl⟩
          rw [← hwD] at hdr ⊢
          have HBD := Lib.hid (HBB.out.trans (hdr.mono HBB.out.size))
          have HSA := Lib.hid (same_is (b := true) r x.v.r q x.p wD (HRIB.out.below hdr) (HXI2.out.below hdr) (by rw [decide_eq_true_eq]; exact HRV.out))
          clear hwD hdr d0 d1 d2 d3 f0 f1 f2 f3
          go_wp2_with fail
          refine HSA.out.mono ?_
          rintro e wC ⟨rfl, hb⟩
          have HBC := Lib.hid (HBD.out.trans (hb.mono HBD.out.size))
          clear hb
          go_wp2_with fail
          go_ret
          exact ⟨rfl, HBC.out⟩
      · have h8' : ((m8 : Int) == 0) = false := by simpa using (show ¬ m8 = 0 by omega)
        have hml : m8 ≤ maxLen := by have := (stErr_ok.1 H7.out).1; have h1 := HV8.out.len; have h2 := hist_length vs id; unfold maxLen; omega
        have HSS := Lib.hid (sameS_is (b := true) c3 c8 wG HHG.out HV8.out hml hml (by rw [decide_eq_true_eq, ← H6.out]; unfold histL; rw [if_neg (fun k => k H7.out)]))
        clear hml
        go_wp2_with fail
        refine HSS.out.mono ?_
        rintro e wA ⟨rfl, hb⟩
        have HBA := Lib.hid (HBG.out.trans (hb.mono HBG.out.size))
        have HRIA := Lib.hid (HRIG.out.below hb)
        have HBOA := Lib.hid (HBOG.out.below hb)
        clear hb HSS HBG HRIG HBOG HHG
        have HG := Lib.hid (says_get H7.out id (t := t) (HTT.out) H3.out H4.out)
        have HRG := Lib.hid (refGet_is c id wA (HV.out.below HBA.out) (by have := (stErr_ok.1 H7.out).1; have := HV.out.len; omega) HT.out)
        go_wp2_with fail
        refine HRG.out.mono ?_
        rintro e wB ⟨rfl, hb⟩
        have HBB := Lib.hid (HBA.out.trans (hb.mono HBA.out.size))
        have HRIB := Lib.hid (HRIA.out.below hb)
        have HBOB := Lib.hid (HBOA.out.below hb)
        clear hb HRG
        rcases HG.out with ⟨ht0, rfl, hz⟩ | ⟨j, v, hj, hvj, rfl, hrv⟩
        · have ht1 : ¬ (0 ≤ t) := by omega
          have HSA := Lib.hid (same_is (b := true) r RecL.zero q At.none wB HRIB.out (NewRec.none 0 wB _ _).in_ (by rw [decide_eq_true_eq]; exact hz))
          obtain ⟨d0, d1, d2, d3⟩ := HBOB.out
          clear hz
          go_wp2_with fail
          refine HSA.out.mono ?_
          rintro e wC ⟨rfl, hb⟩
          have HBC := Lib.hid (HBB.out.trans (hb.mono HBB.out.size))
          clear hb
          go_wp2_with fail
          go_ret
          exact ⟨rfl, HBC.out⟩
        · obtain ⟨x, hx, rfl⟩ : ∃ x, l[j]? = some x ∧ x.v = v := by
            rw [← HVS.out, List.getElem?_map] at hvj
            obtain ⟨x, h1, h2⟩ := Option.map_eq_some_iff.1 hvj
            exact ⟨x, h1, h2⟩
          obtain ⟨hxi, b, off, rfl, f0, f1, f2, f3, f4⟩ := (HS.out.below HBB.out) j x hx
          have hjn : (j : Int) < (n : Int) := by have := (List.getElem?_eq_some_iff.1 hx).1; have := HN.out; omega
          have hj0 : (0 : Int) ≤ (j : Int) := by omega
          subst hj
          have HXI2 := Lib.hid hxi
          have HRV := Lib.hid hrv
          obtain ⟨d0, d1, d2, d3⟩ := HBOB.out
          clear hx hvj hxi hrv f4
          go_upto_region 25 with fail
          go_still_tail 9, (by kernel_rfl)
          change wpList _ _ _ _ _ wB.drew
          have hdr := below_drew' wB
          obtain ⟨wD, hwD⟩ : ∃ wD, wD = wB.drew := ⟨_, rfl⟩
          rw [← hwD] at hdr ⊢
          have HBD := Lib.hid (HBB.out.trans (hdr.mono HBB.out.size))
          have HSA := Lib.hid (same_is (b := true) r x.v.r q x.p wD (HRIB.out.below hdr) (HXI2.out.below hdr) (by rw [decide_eq_true_eq]; exact HRV.out))
          clear hwD hdr d0 d1 d2 d3 f0 f1 f2 f3
          go_wp2_with fail
          refine HSA.out.mono ?_
          rintro e wC ⟨rfl, hb⟩
          have HBC := Lib.hid (HBD.out.trans (hb.mono HBD.out.size))
          clear hb
          go_wp2_with fail
          go_ret
          exact ⟨rfl, HBC.out⟩
    · have z1 : prtErr vs ct = 1 := by unfold prtErr; rw [if_neg (fun k => k H7.out), if_neg hc]
      obtain rfl : e1 = 1 := H1.out.symm.trans z1
      have y1 := HP7.out.len
      rw [← H2.out, show prtL vs ct = [] by unfold prtL; rw [if_neg (by rw [z1]; decide)]] at y1
      obtain rfl : m1 = 0 := y1
      have HCT := Lib.hid (refCats_bad ct w7 hc)
      clear z1 hc
      go_wp2_with fail
      refine HCT.out.mono ?_
      rintro e wA ⟨rfl, hb⟩
      have HBA := Lib.hid (HB7.out.trans (hb.mono HB7.out.size))
      have HXA := Lib.hid (HX7.out.belowW hb)
      have HRIA := Lib.hid (HRI7.out.below hb)
      have HBOA := Lib.hid (HBO7.out.below hb)
      have HHA := Lib.hid (HH7.out.below hb)
      clear hb HCT HB7 HX7 HP7 HRI7 HBO7 HH7
      have HRI9 := Lib.hid (refIds_is a l c wA (HS.out.below HBA.out) (by rw [HVS.out]; exact H7.out))
      rw [HN.out, HVS.out] at HRI9
      go_wp2_with fail
      refine HRI9.out.mono ?_
      rintro e wE ⟨A9, m9, c9, ys, rfl, hids, hyl, hsl, hmc, hcm, hb⟩
      obtain rfl : ys = xs := IsIds.ext hids HXI.out
      have hm9 : m9 = m4 := by rw [← hyl, HXL.out]
      subst hm9
      have HEQ := Lib.hid (eqS_is (b := true) A4 A9 ys ys c4 c9 wE (HXA.out.belowW hb) hsl (by rw [HXL.out]; exact HXM.out) (by rw [HXL.out]; exact HXM.out) (decide_eq_true rfl))
      rw [HXL.out] at HEQ
      have HBE := Lib.hid (HBA.out.trans (hb.mono HBA.out.size))
      have HRIE := Lib.hid (HRIA.out.below hb)
      have HBOE := Lib.hid (HBOA.out.below hb)
      have HHE := Lib.hid (HHA.out.below hb)
      clear hids hyl hsl hmc hcm hb HRI9 HBA HRIA HBOA HHA HXA
      go_wp2_with fail
      refine HEQ.out.mono ?_
      rintro e wF ⟨rfl, hb⟩
      have HBF := Lib.hid (HBE.out.trans (hb.mono HBE.out.size))
      have HRIF := Lib.hid (HRIE.out.below hb)
      have HBOF := Lib.hid (HBOE.out.below hb)
      have HHF := Lib.hid (HHE.out.below hb)
      have HHS := Lib.hid (refHist_is a l c id wF (HS.out.below HBF.out) (by have := (stErr_ok.1 H7.out).1; have := HV.out.len; have := HN.out; omega))
      rw [HN.out, HVS.out] at HHS
      clear hb HEQ HBE HRIE HBOE HHE
      go_wp2_with fail
      refine HHS.out.mono ?_
      rintro e wG ⟨A8, m8, c8, rfl, hv8, hb⟩
      have HBG := Lib.hid (HBF.out.trans (hb.mono HBF.out.size))
      have HRIG := Lib.hid (HRIF.out.below hb)
      have HBOG := Lib.hid (HBOF.out.below hb)
      have HHG := Lib.hid (HHF.out.below hb)
      have HV8 := Lib.hid hv8
      have hm8 := hv8.len
      have hm3 := HHG.out.len
      rw [← H6.out, show histL vs id = hist vs id by unfold histL; rw [if_neg (fun k => k H7.out)]] at hm3
      have hcs : (m8 = 0 ∧ m3 = 0 ∧ e3 = 4) ∨ (0 < m8 ∧ m8 = m3 ∧ e3 = 0) := by
        rcases histErr_two H7.out id with ⟨h1, h2⟩ | ⟨h1, h2⟩
        · exact .inl ⟨by rw [hm8, h1]; rfl, by rw [hm3, h1]; rfl, H5.out.symm.trans h2⟩
        · exact .inr ⟨by rw [hm8]; exact Nat.pos_of_ne_zero (fun k => h1 (List.eq_nil_of_length_eq_zero k)), by omega, H5.out.symm.trans h2⟩
      have HCS := Lib.hid hcs
      clear hv8 hb HHS HBF HRIF HBOF HHF hm8 hm3 hcs
      rcases HCS.out with ⟨rfl, rfl, rfl⟩ | ⟨h8, rfl, rfl⟩
      · obtain ⟨wA, hwA⟩ : ∃ wA, wA = wG := ⟨_, rfl⟩
        subst hwA
        have HBA := HBG
        have HRIA := HRIG
        have HBOA := HBOG
        clear HBG HRIG HBOG
        have HG := Lib.hid (says_get H7.out id (t := t) (HTT.out) H3.out H4.out)
        have HRG := Lib.hid (refGet_is c id wA (HV.out.below HBA.out) (by have := (stErr_ok.1 H7.out).1; have := HV.out.len; omega) HT.out)
        go_wp2_with fail
        refine HRG.out.mono ?_
        rintro e wB ⟨rfl, hb⟩
        have HBB := Lib.hid (HBA.out.trans (hb.mono HBA.out.size))
        have HRIB := Lib.hid (HRIA.out.below hb)
        have HBOB := Lib.hid (HBOA.out.below hb)
        clear hb HRG
        rcases HG.out with ⟨ht0, rfl, hz⟩ | ⟨j, v, hj, hvj, rfl, hrv⟩
        · have ht1 : ¬ (0 ≤ t) := by omega
          have HSA := Lib.hid (same_is (b := true) r RecL.zero q At.none wB HRIB.out (NewRec.none 0 wB _ _).in_ (by rw [decide_eq_true_eq]; exact hz))
          obtain ⟨d0, d1, d2, d3⟩ := HBOB.out
          clear hz
          go_wp2_with fail
          refine HSA.out.mono ?_
          rintro e wC ⟨rfl, hb⟩
          have HBC := Lib.hid (HBB.out.trans (hb.mono HBB.out.size))
          clear hb
          go_wp2_with fail
          go_ret
          exact ⟨rfl, HBC.out⟩
        · obtain ⟨x, hx, rfl⟩ : ∃ x, l[j]? = some x ∧ x.v = v := by
            rw [← HVS.out, List.getElem?_map] at hvj
            obtain ⟨x, h1, h2⟩ := Option.map_eq_some_iff.1 hvj
            exact ⟨x, h1, h2⟩
          obtain ⟨hxi, b, off, rfl, f0, f1, f2, f3, f4⟩ := (HS.out.below HBB.out) j x hx
          have hjn : (j : Int) < (n : Int) := by have := (List.getElem?_eq_some_iff.1 hx).1; have := HN.out; omega
          have hj0 : (0 : Int) ≤ (j : Int) := by omega
          subst hj
          have HXI2 := Lib.hid hxi
          have HRV := Lib.hid hrv
          obtain ⟨d0, d1, d2, d3⟩ := HBOB.out
          clear hx hvj hxi hrv f4
          go_upto_region 25 with fail
          go_still_tail 9, (by kernel_rfl)
          change wpList _ _ _ _ _ wB.drew
          have hdr := below_drew' wB
          obtain ⟨wD, hwD⟩ : ∃ wD, wD = wB.drew := ⟨_, rfl⟩
          rw [← hwD] at hdr ⊢
          have HBD := Lib.hid (HBB.out.trans (hdr.mono HBB.out.size))
          have HSA := Lib.hid (same_is (b := true) r x.v.r q x.p wD (HRIB.out.below hdr) (HXI2.out.below hdr) (by rw [decide_eq_true_eq]; exact HRV.out))
          clear hwD hdr d0 d1 d2 d3 f0 f1 f2 f3
          go_wp2_with fail
          refine HSA.out.mono ?_
          rintro e wC ⟨rfl, hb⟩
          have HBC := Lib.hid (HBD.out.trans (hb.mono HBD.out.size))
          clear hb
          go_wp2_with fail
          go_ret
          exact ⟨rfl, HBC.out⟩
      · have h8' : ((m8 : Int) == 0) = false := by simpa using (show ¬ m8 = 0 by omega)
        have hml : m8 ≤ maxLen := by have := (stErr_ok.1 H7.out).1; have h1 := HV8.out.len; have h2 := hist_length vs id; unfold maxLen; omega
        have HSS := Lib.hid (sameS_is (b := true) c3 c8 wG HHG.out HV8.out hml hml (by rw [decide_eq_true_eq, ← H6.out]; unfold histL; rw [if_neg (fun k => k H7.out)]))
        clear hml
        go_wp2_with fail
        refine HSS.out.mono ?_
        rintro e wA ⟨rfl, hb⟩
        have HBA := Lib.hid (HBG.out.trans (hb.mono HBG.out.size))
        have HRIA := Lib.hid (HRIG.out.below hb)
        have HBOA := Lib.hid (HBOG.out.below hb)
        clear hb HSS HBG HRIG HBOG HHG
        have HG := Lib.hid (says_get H7.out id (t := t) (HTT.out) H3.out H4.out)
        have HRG := Lib.hid (refGet_is c id wA (HV.out.below HBA.out) (by have := (stErr_ok.1 H7.out).1; have := HV.out.len; omega) HT.out)
        go_wp2_with fail
        refine HRG.out.mono ?_
        rintro e wB ⟨rfl, hb⟩
        have HBB := Lib.hid (HBA.out.trans (hb.mono HBA.out.size))
        have HRIB := Lib.hid (HRIA.out.below hb)
        have HBOB := Lib.hid (HBOA.out.below hb)
        clear hb HRG
        rcases HG.out with ⟨ht0, rfl, hz⟩ | ⟨j, v, hj, hvj, rfl, hrv⟩
        · have ht1 : ¬ (0 ≤ t) := by omega
          have HSA := Lib.hid (same_is (b := true) r RecL.zero q At.none wB HRIB.out (NewRec.none 0 wB _ _).in_ (by rw [decide_eq_true_eq]; exact hz))
          obtain ⟨d0, d1, d2, d3⟩ := HBOB.out
          clear hz
          go_wp2_with fail
          refine HSA.out.mono ?_
          rintro e wC ⟨rfl, hb⟩
          have HBC := Lib.hid (HBB.out.trans (hb.mono HBB.out.size))
          clear hb
          go_wp2_with fail
          go_ret
          exact ⟨rfl, HBC.out⟩
        · obtain ⟨x, hx, rfl⟩ : ∃ x, l[j]? = some x ∧ x.v = v := by
            rw [← HVS.out, List.getElem?_map] at hvj
            obtain ⟨x, h1, h2⟩ := Option.map_eq_some_iff.1 hvj
            exact ⟨x, h1, h2⟩
          obtain ⟨hxi, b, off, rfl, f0, f1, f2, f3, f4⟩ := (HS.out.below HBB.out) j x hx
          have hjn : (j : Int) < (n : Int) := by have := (List.getElem?_eq_some_iff.1 hx).1; have := HN.out; omega
          have hj0 : (0 : Int) ≤ (j : Int) := by omega
          subst hj
          have HXI2 := Lib.hid hxi
          have HRV := Lib.hid hrv
          obtain ⟨d0, d1, d2, d3⟩ := HBOB.out
          clear hx hvj hxi hrv f4
          go_upto_region 25 with fail
          go_still_tail 9, (by kernel_rfl)
          change wpList _ _ _ _ _ wB.drew
          have hdr := below_drew' wB
          obtain ⟨wD, hwD⟩ : ∃ wD, wD = wB.drew := ⟨_, rfl⟩
          rw [← hwD] at hdr ⊢
          have HBD := Lib.hid (HBB.out.trans (hdr.mono HBB.out.size))
          have HSA := Lib.hid (same_is (b := true) r x.v.r q x.p wD (HRIB.out.below hdr) (HXI2.out.below hdr) (by rw [decide_eq_true_eq]; exact HRV.out))
          clear hwD hdr d0 d1 d2 d3 f0 f1 f2 f3
          go_wp2_with fail
          refine HSA.out.mono ?_
          rintro e wC ⟨rfl, hb⟩
          have HBC := Lib.hid (HBD.out.trans (hb.mono HBD.out.size))
          clear hb
          go_wp2_with fail
          go_ret
          exact ⟨rfl, HBC.out⟩
  · obtain ⟨z1, z2, z3, z4, z5, z6⟩ := says_bad H7.out he ct id
    obtain rfl : e1 = er := H1.out.symm.trans z1
    obtain rfl : e2 = e1 := H3.out.symm.trans z3
    obtain rfl : e3 = e2 := H5.out.symm.trans z5
    have zr : r = RecL.zero := H4.out.symm.trans z4
    have y1 := HP3.out.len
    rw [← H2.out, z2] at y1
    obtain rfl : m1 = 0 := y1
    have y2 := HH3.out.len
    rw [← H6.out, z6] at y2
    obtain rfl : m3 = 0 := y2
    have HZR := Lib.hid zr
    have q1 : (e3 == 0) = false := by simpa using he
    have q2 : (e3 != 0) = true := by simpa using he
    clear z1 z2 z3 z4 z5 z6 zr
    have HID := Lib.hid (ids_no c w3 (HV.out.below HB3.out) HNM.out H7.out he)
    go_wp2_with fail
    refine HID.out.mono ?_
    rintro e w4 ⟨rfl, hb⟩
    have HB4 := Lib.hid (HB3.out.trans (hb.mono HB3.out.size))
    have HRI4 := Lib.hid (HRI3.out.below hb)
    have HBO4 := Lib.hid (HBO3.out.below hb)
    have HST := Lib.hid (refStore_is c w4 l (HS.out.below HB4.out) HVS.out HN.out HNC.out HM.out HALL.out H7.out)
    clear hb HID HP3 HRI3 HBO3 HH3
    go_wp2_with fail
    refine HST.out.mono ?_
    rintro e w5 ⟨rfl, hb⟩
    have HB5 := Lib.hid (HB4.out.trans (hb.mono HB4.out.size))
    have HRI5 := Lib.hid (HRI4.out.below hb)
    have HBO5 := Lib.hid (HBO4.out.below hb)
    have HCK := Lib.hid (checks_is c w5 (HV.out.below HB5.out) HNM.out H7.out)
    clear hb HST HRI4 HBO4
    go_wp2_with fail
    refine HCK.out.mono ?_
    rintro e w6 ⟨rfl, hb⟩
    have hb6 := hb.trans ((goneA.box_below w6).mono hb.size)
    have HB6 := Lib.hid (HB5.out.trans (hb6.mono HB5.out.size))
    have HRI6 := Lib.hid (HRI5.out.below hb6)
    have HBO6 := Lib.hid (HBO5.out.below hb6)
    have HCL := Lib.hid (checks_is 1 _ (goneA_at w6) (by unfold maxLen; omega) goneA_err)
    clear hb hb6 HCK HRI5 HBO5
    go_wp2_with fail
    refine HCL.out.mono ?_
    rintro e w7 ⟨rfl, hb⟩
    have HB7 := Lib.hid (HB6.out.trans (hb.mono HB6.out.size))
    have HRI7 := Lib.hid (HRI6.out.below hb)
    have HBO7 := Lib.hid (HBO6.out.below hb)
    clear hb HCL HRI6 HBO6
    obtain ⟨d0, d1, d2, d3⟩ := HBO7.out
    have HSA := Lib.hid (same_is (b := true) r RecL.zero q At.none w7 HRI7.out (NewRec.none 0 w7 _ _).in_ (by rw [decide_eq_true_eq]; exact HZR.out))
    go_wp2_with fail
    refine HSA.out.mono ?_
    rintro e w8 ⟨rfl, hb⟩
    have HB8 := Lib.hid (HB7.out.trans (hb.mono HB7.out.size))
    clear hb
    go_wp2_with fail
    go_ret
    exact ⟨rfl, HB8.out⟩
end Go.Proofs.YtekjlbbacieafaaDoor
