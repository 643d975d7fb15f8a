/- The contract of package living's Records. -/
import Derived.Test.YteimdhkajbldjaaGreatLNamed
import Derived.Test.YteimdhkajbldjaaGreatSIds
import Derived.Deep.AppendLies
import Derived.Deep.RegionLaw
set_option linter.unusedVariables false
set_option linter.unusedSimpArgs false
set_option maxRecDepth 100000
namespace Go.Proofs.YteimdhkajbldjaaGreat
open Go.RowKit Go.Sort Go.Maps

set_option maxHeartbeats 2000000 in
theorem recs_no {n : Nat} {er : Int} {a : Option Addr} {vs : List VerL} (c : Nat) (w : World) (h : VsAt w a n vs) (hm : n ≤ maxLen) (he : stErr vs = er) (h0 : er ≠ 0) :
    Calls Tryz.prog 73 #[.slice a n c] w fun e w' => e = .returned (.tuple #[.slice none 0 0, .int .i64 er]) ∧ Below w.heap.size w w' := by
  have HC := Lib.hid (ids_no c w h hm he h0)
  have h1 : (er == 0) = false := by simpa using h0
  have h2 : (er != 0) = true := by simpa using h0
  clear h hm he
  go_enter Tryz.func73, Tryz.ntmps73
  go_wp2_with fail
  refine HC.out.mono ?_
  rintro e w1 ⟨rfl, hb1⟩
  have HB1 := Lib.hid hb1
  clear hb1
  go_wp2_with fail
  go_ret2
  exact ⟨rfl, HB1.out⟩

set_option maxHeartbeats 4000000 in
theorem recs_ok_is {n : Nat} {a : Option Addr} {vs : List VerL} (c : Nat) (w : World) (h : VsAt w a n vs) (hst : stErr vs = 0) :
    Calls Tryz.prog 73 #[.slice a n c] w (RecsTo vs w) := by
  have HC := Lib.hid (ids_ok c w h hst)
  have hnl := h.len
  obtain ⟨hl5, hok⟩ := stErr_ok.1 hst
  have hn5 : n ≤ 5120 := by omega
  obtain ⟨l, hlv, hln, hsw⟩ := h
  have HLV := Lib.hid hlv
  have HLN := Lib.hid hln
  have HS := Lib.hid hsw
  have HST := Lib.hid hst
  have HOK := Lib.hid hok
  obtain ⟨i0, hi, hz0, hz1, hz2⟩ := info_parts Tryz.infoVer
  have hmm := @run_makeMap Tryz.prog
  clear hlv hln hsw hst hok hl5 hnl
  go_enter Tryz.func73, Tryz.ntmps73
  go_wp2_with fail
  refine HC.out.mono ?_
  rintro e w1 ⟨A1, m1, c1, ids, rfl, hids, hidl, hsl, hmc, hcm, hb1⟩
  have HIDS := Lib.hid hids
  have HIDL := Lib.hid hidl
  have HSL := Lib.hid hsl
  have HB1 := Lib.hid hb1
  clear hids hidl hsl hmc hcm hb1 HC
  obtain ⟨B, hB⟩ : ∃ B, B = w1.heap.size + 1 := ⟨_, rfl⟩
  have HNM0 : Hid (Named (w1.alloc (.map #[] 0)) B w1.heap.size 0 [] (fun _ => nilS)) := by rw [hB]; exact named_made w1
  have hBz : B = (w1.alloc (.map #[] 0)).heap.size := by rw [hB]; simp
  have HBZ := Lib.hid hBz
  have HB2 : Hid (Below w1.heap.size w1 (w1.alloc (.map #[] 0))) := (Below.refl _ _).alloc (Nat.le_refl _) _
  clear hB hBz
  go_wp2_with fail
  go_loopw [23] (fun i wr => ∃ (k : Nat) (V : ByteArray → Value), k ≤ n ∧ i = .int .i64 k ∧ Hid (Named wr B w1.heap.size k (l.take k) V) ∧ Hid (Below w1.heap.size w1 wr)) (fun i _ => n - (intOf i).toNat)
  case atStart => exact ⟨0, _, Nat.zero_le _, rfl, HNM0.out, HB2.out⟩
  case round =>
    obtain ⟨k, V, hk, rfl, HNM, HB⟩ := hrel
    by_cases hlt : k < n
    · obtain ⟨x, hx⟩ : ∃ x, l[k]? = some x := ⟨_, List.getElem?_eq_getElem (by rw [HLN.out]; exact hlt)⟩
      have htk : l.take (k + 1) = l.take k ++ [x] := take_snoc hx
      have hBw : Below w.heap.size w wr := HB1.out.trans (HB.out.mono HB1.out.size)
      obtain ⟨hin, b, off, rfl, d0, d1, d2, d3, d4⟩ := (HS.out.below hBw) k x hx
      have hid : x.v.r.id.size ≤ maxLen := nm_max (HOK.out.ver x.v (by rw [← HLV.out]; exact List.mem_map_of_mem (List.mem_of_getElem? hx))).id
      have i1 : (0 : Int) ≤ (k : Int) := by omega
      have i2 : (k : Int) < (n : Int) := by omega
      have hbx := x.box_below wr
      have hN1 := HNM.out.below hbx
      have hN1d := hN1.below (Below.refl _ _).drew
      have hba : Below (x.box wr).heap.size (x.box wr) ((x.box wr).alloc (.cells #[.string x.v.r.id, .int .i64 x.v.r.cats, .slice x.p.fa x.v.r.fs.length x.p.fc, .slice x.p.ra x.v.r.rs.length x.p.rc, .bool x.v.gone] 55)).drew := ((Below.refl (x.box wr).heap.size (x.box wr)).alloc (Nat.le_refl _) _).drew
      have hN2 := hN1.below hba
      obtain ⟨Aq, cq, hVq⟩ := (HNM.out.row x.v.r.id).form
      have l1 := hN1d.look hid
      have l2 := hN2.look hid
      have hrow2 := hN2.row x.v.r.id
      rw [hVq] at l1 l2 hrow2
      have hql : (ofName (l.take k) x.v.r.id).length ≤ k := Nat.le_trans (ofName_len _ _) (by rw [List.length_take]; omega)
      obtain ⟨q, hq⟩ : ∃ q, ofName (l.take k) x.v.r.id = q := ⟨_, rfl⟩
      rw [hq] at l1 l2 hrow2 hVq hql
      have hrow0 := HNM.out.row x.v.r.id
      rw [hVq] at hrow0
      have HBX : Hid (∀ w5 : World, ((x.box wr).alloc (.cells #[.string x.v.r.id, .int .i64 x.v.r.cats, .slice x.p.fa x.v.r.fs.length x.p.fc, .slice x.p.ra x.v.r.rs.length x.p.rc, .bool x.v.gone] 55)).drew.grownBy w5 (Value.slice Aq q.length cq).ownBlock → w5.cell? ⟨wr.heap.size, 0, none⟩ = some (.string x.v.r.id)) := fun w5 hg => by
        have h1 : w5.heap[wr.heap.size]? = ((x.box wr).alloc (.cells #[.string x.v.r.id, .int .i64 x.v.r.cats, .slice x.p.fa x.v.r.fs.length x.p.fc, .slice x.p.ra x.v.r.rs.length x.p.rc, .bool x.v.gone] 55)).drew.heap[wr.heap.size]? := hg.block _ (by simp; omega) (fun e => by
          have := (World.ownsRow.lt hrow0 wr.heap.size e.symm).2
          omega)
        exact (World.cell?_of_block h1).trans (by simp [go_sem])
      have HROW := Lib.hid hrow2
      have HVQ := Lib.hid hVq
      have HQ := Lib.hid hq
      have HN2 := Lib.hid hN2
      have HNEW := Lib.hid (cell_five_new (x.box wr).drew x 55)
      have HTK := Lib.hid htk
      have HID := Lib.hid hid
      have hlow := HN2.out.lt
      have hBle : B ≤ ((x.box wr).alloc (.cells #[.string x.v.r.id, .int .i64 x.v.r.cats, .slice x.p.fa x.v.r.fs.length x.p.fc, .slice x.p.ra x.v.r.rs.length x.p.rc, .bool x.v.gone] 55)).drew.heap.size := by
        have := HB.out.size
        have h1 := HNM.out.mlt
        have h2 := HBZ.out
        simp at h2
        simp
        omega
      have HBLE := Lib.hid hBle
      have HKM : Hid (k < maxLen) := by show k < maxLen; unfold maxLen; omega
      have hq1 : q.length + 1 ≤ maxLen := by unfold maxLen; omega
      have hq2 : (q.length + 1) * 80 ≤ 140737488355328 := by omega
      have HQ1 := Lib.hid hq1
      have HQ2 := Lib.hid hq2
      have HBXB := Lib.hid hba
      clear hx htk hBw hin hid hbx hN1 hN1d hN2 hrow2 hrow0 hVq hq hlow hBle hq1 hq2 hql hba
      go_upto_region 8 with fail
      have HBX0 := Lib.hid (x.box_below wr)
      have HVL := Lib.hid (HN2.out.row x.v.r.id)
      go_region_law (refine step_append_lies _ rfl (.tmp 35) (.tmp 37) 45 rfl B 55 i0 _ 5 80 Tryz.underlying45 hi hz0 hz1 hz2 rfl (by decide) (.slice Aq q.length cq) q.length (cellsV q) (by simp [Act.eval, Act.put]) HROW.out ⟨(x.box wr).heap.size, 0, none⟩ 1 1 (cellsV [x]) (by simp [Act.eval, Act.put]) rfl HNEW.out (cellsV_one _) (by decide) HQ1.out HQ2.out HBLE.out _ rfl ?_; intro g cap w5 hown hgrow hat hlt5; obtain ⟨w6, V', hst, HN6, HG6⟩ := HN2.out.push HKM.out x HID.out HQ.out HVQ.out hown hgrow hat; have HGR := Lib.hid hgrow; have hb5 := HBX.out w5 hgrow; have HOWN := Lib.hid hown; clear hown hgrow hat)
      all_goals
        have HNC : Hid (Named w6 B w1.heap.size (k + 1) (l.take (k + 1)) V') := by
          show Named _ _ _ _ _ _
          rw [HTK.out]
          exact HN6.out
        have HBC : Hid (Below w1.heap.size w1 w6) := by
          refine ((HB.out.trans ((HBX0.out.trans (HBXB.out.mono HBX0.out.size)).mono HB.out.size)).grown HGR.out ?_ ?_).grown HG6.out ?_ ?_
          · exact Nat.le_trans HB.out.size (Nat.le_trans HBX0.out.size HBXB.out.size)
          · exact fun j hj => by have h1 := (World.ownsRow.lt HROW.out j hj).1; have h2 := HN2.out.lt; omega
          · exact Nat.le_trans (Nat.le_trans HB.out.size (Nat.le_trans HBX0.out.size HBXB.out.size)) HGR.out.size
          · exact fun j hj => by cases hj; exact Nat.le_refl _
        clear hst hb5 l1 l2 d0 d1 d2 d3 d4 HN6 HG6 HGR HOWN HROW HN2
        go_wp2_with fail
        go_roundw
        case rel => exact ⟨k + 1, V', by omega, by go_num, HNC.out, HBC.out⟩
        case measure => simp [intOf]; omega
    · obtain rfl : k = n := by omega
      have hm1 : m1 ≤ 5120 := by
        have h1 : ids.length = m1 := HIDL.out
        have h2 := idsV_len vs
        rw [HIDS.out.eqV] at h1
        have h3 := (stErr_ok.1 HST.out).1
        omega
      have hmk := make_recs m1 (by omega)
      have hall : l.take k = l := List.take_of_length_le (by rw [HLN.out]; exact Nat.le_refl _)
      have HNA : Hid (Named wr B w1.heap.size k l V) := by show Named _ _ _ _ _ _; rw [← hall]; exact HNM.out
      obtain ⟨g, hg⟩ : ∃ g, g = wr.heap.size := ⟨_, rfl⟩
      have HF0 := Lib.hid (fill_made wr m1 #[.string ⟨#[]⟩, .int .i64 0, .slice none 0 0, .slice none 0 0] rfl)
      have HG0 := Lib.hid hg
      have HBW := Lib.hid (HB1.out.trans (HB.out.mono HB1.out.size))
      obtain ⟨wb, hwb⟩ : ∃ wb, wb = wr := ⟨_, rfl⟩
      subst hwb
      rw [← hg] at HF0
      have HBA : Hid (Below wb.heap.size wb (wb.alloc (.cells (madeCells #[.string ⟨#[]⟩, .int .i64 0, .slice none 0 0, .slice none 0 0] (m1 * 4)) 35))) := (Below.refl _ _).alloc (Nat.le_refl _) _
      clear hall HNM hlt hk hmm
      go_wp2_with fail
      rw [← hg]
      clear hg
      go_loopw [45] (fun i wr => ∃ (j : Nat) (done : List RC), j ≤ m1 ∧ i = .int .i64 j ∧ done.length = j ∧ Hid (done.map (·.r) = (recs vs).take j) ∧ Hid (FillR g m1 done wr) ∧ Hid (Below wb.heap.size wb wr)) (fun i _ => m1 - (intOf i).toNat)
      case atStart => exact ⟨0, [], Nat.zero_le _, rfl, rfl, rfl, HF0.out, HBA.out⟩
      case round =>
        obtain ⟨j, done, hj, rfl, hdl, HD, HF, HBR⟩ := hrel
        by_cases hjm : j < m1
        · obtain ⟨id, hid⟩ : ∃ id, ids[j]? = some id := ⟨_, List.getElem?_eq_getElem (by rw [HIDL.out]; exact hjm)⟩
          obtain ⟨bi, oi, rfl, hc⟩ := (HSL.out.below (HB.out.trans (HBR.out.mono HB.out.size))) j id hid
          have hidm : id ∈ idsV vs := by rw [← HIDS.out.eqV]; exact List.mem_of_getElem? hid
          have hidn : id.size ≤ maxLen := by
            have h1 := (recV_ok HOK.out hidm).id
            rw [recV_id hidm] at h1
            exact nm_max h1
          have hrj : (recs vs)[j]? = some (recV vs id) := by
            unfold recs
            rw [List.getElem?_map, ← HIDS.out.eqV, hid]
            rfl
          have HRJ := Lib.hid hrj
          have i1 : (0 : Int) ≤ (j : Int) := by omega
          have i2 : (j : Int) < (m1 : Int) := by omega
          have hN := HNA.out.below HBR.out
          have l1 := hN.look hidn
          obtain ⟨Aq, cq, hVq⟩ := (hN.row id).form
          have hrow := hN.row id
          rw [hVq] at l1 hrow
          have hin : ∀ x ∈ ofName l id, x.in_ wr := fun x hx => by
            obtain ⟨q, hq⟩ := List.getElem?_of_mem (ofName_mem hx)
            exact ((HS.out.below (HBW.out.trans (HBR.out.mono HBW.out.size))) q x hq).1
          have hva : VsAt wr Aq (ofName l id).length (hist vs id) := ⟨ofName l id, by rw [ofName_hist, HLV.out], rfl, (hrow.sl hin).1⟩
          obtain ⟨g1, g2⟩ := recV_get (l := vs) HST.out hidm
          have hgh : getErr (hist vs id) id = 0 ∧ getR (hist vs id) id = recV vs id := by
            obtain ⟨u, hu⟩ := mem_idsV.1 hidm
            rw [recV_some hu]
            exact get_some (stErr_hist HST.out id) (by rw [getV_hist]; exact hu)
          have HGET := Lib.hid (get_fine cq id wr hva (stErr_hist HST.out id) hgh.2 hgh.1)
          obtain ⟨R, hR⟩ : ∃ R, recV vs id = R := ⟨_, rfl⟩
          rw [hR] at HGET HRJ
          obtain ⟨qn, hqn⟩ : ∃ qn, (ofName l id).length = qn := ⟨_, rfl⟩
          rw [hqn] at HGET l1
          clear hid hidm hidn hrj hN hrow hVq hin hva g1 g2 hgh hR hqn
          go_wp2_with fail
          refine HGET.out.mono ?_
          rintro e w5 ⟨p, rfl, hnr, hb5⟩
          have hgl := HF.out.lt
          have HF5 := Lib.hid (HF.out.below hb5)
          have HNR := Lib.hid (hnr.low (show g + 1 ≤ wr.heap.size by omega))
          have HB5 := Lib.hid (HBR.out.trans (hb5.mono HBR.out.size))
          obtain ⟨v0, k0⟩ := HF5.out.is (j * 4) (by omega)
          obtain ⟨v1, k1⟩ := HF5.out.is (j * 4 + 1) (by omega)
          obtain ⟨v2, k2⟩ := HF5.out.is (j * 4 + 2) (by omega)
          obtain ⟨v3, k3⟩ := HF5.out.is (j * 4 + 3) (by omega)
          have f0 := HF5.out.fz (j * 4)
          have f1 := HF5.out.fz (j * 4 + 1)
          have f2 := HF5.out.fz (j * 4 + 2)
          have f3 := HF5.out.fz (j * 4 + 3)
          have hFP := HF5.out.put hdl hjm HNR.out
          have HFP := Lib.hid hFP
          have hgw : wb.heap.size ≤ g := by rw [HG0.out]; exact Nat.le_refl _
          have HGW := Lib.hid hgw
          clear hnr hb5 hFP HGET l1 hc hgw
          go_wp2_with fail
          go_roundw
          case rel =>
            refine ⟨j + 1, done ++ [(⟨R, p⟩ : RC)], by omega, by go_num, by simp [hdl], (show _ = _ by rw [List.map_append, HD.out, List.take_add_one, HRJ.out]; rfl), HFP, ?_⟩
            exact (((HB5.out.setCell HGW.out _).setCell HGW.out _).setCell HGW.out _).setCell HGW.out _
          case measure => simp [intOf]; omega
        · obtain rfl : j = m1 := by omega
          have hrl : (recs vs).length = j := by rw [recs_len, ← HIDS.out.eqV]; exact HIDL.out
          have HRL := Lib.hid hrl
          have HDL := Lib.hid hdl
          clear hrl hjm hmk hdl
          go_wp2_with fail
          go_ret2
          refine ⟨some ⟨g, 0, none⟩, done, j, ?_, ?_, HF.out.sl, by rw [HDL.out]; exact hm1, HBW.out.trans (HBR.out.mono HBW.out.size)⟩
          · rw [HDL.out]; rfl
          · have := HD.out
            rwa [List.take_of_length_le (by rw [HRL.out]; exact Nat.le_refl _)] at this
end Go.Proofs.YteimdhkajbldjaaGreat
