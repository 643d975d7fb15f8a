/- IndexNotes' walk. -/
import Derived.Test.YtodlabohijabnaaDoorIxB
import Derived.Test.YtodlabohijabnaaDoorSFine
set_option linter.unusedVariables false
set_option linter.unusedSimpArgs false
set_option maxRecDepth 100000
namespace Go.Proofs.YtodlabohijabnaaDoor
open Go.RowKit Go.Sort Go.Maps

theorem VsAt.take {w : World} {a : Option Addr} {n : Nat} {vs : List VerL} (h : VsAt w a n vs) {k : Nat} (hk : k ≤ n) : VsAt w a k (vs.take k) := by
  obtain ⟨l, rfl, rfl, h3⟩ := h
  refine ⟨l.take k, by rw [List.map_take], by rw [List.length_take]; omega, fun j x hx => ?_⟩
  rw [List.getElem?_take] at hx
  split at hx
  · exact h3 j x hx
  · cases hx
theorem stErr_take {vs : List VerL} (h : stErr vs = 0) (k : Nat) : stErr (vs.take k) = 0 := by
  obtain ⟨h1, h2⟩ := stErr_ok.1 h
  exact stErr_ok.2 ⟨by rw [List.length_take]; omega, h2.take k⟩
theorem newX_nil : newX [] = fun _ => [] := by
  funext f
  have := newX_len [] f
  exact List.eq_nil_of_length_eq_zero (Nat.le_zero.1 this)
theorem total_nil : total (newX []) = 0 := by
  have hl : Lists (newX []) [] := ⟨List.nodup_nil, fun f => by rw [newX_nil]; simp⟩
  rw [hl.total]
  rfl
theorem wrap_succ {k : Nat} (h : k ≤ 100000) : wrap64 ((k : Int) + 1) = ((k + 1 : Nat) : Int) := by unfold wrap64; omega
theorem st_nil : stErr [] = 0 := stErr_ok.2 ⟨by simp, stOk_nil⟩
theorem at_nil (w : World) (a : Option Addr) : VsAt w a 0 [] := ⟨[], rfl, rfl, fun k x h => by simp at h⟩

set_option maxHeartbeats 2000000 in
theorem indexNotes_walk (a : Option Addr) (c : Nat) (g : List RowI) (w : World) (hs : SlG w a g) (hl : g.length ≤ c) (hm : c ≤ maxLen) :
    Calls Tryd.prog 8 #[.slice a g.length c] w fun e w' => e = .returned (.bool true) ∧ Below w.heap.size w w' := by
  have HS := Lib.hid hs
  have HL := Lib.hid hl
  have HM := Lib.hid hm
  obtain ⟨gl, hgl⟩ : ∃ gl, g.length = gl := ⟨_, rfl⟩
  have HGL := Lib.hid hgl
  rw [hgl]
  clear hs hl hm hgl
  go_enter Tryd.func8, Tryd.ntmps8
  go_wp2_with fail
  refine (begun_is _).mono ?_
  rintro e w2 ⟨rfl, hb2⟩
  have HB2 := Lib.hid hb2
  have HG := Lib.hid (grown_is a g c w2 (HS.out.below HB2.out) HL.out HM.out)
  rw [HGL.out] at HG
  clear hb2
  go_wp2_with fail
  refine HG.out.mono ?_
  rintro e w3 ⟨vs, A, m, c3, rfl, hok, hnw, hb3⟩
  have HST := Lib.hid (hok.fine (by omega))
  have HV := Lib.hid hnw.at_
  have hmc := hnw.at_.len
  have hv15 := hok.len
  obtain ⟨hcap1, hcap2⟩ := hnw.cap
  have hm15 : m ≤ 15 := by omega
  have HMC := Lib.hid hmc
  have HB3 := Lib.hid (HB2.out.trans (hb3.mono HB2.out.size))
  have HNEW := Lib.hid (new_ok 0 w3 (at_nil w3 none) st_nil)
  clear hok hnw hb3 HG hmc
  go_wp2_with fail
  refine HNEW.out.mono ?_
  rintro e w4 ⟨p, rfl, hidx, hb4⟩
  have HI4 := Lib.hid hidx
  have HB34 := Lib.hid hb4
  obtain ⟨S, hS⟩ : ∃ S, S = w3.heap.size := ⟨_, rfl⟩
  have HC0 := Lib.hid (idxCount_is (N := 0) w4 HI4.out (newX_nice []).fin total_nil (by omega))
  rw [← hS] at HI4 HB34
  have HSE := Lib.hid hS
  clear hidx hb4 HNEW hS
  go_wp2_with fail
  refine HC0.out.mono ?_
  rintro e w5 ⟨rfl, hb5⟩
  have HI5 := Lib.hid (HI4.out.below hb5)
  have HB35 : Hid (Below S w3 w5) := HB34.out.trans (hb5.mono (by rw [HSE.out]; exact HB34.out.size))
  clear hb5 HC0 HI4 HB34
  go_wp2_with fail
  go_loopw [34] (fun i wr => ∃ k : Nat, k ≤ m ∧ i = .int .i64 k ∧ Hid (Idx wr S p (40000 + 12 * k) (newX (vs.take k))) ∧ Hid (Below S w3 wr)) (fun i _ => m - (intOf i).toNat)
  case atStart => exact ⟨0, Nat.zero_le _, rfl, HI5.out, HB35.out⟩
  case round =>
    obtain ⟨k, hk, rfl, HI, HB⟩ := hrel
    have hbw : Below w3.heap.size w3 wr := by rw [← HSE.out]; exact HB.out
    have hvr := HV.out.below hbw
    by_cases hlt : k < m
    · obtain ⟨l, hlv, hln, hsw⟩ := hvr
      obtain ⟨x, hx⟩ : ∃ x, l[k]? = some x := ⟨_, List.getElem?_eq_getElem (by rw [hln]; exact hlt)⟩
      obtain ⟨hin, b, off, rfl, d0, d1, d2, d3, d4⟩ := hsw k x hx
      have hxv : vs[k]? = some x.v := by rw [← hlv, List.getElem?_map, hx]; rfl
      have htk : vs.take (k + 1) = vs.take k ++ [x.v] := take_snoc hxv
      have hSw : S ≤ wr.heap.size := by rw [HSE.out]; exact hbw.size
      have i1 : (0 : Int) ≤ (k : Int) := by omega
      have i2 : (k : Int) < (m : Int) := by omega
      obtain ⟨W6, hW6⟩ : ∃ W6, W6 = wr.alloc (.cells #[.string x.v.r.id, .int .i64 x.v.r.cats, .slice x.p.fa x.v.r.fs.length x.p.fc, .slice x.p.ra x.v.r.rs.length x.p.rc, .bool x.v.gone] 34) := ⟨_, rfl⟩
      have hb6 : Below wr.heap.size wr W6 := by rw [hW6]; exact x.box_below wr
      have hs6 : W6.heap.size = wr.heap.size + 1 := by rw [hW6]; simp
      have e0 : W6.cell? ⟨wr.heap.size, 0, none⟩ = some (.string x.v.r.id) := by rw [hW6]; simp [go_sem]
      obtain ⟨Z, hZ⟩ : ∃ Z : Nat → Prop, Z = fun z => z < S ∨ z = wr.heap.size := ⟨_, rfl⟩
      have hA6 : IdxA W6 S p (40000 + 12 * k) Z (newX (vs.take k)) := ((HI.out.with).below hb6).sub fun z h => by rw [hZ] at h; rcases h with h | h; exact .inl h; exact .inr (by omega)
      have hzl : ∀ z, Z z → z < W6.heap.size := fun z h => by rw [hZ] at h; rcases h with h | h <;> omega
      have hzb : Z wr.heap.size := by rw [hZ]; exact .inr rfl
      have hzs : ∀ z, z < S → Z z := fun z h => by rw [hZ]; exact .inl h
      have hst1 := stErr_take HST.out (k + 1)
      have hlen0 : ∀ j f, (newX (vs.take j) f).length ≤ 15 := fun j f => Nat.le_trans (newX_len _ f) (by rw [List.length_take]; omega)
      obtain ⟨u, hu⟩ : ∃ u, vs.take (k + 1) = u := ⟨_, rfl⟩
      have hvu6 : VsAt W6 (some ⟨b, off, none⟩) (k + 1) u := by rw [← hu]; exact (((HV.out.below hbw).take (by omega)).below hb6)
      have hN := note_ok c3 x.v.r.id W6 hA6 hzl hvu6 (by rw [← hu]; exact hst1) (fun f => byL_asc _ f) (fun f => Nat.le_trans (hlen0 k f) (by omega)) (by omega)
      have hstep : noteX (newX (vs.take k)) (fsOf u x.v.r.id) x.v.r.id = newX u := by rw [← hu, htk]; exact note_step _ _
      rw [hstep] at hN
      have HN := Lib.hid hN
      have HE0 := Lib.hid e0
      have HU := Lib.hid hu
      have HSU : Hid (stErr u = 0) := by show _ = _; rw [← hu]; exact hst1
      have HUL : Hid (∀ f, (newX u f).length ≤ 15) := fun f => by rw [← hu]; exact hlen0 (k + 1) f
      have HVW : Hid (∀ wx, Below S w3 wx → VsAt wx (some ⟨b, off, none⟩) (k + 1) u) := fun wx hx => by rw [← hu]; exact (HV.out.below (by rw [← HSE.out]; exact hx)).take (by omega)
      have HZL := Lib.hid hzl
      have HZB := Lib.hid hzb
      have HZS := Lib.hid hzs
      have HW6 := Lib.hid hW6
      have HB6 : Hid (Below S w3 W6) := HB.out.trans (hb6.mono hSw)
      have HSW : Hid (S ≤ W6.heap.size) := Nat.le_trans hSw hb6.size
      have hvb : b < S := by
        rw [HSE.out]
        obtain ⟨l0, h1, h2, h3⟩ := HV.out
        obtain ⟨x0, hx0⟩ : ∃ x0, l0[k]? = some x0 := ⟨_, List.getElem?_eq_getElem (by rw [h2]; exact hlt)⟩
        obtain ⟨_, b', o', e', c', _⟩ := h3 k x0 hx0
        cases e'
        exact cell_lt c'
      have hkc : k + 1 ≤ c3 := by omega
      have hsl1 : (0 : Int) ≤ ((k + 1 : Nat) : Int) := Int.natCast_nonneg _
      have hsl2 : ((k + 1 : Nat) : Int) ≤ (c3 : Int) := Int.ofNat_le.2 hkc
      have hw1 := wrap_succ (show k ≤ 100000 by omega)
      clear hlv hln hsw hx hin hxv htk hSw hb6 hs6 e0 hZ hA6 hzl hzb hzs hst1 hlen0 hu hvu6 hN hstep hW6 hvb hbw
      go_wp2_with fail
      rw [← HW6.out]
      clear hw1 hsl1 hsl2
      refine HN.out.mono ?_
      rintro e w7 ⟨rfl, hidx, hkp⟩
      have e7 := hkp.cell HZB.out HE0.out
      have HE7 := Lib.hid e7
      have HI7 := Lib.hid hidx
      have HK7 := Lib.hid hkp
      have HB7 : Hid (Below S w3 w7) := HB6.out.trans (hkp.to HZS.out HSW.out)
      obtain ⟨fs, hfs, hfl⟩ := lists_ex_new HSU.out
      obtain ⟨N, hTN⟩ : ∃ N, total (newX u) = N := ⟨_, rfl⟩
      have hNb : N ≤ 1000000000 := by rw [← hTN]; exact total_new HSU.out
      have HFS := Lib.hid hfs
      have HTN := Lib.hid hTN
      have HNB := Lib.hid hNb
      have HC1 := Lib.hid (idxCount_is w7 HI7.out.idx ⟨fs, HFS.out⟩ HTN.out HNB.out)
      clear hidx hkp HN hfs hfl hTN hNb e7
      go_wp2_with fail
      refine HC1.out.mono ?_
      rintro e w8 ⟨rfl, hb8⟩
      have HI8 := Lib.hid (HI7.out.below hb8)
      have HE8 := Lib.hid ((hb8.cell (p := ⟨wr.heap.size, 0, none⟩) (cell_lt HE7.out)).trans HE7.out)
      have HS8 : Hid (W6.heap.size ≤ w8.heap.size) := Nat.le_trans HK7.out.size hb8.size
      have HB8 : Hid (Below S w3 w8) := HB7.out.trans (hb8.mono (Nat.le_trans HSW.out HK7.out.size))
      have HSM := Lib.hid (same_ok c3 w8 HI8.out.idx (HVW.out w8 HB8.out) HSU.out (fun f => Nat.le_trans (HUL.out f) (by omega)))
      clear hb8 HC1
      go_wp2_with fail
      refine HSM.out.mono ?_
      rintro e w9 ⟨rfl, hb9⟩
      have HI9 := Lib.hid (HI8.out.below hb9)
      have e9 := (hb9.cell (p := ⟨wr.heap.size, 0, none⟩) (cell_lt HE8.out)).trans HE8.out
      have HS9 : Hid (W6.heap.size ≤ w9.heap.size) := Nat.le_trans HS8.out hb9.size
      have HB9 : Hid (Below S w3 w9) := HB8.out.trans (hb9.mono (Nat.le_trans HSW.out HS8.out))
      have hN := note_ok c3 x.v.r.id w9 HI9.out (fun z h => Nat.lt_of_lt_of_le (HZL.out z h) HS9.out) (HVW.out w9 HB9.out) HSU.out (fun f => byL_asc _ f) (fun f => Nat.le_trans (HUL.out f) (by omega)) (by omega)
      rw [note_twice] at hN
      have HN := Lib.hid hN
      clear hb9 HSM hN
      go_wp2_with fail
      refine HN.out.mono ?_
      rintro e w10 ⟨rfl, hidx, hkp⟩
      have HI10 := Lib.hid hidx.idx
      have HB10 : Hid (Below S w3 w10) := HB9.out.trans (hkp.to HZS.out (Nat.le_trans HSW.out HS9.out))
      have HC2 := Lib.hid (idxCount_is w10 HI10.out ⟨fs, HFS.out⟩ HTN.out HNB.out)
      have hS10 : S ≤ w10.heap.size := Nat.le_trans (Nat.le_trans HSW.out HS9.out) hkp.size
      have HS10 := Lib.hid hS10
      clear hidx hkp HN e9 hS10
      go_wp2_with fail
      refine HC2.out.mono ?_
      rintro e w11 ⟨rfl, hb11⟩
      have HI11 := Lib.hid (HI10.out.below hb11)
      have HB11 : Hid (Below S w3 w11) := HB10.out.trans (hb11.mono HS10.out)
      clear hb11 HC2 d0 d1 d2 d3 d4
      go_wp2_with fail
      go_roundw
      case rel => exact ⟨k + 1, by omega, by go_num, (by show Idx _ _ _ _ _; rw [HU.out]; exact HI11.out.mono (by omega)), HB11.out⟩
      case measure => simp [intOf]; omega
    · obtain rfl : k = m := by omega
      have hall : vs.take k = vs := List.take_of_length_le (by have := HMC.out; omega)
      have HIE : Hid (Idx wr S p (40000 + 12 * k) (newX vs)) := by show Idx _ _ _ _ _; rw [← hall]; exact HI.out
      have HSM := Lib.hid (same_ok c3 wr HIE.out hvr HST.out (fun f => Nat.le_trans (newX_len vs f) (by have := HMC.out; omega)))
      have HBE : Hid (Below w.heap.size w wr) := HB3.out.trans (HB.out.mono (by rw [HSE.out]; exact HB3.out.size))
      clear hall HI hvr hbw
      go_wp2_with fail
      (with_reducible refine HSM.out.mono ?_)
      rintro e w7 ⟨rfl, hb7⟩
      have HB7 := Lib.hid (HBE.out.trans (hb7.mono HBE.out.size))
      clear hb7 HSM
      go_wp2_with fail
      go_ret
      exact ⟨rfl, HB7.out⟩
end Go.Proofs.YtodlabohijabnaaDoor
