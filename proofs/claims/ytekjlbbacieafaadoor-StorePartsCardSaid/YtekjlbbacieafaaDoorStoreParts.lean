/- StoreParts' walk. -/
import Derived.Test.YtekjlbbacieafaaDoorSFine
set_option linter.unusedVariables false
set_option linter.unusedSimpArgs false
set_option maxRecDepth 100000
namespace Go.Proofs.YtekjlbbacieafaaDoor
open Go.RowKit Go.Sort

set_option maxHeartbeats 4000000 in
theorem storeParts_walk (a : Option Addr) (c : Nat) (g : List RowI) (x y : Int) (w : World) (hs : SlG w a g) (hl : g.length ≤ c) (hm : c ≤ maxLen) :
    Calls Tryd.prog 5 #[.slice a g.length c, .int .i64 x, .int .i64 y] w fun e w' => e = .returned (.bool true) ∧ Below w.heap.size w w' := by
  have HS := Lib.hid hs
  have HL := Lib.hid hl
  have HM := Lib.hid hm
  obtain ⟨s, hx⟩ : ∃ s, s = mk8 x := ⟨_, rfl⟩
  obtain ⟨t, hy⟩ : ∃ t, t = mk8 y := ⟨_, rfl⟩
  have hs8 : s ≤ 255 := by rw [hx]; exact mk8_le x
  have ht8 : t ≤ 255 := by rw [hy]; exact mk8_le y
  have hmx : bits .and .i64 x 255 = (s : Int) := by rw [hx]; exact mk8_eq x
  have hmy : bits .and .i64 y 255 = (t : Int) := by rw [hy]; exact mk8_eq y
  obtain ⟨d, hd⟩ : ∃ d, d = s &&& t := ⟨_, rfl⟩
  obtain ⟨o, ho⟩ : ∃ o, o = s ||| t := ⟨_, rfl⟩
  have hmd : bits .and .i64 (s : Int) (t : Int) = (d : Int) := by rw [hd]; exact i64_and s t (by omega) (by omega)
  have hmo : bits .or .i64 (s : Int) (t : Int) = (o : Int) := by rw [ho]; exact i64_or s t (by omega) (by omega)
  have hd8 : d ≤ 255 := by rw [hd]; exact Nat.le_trans Nat.and_le_left hs8
  have ho8 : o ≤ 255 := by rw [ho]; exact or_le255 hs8 ht8
  have HD := Lib.hid hd
  have HO := Lib.hid ho
  obtain ⟨gl, hgl⟩ : ∃ gl, g.length = gl := ⟨_, rfl⟩
  have HGL := Lib.hid hgl
  rw [hgl]
  clear hs hl hm hx hy hd ho hgl
  go_enter Tryd.func5, Tryd.ntmps5
  go_wp2_with fail
  refine (begun_is _).mono ?_
  rintro e w1 ⟨rfl, hb1⟩
  have HB1 := Lib.hid hb1
  clear hb1
  have HG := Lib.hid (grown_is a g c w1 (HS.out.below HB1.out) HL.out HM.out)
  rw [HGL.out] at HG
  go_wp2_with fail
  refine HG.out.mono ?_
  rintro e w2 ⟨vs, A, m, c', rfl, hok, hnw, hb2⟩
  have HOK := Lib.hid hok.ok
  have HST := Lib.hid (hok.fine (by omega))
  have HV2 := Lib.hid hnw.at_
  have HB2 := Lib.hid (HB1.out.trans (hb2.mono HB1.out.size))
  clear hok hnw hb2 HG
  go_wp2_with fail
  refine (part_is c' s _ HV2.out HST.out hs8).mono ?_
  rintro e w3 ⟨A1, m1, c1, rfl, hnw, hb⟩
  have HP1 := Lib.hid (stErr_prt HST.out s)
  have HX := Lib.hid hnw.at_
  have HV3 := Lib.hid (HV2.out.below hb)
  have HB3 := Lib.hid (HB2.out.trans (hb.mono HB2.out.size))
  clear hnw hb
  go_wp2_with fail
  refine (part_is c1 t _ HX.out HP1.out ht8).mono ?_
  rintro e w4 ⟨A2, m2, c2, rfl, hnw, hb⟩
  have HXY := Lib.hid hnw.at_
  have HV4 := Lib.hid (HV3.out.below hb)
  have HX4 := Lib.hid (HX.out.below hb)
  have HB4 := Lib.hid (HB3.out.trans (hb.mono HB3.out.size))
  clear hnw hb
  go_wp2_with fail
  refine (part_is c' d _ HV4.out HST.out hd8).mono ?_
  rintro e w5 ⟨A3, m3, c3, rfl, hnw, hb⟩
  have HY := Lib.hid hnw.at_
  have HV5 := Lib.hid (HV4.out.below hb)
  have HX5 := Lib.hid (HX4.out.below hb)
  have HXY5 := Lib.hid (HXY.out.below hb)
  have HB5 := Lib.hid (HB4.out.trans (hb.mono HB4.out.size))
  clear hnw hb
  go_wp2_with fail
  refine (part_is c' 255 _ HV5.out HST.out (Nat.le_refl _)).mono ?_
  rintro e w6 ⟨A4, m4, c4, rfl, hnw, hb⟩
  have HA := Lib.hid hnw.at_
  have HV6 := Lib.hid (HV5.out.below hb)
  have HX6 := Lib.hid (HX5.out.below hb)
  have HXY6 := Lib.hid (HXY5.out.below hb)
  have HY6 := Lib.hid (HY.out.below hb)
  have HB6 := Lib.hid (HB5.out.trans (hb.mono HB5.out.size))
  clear hnw hb
  go_wp2_with fail
  refine (part_is c' o _ HV6.out HST.out ho8).mono ?_
  rintro e w7 ⟨A5, m5, c5, rfl, hnw, hb⟩
  have HMO := Lib.hid hnw.at_
  have HPO := Lib.hid (stErr_prt HST.out o)
  have HV7 := Lib.hid (HV6.out.below hb)
  have HX7 := Lib.hid (HX6.out.below hb)
  have HXY7 := Lib.hid (HXY6.out.below hb)
  have HY7 := Lib.hid (HY6.out.below hb)
  have HA7 := Lib.hid (HA.out.below hb)
  have HB7 := Lib.hid (HB6.out.trans (hb.mono HB6.out.size))
  clear hnw hb
  go_wp2_with fail
  refine (part_is c5 s _ HMO.out HPO.out hs8).mono ?_
  rintro e w8 ⟨A6, m6, c6, rfl, hnw, hb⟩
  have HBK := Lib.hid hnw.at_
  have HV8 := Lib.hid (HV7.out.below hb)
  have HX8 := Lib.hid (HX7.out.below hb)
  have HXY8 := Lib.hid (HXY7.out.below hb)
  have HY8 := Lib.hid (HY7.out.below hb)
  have HA8 := Lib.hid (HA7.out.below hb)
  have HB8 := Lib.hid (HB7.out.trans (hb.mono HB7.out.size))
  have hm15 : (m1 : Int) ≤ (m5 : Int) := by
    have e1 := HX.out.len
    have e2 := HMO.out.len
    have e3 := prt_more HOK.out hs8 ht8
    rw [← HO.out] at e3
    omega
  clear hnw hb HV2 HV3 HV4 HV5 HV6 HV7 HX HX4 HX5 HX6 HX7 HXY HXY5 HXY6 HXY7 HY HY6 HY7 HA HA7 HMO HB1 HB2 HB3 HB4 HB5 HB6 HB7
  go_wp2_with fail
  go_loopw [77] (fun i wr => ∃ k : Nat, k ≤ 6 ∧ i = .int .i64 k ∧ Hid (∀ j, j < 6 → wr.cell? ⟨w8.heap.size, j, none⟩ = some (.int .i64 0)) ∧ Hid (Below w8.heap.size w8 wr)) (fun i _ => 6 - (intOf i).toNat)
  case atStart =>
    refine ⟨0, by omega, rfl, fun j hj => ?_, (Below.refl _ _).alloc (Nat.le_refl _) _⟩
    match j, hj with
    | 0, _ => simp [go_sem]
    | 1, _ => simp [go_sem]
    | 2, _ => simp [go_sem]
    | 3, _ => simp [go_sem]
    | 4, _ => simp [go_sem]
    | 5, _ => simp [go_sem]
  case round =>
    obtain ⟨k, hk, rfl, HC, HB⟩ := hrel
    by_cases hlt : k < 6
    · have hc := HC.out k hlt
      have i1 : (0 : Int) ≤ (k : Int) := by omega
      have i2 : (k : Int) < 6 := by omega
      go_wp2_with fail
      go_roundw
      case rel => exact ⟨k + 1, by omega, by go_num, HC.out, HB.out⟩
      case measure => simp [intOf]; omega
    · obtain rfl : k = 6 := by omega
      have HB9 := Lib.hid (HB8.out.trans (HB.out.mono HB8.out.size))
      have HBE := Lib.hid HB.out
      clear HB HC
      go_wp2_with fail
      refine (alike_is (b := true) c2 c3 _ (HXY8.out.below HBE.out) (HY8.out.below HBE.out) (stErr_prt HP1.out t) (stErr_prt HST.out d) (by rw [HD.out, decide_eq_true_eq]; exact prt_prt HOK.out hs8 ht8)).mono ?_
      rintro e w9 ⟨rfl, hb9⟩
      have HBF := Lib.hid (HBE.out.trans (hb9.mono HBE.out.size))
      clear hb9
      go_wp2_with fail
      refine (alike_is (b := true) c4 c' _ (HA8.out.below HBF.out) (HV8.out.below HBF.out) (stErr_prt HST.out 255) HST.out (by rw [decide_eq_true_eq]; exact prt_all HOK.out)).mono ?_
      rintro e w10 ⟨rfl, hb9⟩
      have HBG := Lib.hid (HBF.out.trans (hb9.mono HBF.out.size))
      clear hb9
      go_wp2_with fail
      refine (alike_is (b := true) c6 c1 _ (HBK.out.below HBG.out) (HX8.out.below HBG.out) (stErr_prt HPO.out s) HP1.out (by rw [HO.out, decide_eq_true_eq]; exact prt_back HOK.out hs8 ht8)).mono ?_
      rintro e w11 ⟨rfl, hb9⟩
      have HBH := Lib.hid (HBG.out.trans (hb9.mono HBG.out.size))
      clear hb9
      go_wp2_with fail
      refine (checks_is c1 _ (HX8.out.below HBH.out) (by have := HX8.out.len; have := (stErr_ok.1 HP1.out).1; unfold maxLen; omega) HP1.out).mono ?_
      rintro e w12 ⟨rfl, hb9⟩
      have HBI := Lib.hid (HB8.out.trans ((HBH.out.trans (hb9.mono HBH.out.size)).mono HB8.out.size))
      clear hb9
      go_wp2_with fail
      go_ret
      exact ⟨rfl, HBI.out⟩
end Go.Proofs.YtekjlbbacieafaaDoor
