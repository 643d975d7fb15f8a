/- LogAll: a log is read as it was written; one that is cut off anywhere says what its whole lines say: the walk. -/
import Derived.Test.YtbchfodmdgogjaaGreatDoorLWrtn
import Derived.Test.YtbchfodmdgogjaaGreatDoorLAll
import Derived.Test.YtbchfodmdgogjaaGreatDoorLLit
import Derived.Test.YtbchfodmdgogjaaGreatDoorSWithin
set_option linter.unusedVariables false
set_option linter.unusedSimpArgs false
set_option maxRecDepth 100000
namespace Go.Proofs.YtbchfodmdgogjaaGreatDoor
open Go.RowKit Go.Sort

theorem contains_no {s : ByteArray} {c : UInt8} (w : World) (h : c ∉ s.data.toList) :
    Calls Tryz.prog 20 #[.string s, .string ⟨#[c]⟩] w fun e w' => e = .returned (.bool false) ∧ w' = w := by
  refine (Any.strings_Contains_one Tryz.lays144 s c w).mono fun e w' h2 => ⟨?_, h2.2⟩
  rw [h2.1, ix_miss h]
  rfl
theorem count_is {s : ByteArray} {c : UInt8} {n : Nat} (w : World) (h : s.data.toList.count c = n) :
    Calls Tryz.prog 21 #[.string s, .string ⟨#[c]⟩] w fun e w' => e = .returned (.int .i64 (n : Int)) ∧ w' = w := h ▸ Any.strings_Count_one Tryz.lays138 s c w
theorem ru_in (w : World) : (opRules []).in_ ⟨none, 0, At.none⟩ w := ⟨fun k hk => absurd hk (Nat.not_lt_zero k), Nat.le_refl _, Nat.zero_le _, ⟨SlF.nil _ _, SlS.nil _ _, Nat.le_refl _, Nat.le_refl _, Nat.zero_le _, Nat.zero_le _⟩, ⟨Nat.zero_le _, fun f h => (by cases h), fun s h => (by cases h)⟩, ⟨Nat.zero_le _, Nat.zero_le _⟩⟩
theorem SlO.take {w : World} {a : Option Addr} {l : List OO} (h : SlO w a l) (n : Nat) : SlO w a (l.take n) := fun k x hk => h k x (by
  rw [List.getElem?_take] at hk
  split at hk
  · exact hk
  · cases hk)

set_option maxHeartbeats 4000000 in
theorem logAll_walk (a : Option Addr) (cap : Nat) (l : List OO) (cut : Int) (w : World) (hE : Env w) (hs : SlO w a l) (hl : l.length ≤ cap) (hm : cap ≤ maxLen) :
    Calls Tryz.prog 6 #[.slice a l.length cap, .int .i64 cut] w fun e w' => e = .returned (.bool true) ∧ Below w.heap.size w w' := by
  have HE := Lib.hid hE
  have HS := Lib.hid hs
  obtain ⟨N, hN⟩ : ∃ N, l.length = N := ⟨_, rfl⟩
  rw [hN] at hl ⊢
  have HN := Lib.hid hN
  have HNM := Lib.hid (Nat.le_trans hl hm)
  have l0 : ((⟨#[114, 117, 108, 101, 115, 32, 61, 49, 54, 53, 49, 10]⟩ : ByteArray).toList == (⟨#[114, 117, 108, 101, 115, 32, 61, 49, 54, 53, 49, 10]⟩ : ByteArray).toList) = true := by simp
  clear hE hs hN hl hm
  go_enter Tryz.func6, Tryz.ntmps6
  go_wp2_with fail
  refine (logWrite_is (opRules []) ⟨none, 0, At.none⟩ w HE.out (ru_in w) ru_wr ru_err).mono ?_
  rintro e w1 ⟨rfl, hb1⟩
  have HB1 := Lib.hid hb1
  clear hb1
  go_wp2_with fail
  refine (written_any a l N cap w1 (HE.out.below HB1.out) (HS.out.below HB1.out) HN.out HNM.out).mono ?_
  rintro e w2 ⟨M, L, n, A, c, rfl, hLM, hLn, hMe, hMl, hO, hb2⟩
  have HB2 := Lib.hid (HB1.out.trans (hb2.mono HB1.out.size))
  obtain ⟨S, hS⟩ : ∃ S, bs (logText M) = S := ⟨_, rfl⟩
  rw [hS]
  have hSd : S.data.toList = logText M := by rw [← hS, data_bs]
  have hSz : S.size = (logText M).length := by rw [← hS, bs_size]
  have hS2 : S.size ≤ 20000 := by rw [hSz]; exact hMl
  have hall : AllTo S.data.toList (.ok (M.map OpL.plain, S.size)) := by
    rw [hSd, hSz]
    exact all_log hMe
  have HALL := Lib.hid (logAll_short S _ w2 (HE.out.below HB2.out) hS2 hall)
  have HSD := Lib.hid hSd
  have HSZ := Lib.hid hSz
  have HS2 := Lib.hid hS2
  have HLM := Lib.hid hLM
  have HLN := Lib.hid hLn
  have HME := Lib.hid hMe
  have HO := Lib.hid hO
  clear hb2 hS hSd hSz hS2 hall hLM hLn hMe hMl hO l0
  go_wp2_with fail
  refine HALL.out.mono ?_
  rintro e w3 ⟨hb3, L1, n1, A1, c1, rfl, h1o, h1n, h1O⟩
  have HB3 := Lib.hid (HB2.out.trans (hb3.mono HB2.out.size))
  have HO3 := Lib.hid (HO.out.below hb3)
  have HEQ := Lib.hid (eqOps_yes A1 A L1 L n1 n c1 c w3 h1O.slo.1 HO3.out.slo.1 h1n HLN.out (by have := h1O.slo; omega) (h1o.trans HLM.out.symm))
  clear hb3 h1o h1n h1O HALL
  go_wp2_with fail
  refine HEQ.out.mono ?_
  rintro e w4 ⟨rfl, hb4⟩
  have HB4 := Lib.hid (HB3.out.trans (hb4.mono HB3.out.size))
  have HO4 := Lib.hid (HO3.out.below hb4)
  obtain ⟨K, hK⟩ : ∃ K : Nat, K = S.size + 1 := ⟨_, rfl⟩
  have hw : wrap64 ((S.size : Int) + 1) = (K : Int) := by
    have := HS2.out
    unfold wrap64
    omega
  obtain ⟨C, hC⟩ : ∃ C, wit cut K = C := ⟨_, rfl⟩
  have hC2 : C ≤ S.size := by
    have := wit_lt cut K (by omega)
    omega
  have HK := Lib.hid (show (0 : Int) < (K : Int) ∧ (K : Int) ≤ 1000000 from by have := HS2.out; omega)
  have HC := Lib.hid hC
  have HC2 := Lib.hid hC2
  clear hb4 hK hC hC2 HEQ
  go_wp2_with fail
  refine (wit_to HC.out w4 HK.out.1 HK.out.2).mono ?_
  rintro e w5 ⟨rfl, rfl⟩
  clear hw
  obtain ⟨m, t, hm1, hm2, hm3⟩ := log_cut C HME.out (by rw [← HSZ.out]; exact HC2.out)
  have HM1 := Lib.hid hm1
  have HMT := Lib.hid (show ∀ o ∈ M.take m, logErr o = 0 from fun o ho => HME.out o (List.mem_of_mem_take ho))
  obtain ⟨K2, hK2⟩ : ∃ K2, (logText (M.take m)).length = K2 := ⟨_, rfl⟩
  obtain ⟨S2, hS2⟩ : ∃ S2, S.extract 0 C = S2 := ⟨_, rfl⟩
  have hS2d : S2.data.toList = logText (M.take m) ++ t := by
    rw [← hS2, ext_data, HSD.out, ← hm2]
    simp
  have hS2z : S2.size = C := by
    rw [Lib.size_eq, ← hS2, ext_data, List.length_take, List.drop_zero, ← Lib.size_eq]
    have := HC2.out
    omega
  have hK2C : K2 ≤ C := by
    have := congrArg List.length hS2d
    rw [← Lib.size_eq, hS2z, List.length_append, hK2] at this
    omega
  have hall : AllTo S2.data.toList (.ok ((M.take m).map OpL.plain, K2)) := by
    have h := all_lines HMT.out (all_end hm3)
    rw [← hS2d, hK2] at h
    have e : preL ((M.take m).map OpL.plain) K2 (.ok ([], 0)) = .ok ((M.take m).map OpL.plain, K2) := by
      show Except.ok ((M.take m).map OpL.plain ++ [], K2 + 0) = _
      rw [List.append_nil, Nat.add_zero]
    rw [e] at h
    exact h
  have HALL := Lib.hid (logAll_short S2 _ w4 (HE.out.below HB4.out) (by rw [hS2z]; have := HC2.out; have := HS2.out; omega) hall)
  have hx2 : (S.extract K2 C).data.toList = t := by
    rw [ext_data, ← List.drop_take, HSD.out, hm2, List.drop_append_of_le_length (by omega), ← hK2, List.drop_length]
    rfl
  have hx3 : (S.extract 0 K2).data.toList = logText (M.take m) := by
    rw [ext_data, HSD.out, List.drop_zero, Nat.sub_zero]
    have h := congrArg (List.take K2) hm2
    rw [List.take_take, Nat.min_eq_left hK2C, List.take_append_of_le_length (by omega), ← hK2, List.take_length] at h
    rw [← hK2]
    exact h
  have HNO := Lib.hid (fun W => contains_no (s := S.extract K2 C) (c := 10) W (by rw [hx2]; exact hm3))
  have HCT := Lib.hid (fun W => count_is (s := S.extract 0 K2) (c := 10) (n := m) W (by
    rw [hx3, log_count HMT.out, List.length_take]
    omega))
  have i1 : (0 : Int) ≤ (C : Int) := by omega
  have i2 : (C : Int) ≤ (S.size : Int) := by have := HC2.out; omega
  have i3 : (K2 : Int) ≤ (C : Int) := by omega
  have i4 : (0 : Int) ≤ (K2 : Int) := by omega
  have i5 : (K2 : Int) ≤ (S.size : Int) := by omega
  clear hm1 hm2 hm3 hK2 hS2d hS2z hK2C hall hx2 hx3
  go_wp2_with fail
  refine HALL.out.mono ?_
  rintro e w6 ⟨hb6, L2, n2, A2, c2, rfl, h2o, h2n, h2O⟩
  have HB6 := Lib.hid (HB4.out.trans (hb6.mono HB4.out.size))
  have HO6 := Lib.hid (HO4.out.below hb6)
  have hn2 : n2 = m := by
    have h := congrArg List.length h2o
    rw [List.length_map, List.length_map, List.length_take, h2n] at h
    have := HM1.out
    omega
  have hnM : n = M.length := by
    have h := congrArg List.length HLM.out
    rw [List.length_map, List.length_map, HLN.out] at h
    exact h
  have hmn : m ≤ n := by have := HM1.out; omega
  subst hn2
  have HEQ := Lib.hid (eqOps_yes A2 A L2 (L.take n2) n2 n2 c2 c w6 h2O.slo.1 (HO6.out.slo.1.take n2) h2n (by rw [List.length_take, HLN.out]; omega) (by have := h2O.slo; omega) (by
    rw [List.map_take, HLM.out, h2o, List.map_take]))
  have hc2 := HO6.out.slo.2.2.1
  have i6 : (n2 : Int) ≤ (n : Int) := by omega
  have i7 : (0 : Int) ≤ (n2 : Int) := by omega
  have i8 : (n2 : Int) ≤ (c : Int) := by omega
  clear hb6 h2o h2n h2O hnM hmn HALL hc2
  go_wp2_with fail
  refine (HNO.out w6).mono ?_
  rintro e w7 ⟨rfl, rfl⟩
  go_wp2_with fail
  refine HEQ.out.mono ?_
  rintro e w8 ⟨rfl, hb8⟩
  have HB8 := Lib.hid (HB6.out.trans (hb8.mono HB6.out.size))
  clear hb8
  go_wp2_with fail
  refine (HCT.out w8).mono ?_
  rintro e w9 ⟨rfl, rfl⟩
  go_wp2_with fail
  go_ret
  exact ⟨rfl, HB8.out⟩
end Go.Proofs.YtbchfodmdgogjaaGreatDoor
