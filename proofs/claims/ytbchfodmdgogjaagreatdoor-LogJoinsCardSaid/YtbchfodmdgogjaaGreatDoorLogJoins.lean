/- LogJoins: two logs, one behind the other, say what the one says, and then what the other one says: the walk. -/
import Derived.Test.YtbchfodmdgogjaaGreatDoorLWrtn
import Derived.Test.YtbchfodmdgogjaaGreatDoorLAll
import Derived.Test.YtbchfodmdgogjaaGreatDoorLLit
import Derived.Test.YtbchfodmdgogjaaGreatDoorLConcat
set_option linter.unusedVariables false
set_option linter.unusedSimpArgs false
set_option maxRecDepth 100000
namespace Go.Proofs.YtbchfodmdgogjaaGreatDoor
open Go.RowKit Go.Sort

theorem log_nine : ∀ {M : List OpL}, (∀ o ∈ M, logErr o = 0) → 9 * M.length ≤ (logText M).length
  | [], _ => Nat.le_refl _
  | o :: M, h => by
    have ih := log_nine (M := M) fun q hq => h q (List.mem_cons_of_mem _ hq)
    have h9 := (line_len (h o (by simp))).2
    rw [logText_cons, List.length_append, List.length_cons]
    omega
theorem SlO.take {w : World} {a : Option Addr} {l : List OO} (h : SlO w a l) (n : Nat) : SlO w a (l.take n) := fun k x hk => h k x (by
  rw [List.getElem?_take] at hk
  split at hk
  · exact hk
  · cases hk)
/-- two lists, one behind the other -/
theorem concat_two (L1 L2 : List OO) (n1 n2 : Nat) (A1 A2 : Option Addr) (c1 c2 g : Nat) (w : World) (h1 : SlO w A1 L1) (h2 : SlO w A2 L2) (hn1 : L1.length = n1) (hn2 : L2.length = n2) (hl1 : n1 ≤ 5200) (hl2 : n2 ≤ 5200)
    (hc1 : w.cell? ⟨g, 0, none⟩ = some (.slice A1 n1 c1)) (hc2 : w.cell? ⟨g, 1, none⟩ = some (.slice A2 n2 c2)) :
    Calls Tryz.prog 22 #[.slice (some ⟨g, 0, none⟩) 2 2] w fun e w' => ∃ A n c, e = .returned (.slice A n c) ∧ (L1 ++ L2).length = n ∧ OwnO w.heap.size w' (.slice A n c) (L1 ++ L2) ∧ Below w.heap.size w w' := by
  have h := concatOp_any g [L1, L2] (fun i => if i = 0 then A1 else A2) (fun i => if i = 0 then c1 else c2) w (by show 2 ≤ 5; omega) (fun l hl => by
    simp only [List.mem_cons, List.mem_nil_iff, or_false] at hl
    rcases hl with rfl | rfl <;> omega) (fun i l hl => by
    match i, hl with
    | 0, hl =>
      cases hl
      exact ⟨h1, by rw [hn1]; exact hc1⟩
    | 1, hl =>
      cases hl
      exact ⟨h2, by rw [hn2]; exact hc2⟩
    | i + 2, hl => simp at hl)
  have e : [L1, L2].flatten = L1 ++ L2 := by simp
  rw [e] at h
  exact Calls.mono h fun e w' ⟨A, c, h1, h2, h3⟩ => ⟨A, _, c, h1, rfl, h2, h3⟩

set_option maxHeartbeats 4000000 in
theorem logJoins_walk (a : Option Addr) (cap : Nat) (l : List OO) (a' : Option Addr) (cap' : Nat) (l' : List OO) (w : World) (hE : Env w) (hs : SlO w a l) (hl : l.length ≤ cap) (hm : cap ≤ maxLen) (hs' : SlO w a' l') (hl' : l'.length ≤ cap') (hm' : cap' ≤ maxLen) :
    Calls Tryz.prog 7 #[.slice a l.length cap, .slice a' l'.length cap'] w fun e w' => e = .returned (.bool true) ∧ Below w.heap.size w w' := by
  have HE := Lib.hid hE
  have HS := Lib.hid hs
  have HS' := Lib.hid hs'
  obtain ⟨N, hN⟩ : ∃ N, l.length = N := ⟨_, rfl⟩
  obtain ⟨N', hN'⟩ : ∃ N, l'.length = N := ⟨_, rfl⟩
  rw [hN] at hl ⊢
  rw [hN'] at hl' ⊢
  unfold maxLen at hm hm'
  obtain ⟨K, hK⟩ : ∃ K, K = min N 8 := ⟨_, rfl⟩
  obtain ⟨K', hK'⟩ : ∃ K, K = min N' 8 := ⟨_, rfl⟩
  have k1 : K ≤ N := by omega
  have k2 : K ≤ 8 := by omega
  have k1' : K' ≤ N' := by omega
  have k2' : K' ≤ 8 := by omega
  have hmin : min (N : Int) 8 = (K : Int) := by omega
  have hmin' : min (N' : Int) 8 = (K' : Int) := by omega
  have HN := Lib.hid (show (l.take K).length = K by rw [List.length_take]; omega)
  have HN' := Lib.hid (show (l'.take K').length = K' by rw [List.length_take]; omega)
  have HKM := Lib.hid (show K ≤ maxLen ∧ K' ≤ maxLen by unfold maxLen; omega)
  have HALL := Lib.hid (logAll_short ⟨#[114, 117, 108, 101, 115, 32, 61, 49, 54, 53, 49, 10, 114, 117, 108, 101, 115, 32, 61, 49, 54, 53, 49, 10]⟩ _ w HE.out (show 24 ≤ 20000 by omega) ru_all)
  have i1 : (K : Int) ≤ (cap : Int) := by omega
  have i2 : (K' : Int) ≤ (cap' : Int) := by omega
  have i3 : (0 : Int) ≤ (K : Int) := by omega
  have i4 : (0 : Int) ≤ (K' : Int) := by omega
  clear hE hs hs' hN hN' hK hK' hl hl' hm hm'
  go_enter Tryz.func7, Tryz.ntmps7
  go_wp2_with fail
  refine HALL.out.mono ?_
  rintro e w1 ⟨hb1, L0, n0, A0, c0, rfl, h0o, h0n, h0O⟩
  have HB1 := Lib.hid hb1
  obtain rfl : n0 = 2 := by
    have h := congrArg List.length h0o
    rw [List.length_map, h0n] at h
    exact h
  clear hb1 h0o h0n h0O HALL
  go_wp2_with fail
  refine (written_any a (l.take K) K cap w1 (HE.out.below HB1.out) ((HS.out.take K).below HB1.out) HN.out HKM.out.1).mono ?_
  rintro e w2 ⟨M, L, n, A, c, rfl, hLM, hLn, hMe, hMl, hO, hb2⟩
  have HB2 := Lib.hid (HB1.out.trans (hb2.mono HB1.out.size))
  have HO2 := Lib.hid hO
  have HLM := Lib.hid hLM
  have HLN := Lib.hid hLn
  have HME := Lib.hid hMe
  have HML := Lib.hid hMl
  obtain ⟨S, hS⟩ : ∃ S, bs (logText M) = S := ⟨_, rfl⟩
  rw [hS]
  have HSS := Lib.hid hS
  clear hb2 hO hLM hLn hMe hMl hS
  go_wp2_with fail
  refine (written_any a' (l'.take K') K' cap' w2 (HE.out.below HB2.out) ((HS'.out.take K').below HB2.out) HN'.out HKM.out.2).mono ?_
  rintro e w3 ⟨M', L', n', A', c', rfl, hLM', hLn', hMe', hMl', hO', hb3⟩
  have HB3 := Lib.hid (HB2.out.trans (hb3.mono HB2.out.size))
  have HO3 := Lib.hid (HO2.out.below hb3)
  have HO3' := Lib.hid hO'
  have HLM' := Lib.hid hLM'
  have HLN' := Lib.hid hLn'
  have HME' := Lib.hid hMe'
  have HML' := Lib.hid hMl'
  obtain ⟨S', hS'⟩ : ∃ S, bs (logText M') = S := ⟨_, rfl⟩
  rw [hS']
  have HSS' := Lib.hid hS'
  clear hb3 hO' hLM' hLn' hMe' hMl' hS'
  obtain ⟨Z, hZ⟩ : ∃ Z : Nat, Z = S.size + S'.size := ⟨_, rfl⟩
  have hz1 : S.size ≤ 20000 := by rw [← HSS.out, bs_size]; exact HML.out
  have hz2 : S'.size ≤ 20000 := by rw [← HSS'.out, bs_size]; exact HML'.out
  obtain ⟨ST, hST⟩ : ∃ ST, S ++ S' = ST := ⟨_, rfl⟩
  have a1 : ∀ W, (Op.stringOp .add S S').run Tryz.prog W = .ok (.string ST) W := fun W => by
    rw [run_string_add_sum W S S' (by omega), hST]
  have HMM := Lib.hid (show ∀ o ∈ M ++ M', logErr o = 0 from fun o ho => by
    rcases List.mem_append.1 ho with ho | ho
    · exact HME.out o ho
    · exact HME'.out o ho)
  have hSTd : ST.data.toList = logText (M ++ M') := by rw [← hST, data_append, ← HSS.out, ← HSS'.out, data_bs, data_bs, logText_append]
  have hSTz : ST.size = Z := by rw [Lib.size_eq, ← hST, data_append, List.length_append, ← Lib.size_eq, ← Lib.size_eq, hZ]
  have hall : AllTo ST.data.toList (.ok ((M ++ M').map OpL.plain, Z)) := by
    have h := all_log HMM.out
    rw [← hSTd, ← Lib.size_eq, hSTz] at h
    exact h
  have HALL2 := Lib.hid (fun h => logAll_short ST _ w3 (HE.out.below HB3.out) h hall)
  have HSTZ := Lib.hid hSTz
  have HLL := Lib.hid (show L.length = n ∧ n ≤ 5200 ∧ L'.length = n' ∧ n' ≤ 5200 from by
    have h1 := log_nine HME.out
    have h2 := log_nine HME'.out
    have h3 := congrArg List.length HLM.out
    have h4 := congrArg List.length HLM'.out
    rw [List.length_map, List.length_map, HLN.out] at h3
    rw [List.length_map, List.length_map, HLN'.out] at h4
    have h5 := HML.out
    have h6 := HML'.out
    exact ⟨HLN.out, by omega, HLN'.out, by omega⟩)
  have hwr0 : wrap64 ((S.size : Int) + (S'.size : Int)) = (Z : Int) := by
    rw [show (S.size : Int) + (S'.size : Int) = (Z : Int) by omega]
    have h1 : (Z : Int) ≤ 40000 := by omega
    unfold wrap64
    omega
  have HWR := Lib.hid hwr0
  clear hST hSTd hSTz hall hz1 hz2 hwr0
  by_cases hfit : Z ≤ 20000
  · have hf1 : ¬ (20000 : Int) < (Z : Int) := by omega
    have HA2 := Lib.hid (HALL2.out (by rw [HSTZ.out]; exact hfit))
    have hwr := HWR.out
    clear HALL2 hZ hfit
    go_wp2_with fail
    refine HA2.out.mono ?_
    rintro e w4 ⟨hb4, L4, n4, A4, c4, rfl, h4o, h4n, h4O⟩
    have HB4 := Lib.hid (HB3.out.trans (hb4.mono HB3.out.size))
    have HO4 := Lib.hid (HO3.out.below hb4)
    have HO4' := Lib.hid (HO3'.out.below hb4)
    obtain ⟨w5, hw5⟩ : ∃ w5, w4.alloc (.cells #[.slice A n c, .slice A' n' c'] 36) = w5 := ⟨_, rfl⟩
    have h45 : Below w4.heap.size w4 w5 := hw5 ▸ (Below.refl _ _).alloc (Nat.le_refl _) _
    have hc0 : w5.cell? ⟨w4.heap.size, 0, none⟩ = some (.slice A n c) := by rw [← hw5]; simp [go_sem]
    have hc1 : w5.cell? ⟨w4.heap.size, 1, none⟩ = some (.slice A' n' c') := by rw [← hw5]; simp [go_sem]
    have HCC := Lib.hid (concat_two L L' n n' A A' c c' w4.heap.size w5 (HO4.out.below h45).slo.1 (HO4'.out.below h45).slo.1 HLL.out.1 HLL.out.2.2.1 HLL.out.2.1 HLL.out.2.2.2 hc0 hc1)
    have HW5 := Lib.hid hw5
    have HB5 := Lib.hid (HB4.out.trans (h45.mono HB4.out.size))
    have HO5 := Lib.hid (HO4.out.below h45)
    have HO5' := Lib.hid (HO4'.out.below h45)
    have H4O := Lib.hid (h4O.below h45)
    have H4o := Lib.hid h4o
    have H4n := Lib.hid h4n
    clear hb4 hw5 h45 hc0 hc1 h4O h4o h4n
    go_wp2_with (go_at_call 22; rw [HW5.out]; refine HCC.out.mono ?_; rintro e w6 ⟨A6, n6, c6, rfl, h6n, h6O, hb6⟩)
    have HB6 := Lib.hid (HB5.out.trans (hb6.mono HB5.out.size))
    have h6s := OwnO.sl h6O (fun x hx => by
      rcases List.mem_append.1 hx with hx | hx
      · exact ((HO5.out.below hb6).on x hx).here
      · exact ((HO5'.out.below hb6).on x hx).here)
    refine (eqOps_yes A4 A6 L4 (L ++ L') n4 n6 c4 c6 w6 (H4O.out.below hb6).slo.1 h6s.1 H4n.out h6n (by have := (H4O.out.below hb6).slo; omega) (by
      rw [H4o.out, List.map_append, List.map_append, HLM.out, HLM'.out])).mono ?_
    rintro e w7 ⟨rfl, hb7⟩
    have HB7 := Lib.hid (HB6.out.trans (hb7.mono HB6.out.size))
    clear hb6 h6n h6O h6s hb7
    go_wp2_with fail
    go_ret
    exact ⟨rfl, HB7.out⟩
  · have hf1 : (20000 : Int) < (Z : Int) := by omega
    have hwr := HWR.out
    clear HALL2 hZ hfit
    go_wp2_with fail
    go_ret
    exact ⟨rfl, HB3.out⟩
end Go.Proofs.YtbchfodmdgogjaaGreatDoor
