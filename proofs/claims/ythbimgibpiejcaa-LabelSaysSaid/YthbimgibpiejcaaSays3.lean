/- The walk of LabelSays at a first label that may be. -/
import Derived.Test.YthbimgibpiejcaaSays2
import Derived.Deep.QuietTactic
import Derived.BigQuiet
set_option linter.unusedVariables false
set_option linter.unusedSimpArgs false
namespace Go.Proofs.Ythbimgibpiejcaa
open Go.RowKit

set_option maxRecDepth 100000 in
set_option maxHeartbeats 4000000 in
theorem says_first (x : Lab) (l' c' : Int) (w : World) (h : ¬ (0 ≤ l' ∧ l' ≤ 3 ∧ 0 ≤ c' ∧ c' ≤ 255)) :
    Calls Try.prog 3 #[.agg #[.int .i64 (x.lv : Int), .int .i64 (x.ct : Int)], .agg #[.int .i64 l', .int .i64 c']] w fun e w' => e = .returned (.bool true) ∧ Below w.heap.size w w' := by
  have HB := Lib.hid h
  clear h
  have hxl := x.hl
  have hxc := x.hc
  go_enter Try.func3, Try.ntmps3
  go_wp2_with fail
  refine ((fun w => below_err2 (x.lv : Int) (x.ct : Int) l' c' w (by omega) (by omega) (by omega) (by omega) HB.out) _).mono ?_
  rintro e w1 ⟨rfl, hb1, hz1⟩
  obtain ⟨hc1, hf1⟩ := bcell hb1
  have hB1 : Below w.heap.size w w1 := by
    refine Below.trans ?_ (hb1.mono ?_)
    · go_grown
    · simp [] <;> omega
  try simp [Nat.add_assoc] at hz1
  go_wp2_with fail
  refine ((fun w => join_err2 (x.lv : Int) (x.ct : Int) l' c' w (by omega) (by omega) (by omega) (by omega) HB.out) _).mono ?_
  rintro e w2 ⟨rfl, hb2, hz2⟩
  obtain ⟨hc2, hf2⟩ := bcell hb2
  have hB2 : Below w.heap.size w w2 := by
    refine Below.trans ?_ (hb2.mono ?_)
    · go_grown
    · simp [hz1] <;> omega
  try simp [hz1, Nat.add_assoc] at hz2
  go_wp2_with fail
  refine ((fun w => meet_err2 (x.lv : Int) (x.ct : Int) l' c' w (by omega) (by omega) (by omega) (by omega) HB.out) _).mono ?_
  rintro e w3 ⟨rfl, hb3, hz3⟩
  obtain ⟨hc3, hf3⟩ := bcell hb3
  have hB3 : Below w.heap.size w w3 := by
    refine Below.trans ?_ (hb3.mono ?_)
    · go_grown
    · simp [hz2] <;> omega
  try simp [hz2, Nat.add_assoc] at hz3
  go_wp2_with fail
  refine (countL x _).mono ?_
  rintro e w4 ⟨rfl, hb4, hz4⟩
  obtain ⟨hc4, hf4⟩ := bcell hb4
  have hB4 : Below w.heap.size w w4 := by
    refine Below.trans ?_ (hb4.mono ?_)
    · go_grown
    · simp [hz3] <;> omega
  try simp [hz3, Nat.add_assoc] at hz4
  go_wp2_with fail
  refine (rankL x _).mono ?_
  rintro e w5 ⟨rfl, hb5, hz5⟩
  obtain ⟨hc5, hf5⟩ := bcell hb5
  have hB5 : Below w.heap.size w w5 := by
    refine Below.trans ?_ (hb5.mono ?_)
    · go_grown
    · simp [hz4] <;> omega
  try simp [hz4, Nat.add_assoc] at hz5
  go_upto_region 6 with (fail)
  go_cut [15, 16] from 55 to 58 (fun s15 s16 wc => TwoCalls 28 0 w w5 s15 s16 wc)
  case first =>
    go_region_with (go_at_call 19; refine (refLabel_ok (x.lv : Int) (x.ct : Int) _ (by omega) (by omega) (by omega) (by omega)).mono ?_; rintro e wp ⟨rfl, hbp, hzp⟩; obtain ⟨hcp, hfp⟩ := bcell hbp)
    all_goals (go_wp2_with fail; go_meet)
    all_goals
      case rel =>
        refine twoCalls_of (w1 := w5.drew) hz5 hB5 ?_ rfl ⟨rfl, rfl, rfl⟩ ?_ hbp rfl ⟨rfl, rfl, rfl⟩ hzp
        · assumption
        · assumption
  case rest =>
    obtain ⟨rfl, rfl, hcc, hfc, hzc, hBc⟩ := hcut
    go_wp2_with fail
    refine ((fun w => check_ok (x.lv : Int) (x.ct : Int) w (by omega) (by omega) (by omega) (by omega)) _).mono ?_
    rintro e w6 ⟨rfl, hb6, hz6⟩
    obtain ⟨hc6, hf6⟩ := bcell hb6
    have hB6 : Below w.heap.size w w6 := by
      refine Below.trans ?_ (hb6.mono ?_)
      · go_grown
      · simp [hzc] <;> omega
    try simp [hzc, Nat.add_assoc] at hz6
    go_wp2_with fail
    refine ((fun w => check_bad 4 0 w (by omega)) _).mono ?_
    rintro e w7 ⟨rfl, hb7, hz7⟩
    obtain ⟨hc7, hf7⟩ := bcell hb7
    have hB7 : Below w.heap.size w w7 := by
      refine Below.trans ?_ (hb7.mono ?_)
      · go_grown
      · simp [hz6] <;> omega
    try simp [hz6, Nat.add_assoc] at hz7
    go_wp2_with fail
    refine ((fun w => refLabel_bad l' c' w HB.out) _).mono ?_
    rintro e w8 ⟨rfl, hb8, hz8⟩
    obtain ⟨hc8, hf8⟩ := bcell hb8
    have hB8 : Below w.heap.size w w8 := by
      refine Below.trans ?_ (hb8.mono ?_)
      · go_grown
      · simp [hz7] <;> omega
    try simp [hz7, Nat.add_assoc] at hz8
    have hbx : BX w.heap.size x.lv x.ct l' c' 0 0 0 0 w8 := by
      refine ⟨?_, ?_, ?_, ?_, ?_, ?_, ?_, ?_, by omega⟩
      all_goals go_simp
    have HX := Lib.hid hbx
    clear hbx hc1 hf1 hc2 hf2 hc3 hf3 hc4 hf4 hc5 hf5 hcc hfc hc6 hf6 hc7 hf7 hc8 hf8 hb1 hb2 hb3 hb4 hb5 hb6 hb7 hb8 hB1 hB2 hB3 hB4 hB5 hB6 hB7 hz1 hz2 hz3 hz4 hz5 hz6 hz7 hz8 hzc hBc
    have hca0 := HX.out.pa0
    have hca1 := HX.out.pa1
    go_wp2_with fail
    go_quiet (fail)
    go_wp2_with fail
    have HXA := Lib.hid (HX.out.same (w' := w8.drewN nq) (Nat.le_refl _) fun _ _ _ => rfl)
    have hBA : Below w.heap.size w (w8.drewN nq) := below_drewN hB8 _
    clear HX hca0 hca1 hB8
    go_loopw [17, 121] (fun n s wr => ∃ k N : Nat, k ≤ 256 ∧ s = .int .i64 k ∧ n = .int .i64 N ∧ Hid (N = (x.lv + 1) * cntN x.ct k) ∧ N ≤ 4 * k ∧ Hid (BX w.heap.size x.lv x.ct l' c' 0 0 0 0 wr) ∧ Below w.heap.size w wr) (fun _ s _ => 256 - (intOf s).toNat)
    case atStart => exact ⟨0, 0, by omega, rfl, rfl, (Nat.mul_zero _).symm, by omega, HXA, hBA⟩
    case round =>
      obtain ⟨k, N, hk, rfl, rfl, hN, hN4, HXr, hBr⟩ := hrel
      have hca0 := HXr.out.pa0
      have hca1 := HXr.out.pa1
      by_cases hlt : k < 256
      · have hlt' : (k : Int) < 256 := by omega
        by_cases hs : sub k x.ct = 0
        · have HS := Lib.hid hs
          go_wp2_with fail
          refine (part_any k x.ct _ hlt (by omega)).mono ?_
          rintro e wp ⟨rfl, hbp⟩
          have HXp := Lib.hid (HXr.out.below hbp)
          have hBp : Below w.heap.size w wp := hBr.trans (hbp.mono hBr.size)
          have hca0p := HXp.out.pa0
          clear hca0 hca1 hbp
          go_wp2_with fail
          go_roundw
          case rel =>
            refine ⟨k + 1, N + (x.lv + 1), by omega, by go_num, by go_num, ?_, by omega, HXp, hBp⟩
            show N + (x.lv + 1) = (x.lv + 1) * cntN x.ct (k + 1)
            rw [hN.out, cntN, if_pos HS.out, Nat.mul_add, Nat.mul_one]
          case measure => simp [intOf]; omega
        · have HS := Lib.hid hs
          go_wp2_with fail
          refine (part_any k x.ct _ hlt (by omega)).mono ?_
          rintro e wp ⟨rfl, hbp⟩
          have HXp := Lib.hid (HXr.out.below hbp)
          have hBp : Below w.heap.size w wp := hBr.trans (hbp.mono hBr.size)
          clear hca0 hca1 hbp
          go_wp2_with fail
          go_roundw
          case rel =>
            refine ⟨k + 1, N, by omega, by go_num, rfl, ?_, by omega, HXp, hBp⟩
            show N = (x.lv + 1) * cntN x.ct (k + 1)
            rw [hN.out, cntN, if_neg HS.out]
            rfl
          case measure => simp [intOf]; omega
      · obtain rfl : k = 256 := by omega
        have hNe : N = x.count := by rw [hN.out]; exact cnt_end x
        rw [hNe]
        clear hN hk hlt hN4 hNe
        go_wp2_with fail
        obtain ⟨wB, rfl⟩ : ∃ wB : World, wB = wr := ⟨_, rfl⟩
        go_loop [18, 134] (fun n s => ∃ k N : Nat, k ≤ 8 ∧ s = .int .i64 k ∧ n = .int .i64 N ∧ Hid (N = x.lv + sumN x.ct k) ∧ N ≤ 3 + k) (fun _ s => 8 - (intOf s).toNat)
        case atStart => exact ⟨0, x.lv, by omega, rfl, rfl, rfl, by omega⟩
        case round =>
          obtain ⟨k, N, hk, rfl, rfl, hN, hN3⟩ := hrel
          by_cases hlt : k < 8
          · have hlt' : (k : Int) < 8 := by omega
            have htm := tmod_bit x.ct k
            cases hb : x.ct.testBit k
            · rw [hb, if_neg (by decide)] at htm
              have HB2 := Lib.hid hb
              clear hb
              go_wp2_with fail
              go_round
              case rel => exact ⟨k + 1, N, by omega, by go_num, rfl, by show N = x.lv + sumN x.ct (k + 1); rw [sumN, if_neg (by rw [HB2.out]; decide)]; exact hN.out, by omega⟩
              case measure => simp [intOf]; omega
            · rw [hb, if_pos rfl] at htm
              have HB2 := Lib.hid hb
              clear hb
              go_wp2_with fail
              go_round
              case rel => exact ⟨k + 1, N + 1, by omega, by go_num, by go_num, by show N + 1 = x.lv + sumN x.ct (k + 1); rw [sumN, if_pos HB2.out, ← Nat.add_assoc, ← hN.out], by omega⟩
              case measure => simp [intOf]; omega
          · obtain rfl : k = 8 := by omega
            have hNe : N = x.rank := by rw [hN.out]; exact sum_end x
            rw [hNe]
            clear hN hk hlt hN3 hNe
            have cb0 := HXr.out.pb0
            have cb1 := HXr.out.pb1
            have cj0 := HXr.out.pj0
            have cj1 := HXr.out.pj1
            have cm0 := HXr.out.pm0
            have cm1 := HXr.out.pm1
            go_wp2_with fail
            go_ret
            exact ⟨rfl, hBr⟩

end Go.Proofs.Ythbimgibpiejcaa
