/- The walk of LabelRanks. -/
import Derived.Test.YthbimgibpiejcaaPop
import Derived.Deep.Cut
set_option linter.unusedVariables false
set_option linter.unusedSimpArgs false
namespace Go.Proofs.Ythbimgibpiejcaa
open Go.RowKit

theorem count_first (w : World) :
    Calls Try.prog 17 #[.agg #[.int .i64 1, .int .i64 3]] w fun e w' =>
      e = .returned (.tuple #[.int .i64 8, .int .i64 0]) ∧ Below w.heap.size w w' ∧ w'.heap.size = w.heap.size + 2 :=
  count_ok 1 3 w (by omega) (by omega)

theorem ones_small (x : Lab) : Lib.onesCount x.ct ≤ 8 := ones_le _ x.hc
theorem rank_le (x : Lab) : x.rank ≤ 11 := by have := ones_small x; have := x.hl; unfold Lab.rank; omega

set_option maxHeartbeats 2000000 in
theorem ranks_walk (a b : Int) (w : World) :
    Calls Try.prog 7 #[.int .i64 a, .int .i64 b] w fun e w' => e = .returned (.bool true) ∧ Below w.heap.size w w' := by
  have b1 := rank_le (sec a)
  have b2 := rank_le (sec b)
  have b3 := rank_le ((sec a).join (sec b))
  have b4 := rank_le ((sec a).meet (sec b))
  go_enter Try.func7, Try.ntmps7
  go_wp2_with fail
  refine (count_first _).mono ?_
  rintro e w1 ⟨rfl, hb1, hz1⟩
  obtain ⟨hc1, hf1⟩ := bcell hb1
  have hB1 : Below w.heap.size w w1 := by
    refine Below.trans ?_ (hb1.mono ?_)
    · go_grown
    · simp [] <;> omega
  try simp [Nat.add_assoc] at hz1
  go_wp2_with fail
  refine (secL a _).mono ?_
  rintro e w2 ⟨rfl, hb2, hz2⟩
  obtain ⟨hc2, hf2⟩ := bcell hb2
  have hB2 : Below w.heap.size w w2 := by
    refine Below.trans ?_ (hb2.mono ?_)
    · go_grown
    · simp [hz1] <;> omega
  try simp [hz1, Nat.add_assoc] at hz2
  go_wp2_with fail
  refine (secL b _).mono ?_
  rintro e w3 ⟨rfl, hb3, hz3⟩
  obtain ⟨hc3, hf3⟩ := bcell hb3
  have hB3 : Below w.heap.size w w3 := by
    refine Below.trans ?_ (hb3.mono ?_)
    · go_grown
    · simp [hz2] <;> omega
  try simp [hz2, Nat.add_assoc] at hz3
  go_wp2_with fail
  refine (joinL _ _ _).mono ?_
  rintro e w4 ⟨rfl, hb4, hz4⟩
  obtain ⟨hc4, hf4⟩ := bcell hb4
  have hB4 : Below w.heap.size w w4 := by
    refine Below.trans ?_ (hb4.mono ?_)
    · go_grown
    · simp [hz3] <;> omega
  try simp [hz3, Nat.add_assoc] at hz4
  go_wp2_with fail
  refine (meetL _ _ _).mono ?_
  rintro e w5 ⟨rfl, hb5, hz5⟩
  obtain ⟨hc5, hf5⟩ := bcell hb5
  have hB5 : Below w.heap.size w w5 := by
    refine Below.trans ?_ (hb5.mono ?_)
    · go_grown
    · simp [hz4] <;> omega
  try simp [hz4, Nat.add_assoc] at hz5
  go_wp2_with fail
  refine (rankL _ _).mono ?_
  rintro e w6 ⟨rfl, hb6, hz6⟩
  obtain ⟨hc6, hf6⟩ := bcell hb6
  have hB6 : Below w.heap.size w w6 := by
    refine Below.trans ?_ (hb6.mono ?_)
    · go_grown
    · simp [hz5] <;> omega
  try simp [hz5, Nat.add_assoc] at hz6
  go_wp2_with fail
  refine (rankL _ _).mono ?_
  rintro e w7 ⟨rfl, hb7, hz7⟩
  obtain ⟨hc7, hf7⟩ := bcell hb7
  have hB7 : Below w.heap.size w w7 := by
    refine Below.trans ?_ (hb7.mono ?_)
    · go_grown
    · simp [hz6] <;> omega
  try simp [hz6, Nat.add_assoc] at hz7
  go_wp2_with fail
  refine (rankL _ _).mono ?_
  rintro e w8 ⟨rfl, hb8, hz8⟩
  obtain ⟨hc8, hf8⟩ := bcell hb8
  have hB8 : Below w.heap.size w w8 := by
    refine Below.trans ?_ (hb8.mono ?_)
    · go_grown
    · simp [hz7] <;> omega
  try simp [hz7, Nat.add_assoc] at hz8
  go_wp2_with fail
  refine (rankL _ _).mono ?_
  rintro e w9 ⟨rfl, hb9, hz9⟩
  obtain ⟨hc9, hf9⟩ := bcell hb9
  have hB9 : Below w.heap.size w w9 := by
    refine Below.trans ?_ (hb9.mono ?_)
    · go_grown
    · simp [hz8] <;> omega
  try simp [hz8, Nat.add_assoc] at hz9
  go_wp2_with fail
  refine (countL _ _).mono ?_
  rintro e w10 ⟨rfl, hb10, hz10⟩
  obtain ⟨hc10, hf10⟩ := bcell hb10
  have hB10 : Below w.heap.size w w10 := by
    refine Below.trans ?_ (hb10.mono ?_)
    · go_grown
    · simp [hz9] <;> omega
  try simp [hz9, Nat.add_assoc] at hz10
  go_wp2_with fail
  refine (countL _ _).mono ?_
  rintro e w11 ⟨rfl, hb11, hz11⟩
  obtain ⟨hc11, hf11⟩ := bcell hb11
  have hB11 : Below w.heap.size w w11 := by
    refine Below.trans ?_ (hb11.mono ?_)
    · go_grown
    · simp [hz10] <;> omega
  try simp [hz10, Nat.add_assoc] at hz11
  go_wp2_with fail
  refine (belowL _ _ _).mono ?_
  rintro e w12 ⟨rfl, hb12, hz12⟩
  obtain ⟨hc12, hf12⟩ := bcell hb12
  have hB12 : Below w.heap.size w w12 := by
    refine Below.trans ?_ (hb12.mono ?_)
    · go_grown
    · simp [hz11] <;> omega
  try simp [hz11, Nat.add_assoc] at hz12
  go_wp2_with fail
  refine wp_loop_rounds 10 ?_
  repeat any_goals (rw [rounds_succ]; go_upto_region 20 with (fail))
  clear hc1 hf1 hc2 hf2 hf3 hf4 hf5 hf6 hf7 hf8 hf9 hf10 hf11 hf12
  have hr : (((sec a).rank : Int) + ((sec b).rank : Int) == (((sec a).join (sec b)).rank : Int) + (((sec a).meet (sec b)).rank : Int)) = true := by
    have := rank_add (sec a) (sec b)
    simp
    omega
  have hn : (sec a).count ≤ ((sec a).join (sec b)).count := count_le _ _
  have hd : Below w.heap.size w (w12.alloc (Obj.cells #[.int .i64 0, .int .i64 0, .int .i64 0, .int .i64 0, .int .i64 0, .int .i64 0, .int .i64 0, .int .i64 0, .int .i64 0] 24)) := by go_grown
  by_cases hj : (sec a).join (sec b) = sec a
  · have e1 : ((sec a).join (sec b)).lv = (sec a).lv := congrArg Lab.lv hj
    have e2 : ((sec a).join (sec b)).ct = (sec a).ct := congrArg Lab.ct hj
    have e3 : ((sec a).join (sec b)).count = (sec a).count := congrArg Lab.count hj
    clear hn hj
    by_cases hm : (sec a).meet (sec b) = sec a
    · have hB : (sec a).below (sec b) = true := (below_meet _ _).2 hm
      have e4 : ((sec a).meet (sec b)).lv = (sec a).lv := congrArg Lab.lv hm
      have e5 : ((sec a).meet (sec b)).ct = (sec a).ct := congrArg Lab.ct hm
      clear hm
      go_wp2
      go_ret
      exact ⟨rfl, hd⟩
    · have hB : (sec a).below (sec b) = false := by
        cases hx : (sec a).below (sec b)
        · rfl
        · exact absurd ((below_meet _ _).1 hx) hm
      rcases lab_ne hm with g1 | ⟨g1, g2⟩
      · have m1 : ((sec a).lv == ((sec a).meet (sec b)).lv) = false := by simp; omega
        have m1' : (((sec a).lv : Int) == (((sec a).meet (sec b)).lv : Int)) = false := by simp; omega
        clear hm g1
        go_wp2
        go_ret
        exact ⟨rfl, hd⟩
      · have m1 : ((sec a).ct == ((sec a).meet (sec b)).ct) = false := by simp; omega
        have m1' : (((sec a).ct : Int) == (((sec a).meet (sec b)).ct : Int)) = false := by simp; omega
        clear hm g2
        go_wp2
        go_ret
        exact ⟨rfl, hd⟩
  · have hq : ((sec a).count == ((sec a).join (sec b)).count) = false := by
      simp
      exact fun e => hj (count_eq _ _ e)
    have hq' : (((sec a).count : Int) == (((sec a).join (sec b)).count : Int)) = false := by
      simp
      exact fun e => hj (count_eq _ _ (by omega))
    rcases lab_ne hj with h1 | ⟨h1, h2⟩
    · have k1 : ((sec a).lv == ((sec a).join (sec b)).lv) = false := by simp; omega
      have k1' : (((sec a).lv : Int) == (((sec a).join (sec b)).lv : Int)) = false := by simp; omega
      clear h1 hj
      by_cases hm : (sec a).meet (sec b) = sec a
      · have hB : (sec a).below (sec b) = true := (below_meet _ _).2 hm
        have e4 : ((sec a).meet (sec b)).lv = (sec a).lv := congrArg Lab.lv hm
        have e5 : ((sec a).meet (sec b)).ct = (sec a).ct := congrArg Lab.ct hm
        clear hm
        go_wp2
        go_ret
        exact ⟨rfl, hd⟩
      · have hB : (sec a).below (sec b) = false := by
          cases hx : (sec a).below (sec b)
          · rfl
          · exact absurd ((below_meet _ _).1 hx) hm
        rcases lab_ne hm with g1 | ⟨g1, g2⟩
        · have m1 : ((sec a).lv == ((sec a).meet (sec b)).lv) = false := by simp; omega
          have m1' : (((sec a).lv : Int) == (((sec a).meet (sec b)).lv : Int)) = false := by simp; omega
          clear hm g1
          go_wp2
          go_ret
          exact ⟨rfl, hd⟩
        · have m1 : ((sec a).ct == ((sec a).meet (sec b)).ct) = false := by simp; omega
          have m1' : (((sec a).ct : Int) == (((sec a).meet (sec b)).ct : Int)) = false := by simp; omega
          clear hm g2
          go_wp2
          go_ret
          exact ⟨rfl, hd⟩
    · have k1 : ((sec a).ct == ((sec a).join (sec b)).ct) = false := by simp; omega
      have k1' : (((sec a).ct : Int) == (((sec a).join (sec b)).ct : Int)) = false := by simp; omega
      clear h2 hj
      by_cases hm : (sec a).meet (sec b) = sec a
      · have hB : (sec a).below (sec b) = true := (below_meet _ _).2 hm
        have e4 : ((sec a).meet (sec b)).lv = (sec a).lv := congrArg Lab.lv hm
        have e5 : ((sec a).meet (sec b)).ct = (sec a).ct := congrArg Lab.ct hm
        clear hm
        go_wp2
        go_ret
        exact ⟨rfl, hd⟩
      · have hB : (sec a).below (sec b) = false := by
          cases hx : (sec a).below (sec b)
          · rfl
          · exact absurd ((below_meet _ _).1 hx) hm
        rcases lab_ne hm with g1 | ⟨g1, g2⟩
        · have m1 : ((sec a).lv == ((sec a).meet (sec b)).lv) = false := by simp; omega
          have m1' : (((sec a).lv : Int) == (((sec a).meet (sec b)).lv : Int)) = false := by simp; omega
          clear hm g1
          go_wp2
          go_ret
          exact ⟨rfl, hd⟩
        · have m1 : ((sec a).ct == ((sec a).meet (sec b)).ct) = false := by simp; omega
          have m1' : (((sec a).ct : Int) == (((sec a).meet (sec b)).ct : Int)) = false := by simp; omega
          clear hm g2
          go_wp2
          go_ret
          exact ⟨rfl, hd⟩
end Go.Proofs.Ythbimgibpiejcaa
