/- The walk of LabelLattice. -/
import Derived.Test.YthbimgibpiejcaaLab4
set_option linter.unusedVariables false
set_option linter.unusedSimpArgs false
namespace Go.Proofs.Ythbimgibpiejcaa
open Go.RowKit

theorem join_first (w : World) :
    Calls Try.prog 15 #[.agg #[.int .i64 1, .int .i64 1], .agg #[.int .i64 0, .int .i64 6]] w fun e w' =>
      e = .returned (.tuple #[.agg #[.int .i64 1, .int .i64 7], .int .i64 0]) ∧ Below w.heap.size w w' ∧ w'.heap.size = w.heap.size + 7 :=
  join_ok 1 1 0 6 w (by omega) (by omega) (by omega) (by omega)

set_option maxHeartbeats 2000000 in
theorem lattice_walk (a b c : Int) (w : World) :
    Calls Try.prog 5 #[.int .i64 a, .int .i64 b, .int .i64 c] w fun e w' => e = .returned (.bool true) ∧ Below w.heap.size w w' := by
  have hm1 := join_comm (sec b) (sec a)
  have hm2 := join_assoc (sec a) (sec b) (sec c)
  have hm3 := meet_join (sec a) (sec b) (sec c)
  have hm4 := join_meet_self (sec a) (sec b)
  have hm5 := meet_join_self (sec a) (sec b)
  go_enter Try.func5, Try.ntmps5
  go_wp2_with fail
  refine (join_first _).mono ?_
  rintro e w1 ⟨rfl, hb1, hz1⟩
  obtain ⟨hc1, hf1⟩ := bcell hb1
  have hB1 : Below w.heap.size w w1 := by
    refine Below.trans ?_ (hb1.mono ?_)
    · go_grown
    · simp [] <;> omega
  try simp [Nat.add_assoc] at hz1
  go_wp2_with fail
  refine (secL a _).mono ?_
  rintro e w2 ⟨rfl, hb2, hz2⟩
  obtain ⟨hc2, hf2⟩ := bcell hb2
  have hB2 : Below w.heap.size w w2 := by
    refine Below.trans ?_ (hb2.mono ?_)
    · go_grown
    · simp [hz1] <;> omega
  try simp [hz1, Nat.add_assoc] at hz2
  go_wp2_with fail
  refine (secL b _).mono ?_
  rintro e w3 ⟨rfl, hb3, hz3⟩
  obtain ⟨hc3, hf3⟩ := bcell hb3
  have hB3 : Below w.heap.size w w3 := by
    refine Below.trans ?_ (hb3.mono ?_)
    · go_grown
    · simp [hz2] <;> omega
  try simp [hz2, Nat.add_assoc] at hz3
  go_wp2_with fail
  refine (secL c _).mono ?_
  rintro e w4 ⟨rfl, hb4, hz4⟩
  obtain ⟨hc4, hf4⟩ := bcell hb4
  have hB4 : Below w.heap.size w w4 := by
    refine Below.trans ?_ (hb4.mono ?_)
    · go_grown
    · simp [hz3] <;> omega
  try simp [hz3, Nat.add_assoc] at hz4
  go_wp2_with fail
  refine (joinL _ _ _).mono ?_
  rintro e w5 ⟨rfl, hb5, hz5⟩
  obtain ⟨hc5, hf5⟩ := bcell hb5
  have hB5 : Below w.heap.size w w5 := by
    refine Below.trans ?_ (hb5.mono ?_)
    · go_grown
    · simp [hz4] <;> omega
  try simp [hz4, Nat.add_assoc] at hz5
  go_wp2_with fail
  refine (joinL _ _ _).mono ?_
  rintro e w6 ⟨rfl, hb6, hz6⟩
  obtain ⟨hc6, hf6⟩ := bcell hb6
  have hB6 : Below w.heap.size w w6 := by
    refine Below.trans ?_ (hb6.mono ?_)
    · go_grown
    · simp [hz5] <;> omega
  try simp [hz5, Nat.add_assoc] at hz6
  go_wp2_with fail
  refine (joinL _ _ _).mono ?_
  rintro e w7 ⟨rfl, hb7, hz7⟩
  obtain ⟨hc7, hf7⟩ := bcell hb7
  have hB7 : Below w.heap.size w w7 := by
    refine Below.trans ?_ (hb7.mono ?_)
    · go_grown
    · simp [hz6] <;> omega
  try simp [hz6, Nat.add_assoc] at hz7
  go_wp2_with fail
  refine (joinL _ _ _).mono ?_
  rintro e w8 ⟨rfl, hb8, hz8⟩
  obtain ⟨hc8, hf8⟩ := bcell hb8
  have hB8 : Below w.heap.size w w8 := by
    refine Below.trans ?_ (hb8.mono ?_)
    · go_grown
    · simp [hz7] <;> omega
  try simp [hz7, Nat.add_assoc] at hz8
  go_wp2_with fail
  refine (joinL _ _ _).mono ?_
  rintro e w9 ⟨rfl, hb9, hz9⟩
  obtain ⟨hc9, hf9⟩ := bcell hb9
  have hB9 : Below w.heap.size w w9 := by
    refine Below.trans ?_ (hb9.mono ?_)
    · go_grown
    · simp [hz8] <;> omega
  try simp [hz8, Nat.add_assoc] at hz9
  go_wp2_with fail
  refine (meetL _ _ _).mono ?_
  rintro e w10 ⟨rfl, hb10, hz10⟩
  obtain ⟨hc10, hf10⟩ := bcell hb10
  have hB10 : Below w.heap.size w w10 := by
    refine Below.trans ?_ (hb10.mono ?_)
    · go_grown
    · simp [hz9] <;> omega
  try simp [hz9, Nat.add_assoc] at hz10
  go_wp2_with fail
  refine (meetL _ _ _).mono ?_
  rintro e w11 ⟨rfl, hb11, hz11⟩
  obtain ⟨hc11, hf11⟩ := bcell hb11
  have hB11 : Below w.heap.size w w11 := by
    refine Below.trans ?_ (hb11.mono ?_)
    · go_grown
    · simp [hz10] <;> omega
  try simp [hz10, Nat.add_assoc] at hz11
  go_wp2_with fail
  refine (meetL _ _ _).mono ?_
  rintro e w12 ⟨rfl, hb12, hz12⟩
  obtain ⟨hc12, hf12⟩ := bcell hb12
  have hB12 : Below w.heap.size w w12 := by
    refine Below.trans ?_ (hb12.mono ?_)
    · go_grown
    · simp [hz11] <;> omega
  try simp [hz11, Nat.add_assoc] at hz12
  go_wp2_with fail
  refine (joinL _ _ _).mono ?_
  rintro e w13 ⟨rfl, hb13, hz13⟩
  obtain ⟨hc13, hf13⟩ := bcell hb13
  have hB13 : Below w.heap.size w w13 := by
    refine Below.trans ?_ (hb13.mono ?_)
    · go_grown
    · simp [hz12] <;> omega
  try simp [hz12, Nat.add_assoc] at hz13
  go_wp2_with fail
  refine (joinL _ _ _).mono ?_
  rintro e w14 ⟨rfl, hb14, hz14⟩
  obtain ⟨hc14, hf14⟩ := bcell hb14
  have hB14 : Below w.heap.size w w14 := by
    refine Below.trans ?_ (hb14.mono ?_)
    · go_grown
    · simp [hz13] <;> omega
  try simp [hz13, Nat.add_assoc] at hz14
  go_wp2_with fail
  refine (meetL _ _ _).mono ?_
  rintro e w15 ⟨rfl, hb15, hz15⟩
  obtain ⟨hc15, hf15⟩ := bcell hb15
  have hB15 : Below w.heap.size w w15 := by
    refine Below.trans ?_ (hb15.mono ?_)
    · go_grown
    · simp [hz14] <;> omega
  try simp [hz14, Nat.add_assoc] at hz15
  go_wp2_with fail
  go_rounds 12
  go_goals
  all_goals go_ret
  all_goals refine ⟨rfl, ?_⟩
  all_goals go_grown
end Go.Proofs.Ythbimgibpiejcaa
