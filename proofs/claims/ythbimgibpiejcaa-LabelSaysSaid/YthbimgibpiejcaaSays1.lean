/- The walk of LabelSays at a first label that may not be. -/
import Derived.Test.YthbimgibpiejcaaLabErr
import Derived.Deep.CutRange
import Derived.Deep.RegionWith
set_option linter.unusedVariables false
set_option linter.unusedSimpArgs false
namespace Go.Proofs.Ythbimgibpiejcaa
open Go.RowKit

/-- what a drawn statement with two calls leaves: two numbers, two blocks more -/
def TwoCalls (K : Nat) (E : Int) (w W : World) (s15 s16 : Value) (wc : World) : Prop :=
  s15 = .int .i64 E ∧ s16 = .int .i64 E ∧ (∀ b o, b < w.heap.size + K → wc.cell? ⟨b, o, none⟩ = W.cell? ⟨b, o, none⟩) ∧ (∀ b o, b < w.heap.size + K → wc.frozen? ⟨b, o, none⟩ = W.frozen? ⟨b, o, none⟩) ∧ wc.heap.size = w.heap.size + K + 2 ∧ Below w.heap.size w wc

theorem twoCalls_of {K : Nat} {E : Int} {w W w1 w2 w1' w2' : World} (hz : W.heap.size = w.heap.size + K) (hB : Below w.heap.size w W) (h1 : Below w1.heap.size w1 w2) (hw1 : w1.heap = W.heap) (ho : w1.os = W.os ∧ w1.tape = W.tape ∧ w1.output = W.output) (hz1 : w2.heap.size = w1.heap.size + 1)
    (h2 : Below w1'.heap.size w1' w2') (hw2 : w1'.heap = w2.heap) (ho2 : w1'.os = w2.os ∧ w1'.tape = w2.tape ∧ w1'.output = w2.output) (hz2 : w2'.heap.size = w1'.heap.size + 1) : TwoCalls K E w W (.int .i64 E) (.int .i64 E) w2' := by
  have e1 : w1.heap.size = W.heap.size := by rw [hw1]
  have e2 : w1'.heap.size = w2.heap.size := by rw [hw2]
  have blk : ∀ k, k < w.heap.size + K → w2'.heap[k]? = W.heap[k]? := fun k hk => by
    rw [h2.block k (by omega), hw2, h1.block k (by omega), hw1]
  refine ⟨rfl, rfl, fun b o hb => World.cell?_of_block (w := W) (blk b hb), fun b o hb => World.frozen?_of_block (w := W) (blk b hb), by omega, ⟨?_, ?_, ?_, by omega, fun k hk => ?_⟩⟩
  · rw [h2.os, ho2.1, h1.os, ho.1, hB.os]
  · rw [h2.tape, ho2.2.1, h1.tape, ho.2.1, hB.tape]
  · rw [h2.output, ho2.2.2, h1.output, ho.2.2, hB.output]
  · rw [blk k (by omega), hB.block k hk]

set_option maxRecDepth 100000 in
set_option maxHeartbeats 4000000 in
theorem says_bad (l c l' c' : Int) (w : World) (h : ¬ (0 ≤ l ∧ l ≤ 3 ∧ 0 ≤ c ∧ c ≤ 255)) :
    Calls Try.prog 3 #[.agg #[.int .i64 l, .int .i64 c], .agg #[.int .i64 l', .int .i64 c']] w fun e w' => e = .returned (.bool true) ∧ Below w.heap.size w w' := by
  have HB := Lib.hid h
  clear h
  go_enter Try.func3, Try.ntmps3
  go_wp2_with fail
  refine ((fun w => below_err1 l c l' c' w HB.out) _).mono ?_
  rintro e w1 ⟨rfl, hb1, hz1⟩
  obtain ⟨hc1, hf1⟩ := bcell hb1
  have hB1 : Below w.heap.size w w1 := by
    refine Below.trans ?_ (hb1.mono ?_)
    · go_grown
    · simp [] <;> omega
  try simp [Nat.add_assoc] at hz1
  go_wp2_with fail
  refine ((fun w => join_err1 l c l' c' w HB.out) _).mono ?_
  rintro e w2 ⟨rfl, hb2, hz2⟩
  obtain ⟨hc2, hf2⟩ := bcell hb2
  have hB2 : Below w.heap.size w w2 := by
    refine Below.trans ?_ (hb2.mono ?_)
    · go_grown
    · simp [hz1] <;> omega
  try simp [hz1, Nat.add_assoc] at hz2
  go_wp2_with fail
  refine ((fun w => meet_err1 l c l' c' w HB.out) _).mono ?_
  rintro e w3 ⟨rfl, hb3, hz3⟩
  obtain ⟨hc3, hf3⟩ := bcell hb3
  have hB3 : Below w.heap.size w w3 := by
    refine Below.trans ?_ (hb3.mono ?_)
    · go_grown
    · simp [hz2] <;> omega
  try simp [hz2, Nat.add_assoc] at hz3
  go_wp2_with fail
  refine ((fun w => count_err l c w HB.out) _).mono ?_
  rintro e w4 ⟨rfl, hb4, hz4⟩
  obtain ⟨hc4, hf4⟩ := bcell hb4
  have hB4 : Below w.heap.size w w4 := by
    refine Below.trans ?_ (hb4.mono ?_)
    · go_grown
    · simp [hz3] <;> omega
  try simp [hz3, Nat.add_assoc] at hz4
  go_wp2_with fail
  refine ((fun w => rank_err l c w HB.out) _).mono ?_
  rintro e w5 ⟨rfl, hb5, hz5⟩
  obtain ⟨hc5, hf5⟩ := bcell hb5
  have hB5 : Below w.heap.size w w5 := by
    refine Below.trans ?_ (hb5.mono ?_)
    · go_grown
    · simp [hz4] <;> omega
  try simp [hz4, Nat.add_assoc] at hz5
  go_upto_region 6 with (fail)
  go_cut [15, 16] from 55 to 58 (fun s15 s16 wc => TwoCalls 25 1 w w5 s15 s16 wc)
  case first =>
    go_region_with (go_at_call 19; refine (refLabel_bad l c _ HB.out).mono ?_; rintro e wp ⟨rfl, hbp, hzp⟩; obtain ⟨hcp, hfp⟩ := bcell hbp)
    all_goals (go_wp2_with fail; go_meet)
    all_goals
      case rel =>
        refine twoCalls_of (w1 := w5.drew) hz5 hB5 ?_ rfl ⟨rfl, rfl, rfl⟩ ?_ hbp rfl ⟨rfl, rfl, rfl⟩ hzp
        · assumption
        · assumption
  case rest =>
    obtain ⟨rfl, rfl, hcc, hfc, hzc, hBc⟩ := hcut
    go_wp2_with fail
    refine ((fun w => check_bad l c w HB.out) _).mono ?_
    rintro e w6 ⟨rfl, hb6, hz6⟩
    obtain ⟨hc6, hf6⟩ := bcell hb6
    have hB6 : Below w.heap.size w w6 := by
      refine Below.trans ?_ (hb6.mono ?_)
      · go_grown
      · simp [hzc] <;> omega
    try simp [hzc, Nat.add_assoc] at hz6
    go_wp2_with fail
    refine ((fun w => check_bad 4 0 w (by omega)) _).mono ?_
    rintro e w7 ⟨rfl, hb7, hz7⟩
    obtain ⟨hc7, hf7⟩ := bcell hb7
    have hB7 : Below w.heap.size w w7 := by
      refine Below.trans ?_ (hb7.mono ?_)
      · go_grown
      · simp [hz6] <;> omega
    try simp [hz6, Nat.add_assoc] at hz7
    go_wp2_with fail
    go_ret
    refine ⟨rfl, ?_⟩
    go_grown
end Go.Proofs.Ythbimgibpiejcaa
