/- Contracts of label.Check, Join, Below at labels that may be. -/
import Derived.Test.YteimdhkajbldjaaRuleB
import Derived.WalkKit
import Derived.WalkSpells
import Derived.WalkLawsBesides
import Derived.Handy
set_option linter.unusedVariables false
set_option linter.unusedSimpArgs false
namespace Go.Proofs.Yteimdhkajbldjaa
open Go.RowKit


set_option maxHeartbeats 400000 in
theorem lcheck_ok (l c : Int) (w : World) (h1 : 0 ≤ l) (h2 : l ≤ 3) (h3 : 0 ≤ c) (h4 : c ≤ 255) :
    Calls Try.prog 52 #[.agg #[.int .i64 l, .int .i64 c]] w fun e w' => e = .returned (.int .i64 0) ∧ Below w.heap.size w w' ∧ w'.heap.size = w.heap.size + 1 := by
  have k1 : ¬ l < 0 := by omega
  have k2 : ¬ 3 < l := by omega
  have k4 : c < 256 := by omega
  go_enter Try.func52, Try.ntmps52
  go_wp2
  all_goals go_ret
  all_goals exact ⟨rfl, by go_grown, by simp⟩

set_option maxHeartbeats 400000 in
theorem lboth_ok (l c l' c' : Int) (w : World) (h1 : 0 ≤ l) (h2 : l ≤ 3) (h3 : 0 ≤ c) (h4 : c ≤ 255) (h1' : 0 ≤ l') (h2' : l' ≤ 3) (h3' : 0 ≤ c') (h4' : c' ≤ 255) :
    Calls Try.prog 59 #[.agg #[.int .i64 l, .int .i64 c], .agg #[.int .i64 l', .int .i64 c']] w fun e w' => e = .returned (.int .i64 0) ∧ Below w.heap.size w w' ∧ w'.heap.size = w.heap.size + 4 := by
  have k1 : ¬ l < 0 := by omega
  have k2 : ¬ 3 < l := by omega
  have k4 : c < 256 := by omega
  have k1' : ¬ l' < 0 := by omega
  have k2' : ¬ 3 < l' := by omega
  have k4' : c' < 256 := by omega
  go_enter Try.func59, Try.ntmps59
  go_wp2
  all_goals go_ret
  all_goals exact ⟨rfl, by go_grown, by simp⟩


theorem lret_same {k : IntKind} {a b : Int} (h : a = b) : Value.int k a = Value.int k b := by rw [h]

set_option maxHeartbeats 400000 in
theorem ljoin_ok (l c l' c' : Nat) (w : World) (h2 : l ≤ 3) (h4 : c ≤ 255) (h2' : l' ≤ 3) (h4' : c' ≤ 255) :
    Calls Try.prog 24 #[.agg #[.int .i64 l, .int .i64 c], .agg #[.int .i64 l', .int .i64 c']] w fun e w' =>
      e = .returned (.tuple #[.agg #[.int .i64 (max l l' : Nat), .int .i64 (c ||| c' : Nat)], .int .i64 0]) ∧ Below w.heap.size w w' ∧ w'.heap.size = w.heap.size + 7 := by
  have H : Hid (bits .or .i64 (c : Int) (c' : Int) = ((c ||| c' : Nat) : Int)) := i64_or c c' (by omega) (by omega)
  rcases Nat.lt_or_ge l l' with hl | hl
  all_goals
    go_enter Try.func24, Try.ntmps24
    go_wp2_with fail
    refine (lboth_ok _ _ _ _ _ (by omega) (by omega) (by omega) (by omega) (by omega) (by omega) (by omega) (by omega)).mono ?_
    rintro e w1 ⟨rfl, hb, hz1⟩
    obtain ⟨hc, hf⟩ := bcell hb
    have hz : w.heap.size + 2 < w1.heap.size := by have := hb.size; simp at this; omega
    go_wp2_with fail
  · refine bodyPost_ret (v := .tuple #[.agg #[.int .i64 l', .int .i64 (bits .or .i64 (c : Int) (c' : Int))], .int .i64 0]) (by simp [results, Try.results24, go_sem, hc]) rfl ⟨?_, ?_, by simp at hz1; simp [hz1]⟩
    · rw [H.out, Nat.max_eq_right (Nat.le_of_lt hl)]
    · exact ((((((Below.refl _ _).alloc (Nat.le_refl _) _).alloc (by simp) _).alloc (by simp; omega) _).trans (hb.mono (by simp; omega))).setCell (by simp; omega) _).setCell (by simp; omega) _
  · refine bodyPost_ret (v := .tuple #[.agg #[.int .i64 l, .int .i64 (bits .or .i64 (c : Int) (c' : Int))], .int .i64 0]) (by simp [results, Try.results24, go_sem, hc]) rfl ⟨?_, ?_, by simp at hz1; simp [hz1]⟩
    · rw [H.out, Nat.max_eq_left hl]
    · exact ((((((Below.refl _ _).alloc (Nat.le_refl _) _).alloc (by simp) _).alloc (by simp; omega) _).trans (hb.mono (by simp; omega))).setCell (by simp; omega) _).setCell (by simp; omega) _

theorem lret_tuple {b b' : Bool} (h : b = b') : Ending.returned (.tuple #[.bool b, .int .i64 0]) = .returned (.tuple #[.bool b', .int .i64 0]) := by rw [h]

set_option maxHeartbeats 400000 in
theorem lbelow_ok (l c l' c' : Nat) (w : World) (h2 : l ≤ 3) (h4 : c ≤ 255) (h2' : l' ≤ 3) (h4' : c' ≤ 255) :
    Calls Try.prog 27 #[.agg #[.int .i64 l, .int .i64 c], .agg #[.int .i64 l', .int .i64 c']] w fun e w' =>
      e = .returned (.tuple #[.bool (decide (l ≤ l') && decide (sub c c' = 0)), .int .i64 0]) ∧ Below w.heap.size w w' ∧ w'.heap.size = w.heap.size + 6 := by
  have H : Hid (bits .andNot .i64 (c : Int) (c' : Int) = ((sub c c' : Nat) : Int)) := i64_andNot c c' (by omega) (by omega)
  by_cases hl : l ≤ l'
  all_goals
    go_enter Try.func27, Try.ntmps27
    go_wp2_with fail
    refine (lboth_ok _ _ _ _ _ (by omega) (by omega) (by omega) (by omega) (by omega) (by omega) (by omega) (by omega)).mono ?_
    rintro e w1 ⟨rfl, hb, hz1⟩
    obtain ⟨hc, hf⟩ := bcell hb
    go_wp2_with fail
    go_ret2
    refine ⟨lret_tuple ?_, ((((Below.refl _ _).alloc (Nat.le_refl _) _).alloc (by simp) _).trans (hb.mono (by simp; omega))), by simp at hz1; omega⟩
  · rw [H.out]
    simp only [hl, decide_true, Bool.true_and]
    rw [Bool.eq_iff_iff]
    simp
  · simp [hl]
end Go.Proofs.Yteimdhkajbldjaa
