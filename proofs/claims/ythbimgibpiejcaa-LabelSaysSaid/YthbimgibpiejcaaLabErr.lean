/- Contracts of package label's calls at labels that may not be, and of wyref.Label and wyref.Below. -/
import Derived.Test.YthbimgibpiejcaaLab4
import Derived.Test.YthbimgibpiejcaaKinds
set_option linter.unusedVariables false
set_option linter.unusedSimpArgs false
namespace Go.Proofs.Ythbimgibpiejcaa
open Go.RowKit

set_option maxHeartbeats 400000 in
theorem below_err1 (l c l' c' : Int) (w : World) (h : ¬ (0 ≤ l ∧ l ≤ 3 ∧ 0 ≤ c ∧ c ≤ 255)) :
    Calls Try.prog 14 #[.agg #[.int .i64 l, .int .i64 c], .agg #[.int .i64 l', .int .i64 c']] w fun e w' =>
      e = .returned (.tuple #[.bool false, .int .i64 1]) ∧ Below w.heap.size w w' ∧ w'.heap.size = w.heap.size + 5 := by
  have H := Lib.hid h
  clear h
  go_enter Try.func14, Try.ntmps14
  go_wp2_with fail
  refine (both_bad1 l c l' c' _ H.out).mono ?_
  rintro e w1 ⟨rfl, hb, hz1⟩
  obtain ⟨hc, hf⟩ := bcell hb
  go_wp2_with fail
  go_ret2
  exact ⟨rfl, ((((Below.refl _ _).alloc (Nat.le_refl _) _).alloc (by simp) _).trans (hb.mono (by simp; omega))), by simp at hz1; omega⟩

set_option maxHeartbeats 400000 in
theorem below_err2 (l c l' c' : Int) (w : World) (h1 : 0 ≤ l) (h2 : l ≤ 3) (h3 : 0 ≤ c) (h4 : c ≤ 255) (h : ¬ (0 ≤ l' ∧ l' ≤ 3 ∧ 0 ≤ c' ∧ c' ≤ 255)) :
    Calls Try.prog 14 #[.agg #[.int .i64 l, .int .i64 c], .agg #[.int .i64 l', .int .i64 c']] w fun e w' =>
      e = .returned (.tuple #[.bool false, .int .i64 1]) ∧ Below w.heap.size w w' ∧ w'.heap.size = w.heap.size + 6 := by
  have H := Lib.hid h
  clear h
  go_enter Try.func14, Try.ntmps14
  go_wp2_with fail
  refine (both_bad2 l c l' c' _ h1 h2 h3 h4 H.out).mono ?_
  rintro e w1 ⟨rfl, hb, hz1⟩
  obtain ⟨hc, hf⟩ := bcell hb
  go_wp2_with fail
  go_ret2
  exact ⟨rfl, ((((Below.refl _ _).alloc (Nat.le_refl _) _).alloc (by simp) _).trans (hb.mono (by simp; omega))), by simp at hz1; omega⟩

set_option maxHeartbeats 400000 in
theorem join_err1 (l c l' c' : Int) (w : World) (h : ¬ (0 ≤ l ∧ l ≤ 3 ∧ 0 ≤ c ∧ c ≤ 255)) :
    Calls Try.prog 15 #[.agg #[.int .i64 l, .int .i64 c], .agg #[.int .i64 l', .int .i64 c']] w fun e w' =>
      e = .returned (.tuple #[.agg #[.int .i64 0, .int .i64 0], .int .i64 1]) ∧ Below w.heap.size w w' ∧ w'.heap.size = w.heap.size + 6 := by
  have H := Lib.hid h
  clear h
  go_enter Try.func15, Try.ntmps15
  go_wp2_with fail
  refine (both_bad1 l c l' c' _ H.out).mono ?_
  rintro e w1 ⟨rfl, hb, hz1⟩
  obtain ⟨hc, hf⟩ := bcell hb
  have hz : w.heap.size + 2 < w1.heap.size := by have := hb.size; simp at this; omega
  go_wp2_with fail
  refine bodyPost_ret (v := .tuple #[.agg #[.int .i64 0, .int .i64 0], .int .i64 1]) (by simp [results, Try.results15, go_sem, hc]) rfl ⟨rfl, ?_, by simp at hz1; simp [hz1]⟩
  exact ((((((Below.refl _ _).alloc (Nat.le_refl _) _).alloc (by simp) _).alloc (by simp; omega) _).trans (hb.mono (by simp; omega))).setCell (by simp; omega) _).setCell (by simp; omega) _

set_option maxHeartbeats 400000 in
theorem join_err2 (l c l' c' : Int) (w : World) (h1 : 0 ≤ l) (h2 : l ≤ 3) (h3 : 0 ≤ c) (h4 : c ≤ 255) (h : ¬ (0 ≤ l' ∧ l' ≤ 3 ∧ 0 ≤ c' ∧ c' ≤ 255)) :
    Calls Try.prog 15 #[.agg #[.int .i64 l, .int .i64 c], .agg #[.int .i64 l', .int .i64 c']] w fun e w' =>
      e = .returned (.tuple #[.agg #[.int .i64 0, .int .i64 0], .int .i64 1]) ∧ Below w.heap.size w w' ∧ w'.heap.size = w.heap.size + 7 := by
  have H := Lib.hid h
  clear h
  go_enter Try.func15, Try.ntmps15
  go_wp2_with fail
  refine (both_bad2 l c l' c' _ h1 h2 h3 h4 H.out).mono ?_
  rintro e w1 ⟨rfl, hb, hz1⟩
  obtain ⟨hc, hf⟩ := bcell hb
  have hz : w.heap.size + 2 < w1.heap.size := by have := hb.size; simp at this; omega
  go_wp2_with fail
  refine bodyPost_ret (v := .tuple #[.agg #[.int .i64 0, .int .i64 0], .int .i64 1]) (by simp [results, Try.results15, go_sem, hc]) rfl ⟨rfl, ?_, by simp at hz1; simp [hz1]⟩
  exact ((((((Below.refl _ _).alloc (Nat.le_refl _) _).alloc (by simp) _).alloc (by simp; omega) _).trans (hb.mono (by simp; omega))).setCell (by simp; omega) _).setCell (by simp; omega) _

set_option maxHeartbeats 400000 in
theorem meet_err1 (l c l' c' : Int) (w : World) (h : ¬ (0 ≤ l ∧ l ≤ 3 ∧ 0 ≤ c ∧ c ≤ 255)) :
    Calls Try.prog 16 #[.agg #[.int .i64 l, .int .i64 c], .agg #[.int .i64 l', .int .i64 c']] w fun e w' =>
      e = .returned (.tuple #[.agg #[.int .i64 0, .int .i64 0], .int .i64 1]) ∧ Below w.heap.size w w' ∧ w'.heap.size = w.heap.size + 6 := by
  have H := Lib.hid h
  clear h
  go_enter Try.func16, Try.ntmps16
  go_wp2_with fail
  refine (both_bad1 l c l' c' _ H.out).mono ?_
  rintro e w1 ⟨rfl, hb, hz1⟩
  obtain ⟨hc, hf⟩ := bcell hb
  have hz : w.heap.size + 2 < w1.heap.size := by have := hb.size; simp at this; omega
  go_wp2_with fail
  refine bodyPost_ret (v := .tuple #[.agg #[.int .i64 0, .int .i64 0], .int .i64 1]) (by simp [results, Try.results16, go_sem, hc]) rfl ⟨rfl, ?_, by simp at hz1; simp [hz1]⟩
  exact ((((((Below.refl _ _).alloc (Nat.le_refl _) _).alloc (by simp) _).alloc (by simp; omega) _).trans (hb.mono (by simp; omega))).setCell (by simp; omega) _).setCell (by simp; omega) _

set_option maxHeartbeats 400000 in
theorem meet_err2 (l c l' c' : Int) (w : World) (h1 : 0 ≤ l) (h2 : l ≤ 3) (h3 : 0 ≤ c) (h4 : c ≤ 255) (h : ¬ (0 ≤ l' ∧ l' ≤ 3 ∧ 0 ≤ c' ∧ c' ≤ 255)) :
    Calls Try.prog 16 #[.agg #[.int .i64 l, .int .i64 c], .agg #[.int .i64 l', .int .i64 c']] w fun e w' =>
      e = .returned (.tuple #[.agg #[.int .i64 0, .int .i64 0], .int .i64 1]) ∧ Below w.heap.size w w' ∧ w'.heap.size = w.heap.size + 7 := by
  have H := Lib.hid h
  clear h
  go_enter Try.func16, Try.ntmps16
  go_wp2_with fail
  refine (both_bad2 l c l' c' _ h1 h2 h3 h4 H.out).mono ?_
  rintro e w1 ⟨rfl, hb, hz1⟩
  obtain ⟨hc, hf⟩ := bcell hb
  have hz : w.heap.size + 2 < w1.heap.size := by have := hb.size; simp at this; omega
  go_wp2_with fail
  refine bodyPost_ret (v := .tuple #[.agg #[.int .i64 0, .int .i64 0], .int .i64 1]) (by simp [results, Try.results16, go_sem, hc]) rfl ⟨rfl, ?_, by simp at hz1; simp [hz1]⟩
  exact ((((((Below.refl _ _).alloc (Nat.le_refl _) _).alloc (by simp) _).alloc (by simp; omega) _).trans (hb.mono (by simp; omega))).setCell (by simp; omega) _).setCell (by simp; omega) _

set_option maxHeartbeats 400000 in
theorem count_err (l c : Int) (w : World) (h : ¬ (0 ≤ l ∧ l ≤ 3 ∧ 0 ≤ c ∧ c ≤ 255)) :
    Calls Try.prog 17 #[.agg #[.int .i64 l, .int .i64 c]] w fun e w' =>
      e = .returned (.tuple #[.int .i64 0, .int .i64 1]) ∧ Below w.heap.size w w' ∧ w'.heap.size = w.heap.size + 2 := by
  have H := Lib.hid h
  clear h
  go_enter Try.func17, Try.ntmps17
  go_wp2_with fail
  refine (check_bad l c _ H.out).mono ?_
  rintro e w1 ⟨rfl, hb, hz1⟩
  obtain ⟨hc, hf⟩ := bcell hb
  go_wp2_with fail
  go_ret2
  exact ⟨rfl, (((Below.refl _ _).alloc (Nat.le_refl _) _).trans (hb.mono (by simp))), by simp at hz1; omega⟩

set_option maxHeartbeats 400000 in
theorem rank_err (l c : Int) (w : World) (h : ¬ (0 ≤ l ∧ l ≤ 3 ∧ 0 ≤ c ∧ c ≤ 255)) :
    Calls Try.prog 18 #[.agg #[.int .i64 l, .int .i64 c]] w fun e w' =>
      e = .returned (.tuple #[.int .i64 0, .int .i64 1]) ∧ Below w.heap.size w w' ∧ w'.heap.size = w.heap.size + 2 := by
  have H := Lib.hid h
  clear h
  go_enter Try.func18, Try.ntmps18
  go_wp2_with fail
  refine (check_bad l c _ H.out).mono ?_
  rintro e w1 ⟨rfl, hb, hz1⟩
  obtain ⟨hc, hf⟩ := bcell hb
  go_wp2_with fail
  go_ret2
  exact ⟨rfl, (((Below.refl _ _).alloc (Nat.le_refl _) _).trans (hb.mono (by simp))), by simp at hz1; omega⟩

set_option maxHeartbeats 400000 in
theorem cats_yes (c : Int) (w : World) (h1 : 0 ≤ c) (h2 : c ≤ 255) : Calls Try.prog 38 #[.int .i64 c] w fun e w' => e = .returned (.bool true) ∧ w = w' := by
  go_enter Try.func38, Try.ntmps38
  go_wp2_with fail
  refine (within_yes c 0 255 _ h1 h2).mono ?_
  rintro e w' ⟨rfl, rfl⟩
  go_wp2_with fail
  go_ret
  exact ⟨rfl, rfl⟩
set_option maxHeartbeats 400000 in
theorem cats_no (c : Int) (w : World) (h : ¬ (0 ≤ c ∧ c ≤ 255)) : Calls Try.prog 38 #[.int .i64 c] w fun e w' => e = .returned (.bool false) ∧ w = w' := by
  have H := Lib.hid h
  clear h
  go_enter Try.func38, Try.ntmps38
  go_wp2_with fail
  refine (within_no c 0 255 _ H.out).mono ?_
  rintro e w' ⟨rfl, rfl⟩
  go_wp2_with fail
  go_ret
  exact ⟨rfl, rfl⟩

set_option maxHeartbeats 400000 in
theorem refLabel_ok (l c : Int) (w : World) (h1 : 0 ≤ l) (h2 : l ≤ 3) (h3 : 0 ≤ c) (h4 : c ≤ 255) :
    Calls Try.prog 19 #[.agg #[.int .i64 l, .int .i64 c]] w fun e w' => e = .returned (.int .i64 0) ∧ Below w.heap.size w w' ∧ w'.heap.size = w.heap.size + 1 := by
  go_enter Try.func19, Try.ntmps19
  go_wp2_with fail
  refine (within_yes l 0 3 _ h1 h2).mono ?_
  rintro e w' ⟨rfl, rfl⟩
  go_wp2_with fail
  refine (cats_yes c _ h3 h4).mono ?_
  rintro e w' ⟨rfl, rfl⟩
  go_wp2_with fail
  go_ret
  exact ⟨rfl, by go_grown, by simp⟩

set_option maxHeartbeats 400000 in
theorem refLabel_bad (l c : Int) (w : World) (h : ¬ (0 ≤ l ∧ l ≤ 3 ∧ 0 ≤ c ∧ c ≤ 255)) :
    Calls Try.prog 19 #[.agg #[.int .i64 l, .int .i64 c]] w fun e w' => e = .returned (.int .i64 1) ∧ Below w.heap.size w w' ∧ w'.heap.size = w.heap.size + 1 := by
  by_cases hl : 0 ≤ l ∧ l ≤ 3
  · have hc : ¬ (0 ≤ c ∧ c ≤ 255) := by omega
    have H := Lib.hid hc
    obtain ⟨h1, h2⟩ := hl
    clear hc h
    go_enter Try.func19, Try.ntmps19
    go_wp2_with fail
    refine (within_yes l 0 3 _ h1 h2).mono ?_
    rintro e w' ⟨rfl, rfl⟩
    go_wp2_with fail
    refine (cats_no c _ H.out).mono ?_
    rintro e w' ⟨rfl, rfl⟩
    go_wp2_with fail
    go_ret
    exact ⟨rfl, by go_grown, by simp⟩
  · have H := Lib.hid hl
    clear hl h
    go_enter Try.func19, Try.ntmps19
    go_wp2_with fail
    refine (within_no l 0 3 _ H.out).mono ?_
    rintro e w' ⟨rfl, rfl⟩
    go_wp2_with fail
    go_ret
    exact ⟨rfl, by go_grown, by simp⟩

set_option maxHeartbeats 400000 in
theorem refBelow_any (x y : Lab) (w : World) :
    Calls Try.prog 22 #[.agg #[.int .i64 (x.lv : Int), .int .i64 (x.ct : Int)], .agg #[.int .i64 (y.lv : Int), .int .i64 (y.ct : Int)]] w fun e w' => e = .returned (.bool (x.below y)) ∧ Below w.heap.size w w' := by
  have hx := x.hc
  have hy := y.hc
  by_cases hl : x.lv ≤ y.lv
  · have hr : Hid (x.below y = decide (sub x.ct y.ct = 0)) := by
      show x.below y = _
      unfold Lab.below
      rw [decide_eq_true hl, Bool.true_and]
    go_enter Try.func22, Try.ntmps22
    go_wp2_with fail
    refine (part_any _ _ _ (by omega) (by omega)).mono ?_
    rintro e w1 ⟨rfl, hb⟩
    go_wp2_with fail
    go_ret
    exact ⟨ret_bool hr.out.symm, (((Below.refl _ _).alloc (Nat.le_refl _) _).alloc (by simp) _).trans (hb.mono (by simp; omega))⟩
  · have hr : Hid (x.below y = false) := by
      show x.below y = _
      unfold Lab.below
      rw [decide_eq_false hl, Bool.false_and]
    go_enter Try.func22, Try.ntmps22
    go_wp2_with fail
    go_ret
    exact ⟨ret_bool hr.out.symm, (((Below.refl _ _).alloc (Nat.le_refl _) _).alloc (by simp) _)⟩
end Go.Proofs.Ythbimgibpiejcaa
