/- Contracts of Below, Join, Meet, Count, Rank at labels that may be. -/
import Derived.Test.YthbimgibpiejcaaLab1
namespace Go.Proofs.Ythbimgibpiejcaa
open Go.RowKit

theorem ret_same {k : IntKind} {a b : Int} (h : a = b) : Value.int k a = Value.int k b := by rw [h]

set_option maxHeartbeats 400000 in
theorem join_ok (l c l' c' : Nat) (w : World) (h2 : l ≤ 3) (h4 : c ≤ 255) (h2' : l' ≤ 3) (h4' : c' ≤ 255) :
    Calls Try.prog 15 #[.agg #[.int .i64 l, .int .i64 c], .agg #[.int .i64 l', .int .i64 c']] w fun e w' =>
      e = .returned (.tuple #[.agg #[.int .i64 (max l l' : Nat), .int .i64 (c ||| c' : Nat)], .int .i64 0]) ∧ Below w.heap.size w w' ∧ w'.heap.size = w.heap.size + 7 := by
  have H : Hid (bits .or .i64 (c : Int) (c' : Int) = ((c ||| c' : Nat) : Int)) := i64_or c c' (by omega) (by omega)
  rcases Nat.lt_or_ge l l' with hl | hl
  all_goals
    go_enter Try.func15, Try.ntmps15
    go_wp2_with fail
    refine (both_ok _ _ _ _ _ (by omega) (by omega) (by omega) (by omega) (by omega) (by omega) (by omega) (by omega)).mono ?_
    rintro e w1 ⟨rfl, hb, hz1⟩
    obtain ⟨hc, hf⟩ := bcell hb
    have hz : w.heap.size + 2 < w1.heap.size := by have := hb.size; simp at this; omega
    go_wp2_with fail
  · refine bodyPost_ret (v := .tuple #[.agg #[.int .i64 l', .int .i64 (bits .or .i64 (c : Int) (c' : Int))], .int .i64 0]) (by simp [results, Try.results15, go_sem, hc]) rfl ⟨?_, ?_, by simp at hz1; simp [hz1]⟩
    · rw [H.out, Nat.max_eq_right (Nat.le_of_lt hl)]
    · exact ((((((Below.refl _ _).alloc (Nat.le_refl _) _).alloc (by simp) _).alloc (by simp; omega) _).trans (hb.mono (by simp; omega))).setCell (by simp; omega) _).setCell (by simp; omega) _
  · refine bodyPost_ret (v := .tuple #[.agg #[.int .i64 l, .int .i64 (bits .or .i64 (c : Int) (c' : Int))], .int .i64 0]) (by simp [results, Try.results15, go_sem, hc]) rfl ⟨?_, ?_, by simp at hz1; simp [hz1]⟩
    · rw [H.out, Nat.max_eq_left hl]
    · exact ((((((Below.refl _ _).alloc (Nat.le_refl _) _).alloc (by simp) _).alloc (by simp; omega) _).trans (hb.mono (by simp; omega))).setCell (by simp; omega) _).setCell (by simp; omega) _

theorem ret_tuple {b b' : Bool} (h : b = b') : Ending.returned (.tuple #[.bool b, .int .i64 0]) = .returned (.tuple #[.bool b', .int .i64 0]) := by rw [h]

set_option maxHeartbeats 400000 in
theorem below_ok (l c l' c' : Nat) (w : World) (h2 : l ≤ 3) (h4 : c ≤ 255) (h2' : l' ≤ 3) (h4' : c' ≤ 255) :
    Calls Try.prog 14 #[.agg #[.int .i64 l, .int .i64 c], .agg #[.int .i64 l', .int .i64 c']] w fun e w' =>
      e = .returned (.tuple #[.bool (decide (l ≤ l') && decide (sub c c' = 0)), .int .i64 0]) ∧ Below w.heap.size w w' ∧ w'.heap.size = w.heap.size + 6 := by
  have H : Hid (bits .andNot .i64 (c : Int) (c' : Int) = ((sub c c' : Nat) : Int)) := i64_andNot c c' (by omega) (by omega)
  by_cases hl : l ≤ l'
  all_goals
    go_enter Try.func14, Try.ntmps14
    go_wp2_with fail
    refine (both_ok _ _ _ _ _ (by omega) (by omega) (by omega) (by omega) (by omega) (by omega) (by omega) (by omega)).mono ?_
    rintro e w1 ⟨rfl, hb, hz1⟩
    obtain ⟨hc, hf⟩ := bcell hb
    go_wp2_with fail
    go_ret2
    refine ⟨ret_tuple ?_, ((((Below.refl _ _).alloc (Nat.le_refl _) _).alloc (by simp) _).trans (hb.mono (by simp; omega))), by simp at hz1; omega⟩
  · rw [H.out]
    simp only [hl, decide_true, Bool.true_and]
    rw [Bool.eq_iff_iff]
    simp
  · simp [hl]

set_option maxHeartbeats 400000 in
theorem meet_ok (l c l' c' : Nat) (w : World) (h2 : l ≤ 3) (h4 : c ≤ 255) (h2' : l' ≤ 3) (h4' : c' ≤ 255) :
    Calls Try.prog 16 #[.agg #[.int .i64 l, .int .i64 c], .agg #[.int .i64 l', .int .i64 c']] w fun e w' =>
      e = .returned (.tuple #[.agg #[.int .i64 (min l l' : Nat), .int .i64 (c &&& c' : Nat)], .int .i64 0]) ∧ Below w.heap.size w w' ∧ w'.heap.size = w.heap.size + 7 := by
  have H : Hid (bits .and .i64 (c : Int) (c' : Int) = ((c &&& c' : Nat) : Int)) := i64_and c c' (by omega) (by omega)
  rcases Nat.lt_or_ge l' l with hl | hl
  all_goals
    go_enter Try.func16, Try.ntmps16
    go_wp2_with fail
    refine (both_ok _ _ _ _ _ (by omega) (by omega) (by omega) (by omega) (by omega) (by omega) (by omega) (by omega)).mono ?_
    rintro e w1 ⟨rfl, hb, hz1⟩
    obtain ⟨hc, hf⟩ := bcell hb
    have hz : w.heap.size + 2 < w1.heap.size := by have := hb.size; simp at this; omega
    go_wp2_with fail
  · refine bodyPost_ret (v := .tuple #[.agg #[.int .i64 l', .int .i64 (bits .and .i64 (c : Int) (c' : Int))], .int .i64 0]) (by simp [results, Try.results16, go_sem, hc]) rfl ⟨?_, ?_, by simp at hz1; simp [hz1]⟩
    · rw [H.out, Nat.min_eq_right (Nat.le_of_lt hl)]
    · exact ((((((Below.refl _ _).alloc (Nat.le_refl _) _).alloc (by simp) _).alloc (by simp; omega) _).trans (hb.mono (by simp; omega))).setCell (by simp; omega) _).setCell (by simp; omega) _
  · refine bodyPost_ret (v := .tuple #[.agg #[.int .i64 l, .int .i64 (bits .and .i64 (c : Int) (c' : Int))], .int .i64 0]) (by simp [results, Try.results16, go_sem, hc]) rfl ⟨?_, ?_, by simp at hz1; simp [hz1]⟩
    · rw [H.out, Nat.min_eq_left hl]
    · exact ((((((Below.refl _ _).alloc (Nat.le_refl _) _).alloc (by simp) _).alloc (by simp; omega) _).trans (hb.mono (by simp; omega))).setCell (by simp; omega) _).setCell (by simp; omega) _

/-- the level and the kinds that the laws draw of a number -/
def lvl (k : Int) : Nat := (k / 256 % 4).toNat
def cat (k : Int) : Nat := (k % 256).toNat
theorem lvl_le (k : Int) : lvl k ≤ 3 := by unfold lvl; omega
theorem cat_le (k : Int) : cat k ≤ 255 := by unfold cat; omega

set_option maxHeartbeats 400000 in
theorem secret_any (k : Int) (w : World) :
    Calls Try.prog 31 #[.int .i64 k] w fun e w' =>
      e = .returned (.agg #[.int .i64 (lvl k : Nat), .int .i64 (cat k : Nat)]) ∧ Below w.heap.size w w' ∧ w'.heap.size = w.heap.size + 1 := by
  have H1 : Hid (bits .and .i64 (k / 256) 3 = (lvl k : Nat)) := (i64_and_any (k / 256) 3 2 rfl (by omega)).trans (by unfold lvl; omega)
  have H2 : Hid (bits .and .i64 k 255 = (cat k : Nat)) := (i64_and_any k 255 8 rfl (by omega)).trans (by unfold cat; omega)
  go_enter Try.func31, Try.ntmps31
  go_wp2_with fail
  refine bodyPost_ret (v := .agg #[.int .i64 (bits .and .i64 (k / 256) 3), .int .i64 (bits .and .i64 k 255)]) (by simp [results, Try.results31, go_sem]) rfl ⟨?_, ?_, by simp⟩
  · rw [H1.out, H2.out]
  · go_grown

end Go.Proofs.Ythbimgibpiejcaa
