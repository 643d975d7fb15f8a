/- Contracts of Count and Rank at labels that may be. -/
import Derived.Test.YthbimgibpiejcaaOnes
import Derived.Deep.QuietTactic
import Derived.BigQuiet
namespace Go.Proofs.Ythbimgibpiejcaa
open Go.RowKit

theorem ret_num {a b : Int} (h : a = b) : Ending.returned (.tuple #[.int .i64 a, .int .i64 0]) = .returned (.tuple #[.int .i64 b, .int .i64 0]) := by rw [h]
theorem pow_small (l n : Nat) (h2 : l ≤ 3) (h : n ≤ 8) : wrap64 (((l : Int) + 1) * 2 ^ n) = ((l + 1) * 2 ^ n : Nat) := by
  have h1 : (l + 1) * 2 ^ n ≤ 4 * 2 ^ 8 := Nat.mul_le_mul (by omega) (Nat.pow_le_pow_right (by omega) h)
  have e : (((l : Int) + 1) * 2 ^ n) = (((l + 1) * 2 ^ n : Nat) : Int) := by simp
  rw [e]
  generalize (l + 1) * 2 ^ n = m at h1
  unfold wrap64
  omega
theorem ones_le (c : Nat) (h : c ≤ 255) : Lib.onesCount c ≤ 8 := Lib.onesCount_le8 ⟨c, by omega⟩

set_option maxHeartbeats 400000 in
theorem count_ok (l c : Nat) (w : World) (h2 : l ≤ 3) (h4 : c ≤ 255) :
    Calls Try.prog 17 #[.agg #[.int .i64 l, .int .i64 c]] w fun e w' =>
      e = .returned (.tuple #[.int .i64 ((l + 1) * 2 ^ Lib.onesCount c : Nat), .int .i64 0]) ∧ Below w.heap.size w w' ∧ w'.heap.size = w.heap.size + 2 := by
  have ho := ones_le c h4
  go_enter Try.func17, Try.ntmps17
  go_wp2_with fail
  refine (check_ok _ _ _ (by omega) (by omega) (by omega) (by omega)).mono ?_
  rintro e w1 ⟨rfl, hb, hz1⟩
  obtain ⟨hc, hf⟩ := bcell hb
  have c0 : w1.cell? ⟨w.heap.size, 0, none⟩ = some (.int .i64 l) := by rw [hc _ _ (by simp)]; simp
  have c1 : w1.cell? ⟨w.heap.size, 1, none⟩ = some (.int .i64 c) := by rw [hc _ _ (by simp)]; simp
  clear hc hf
  go_wp2_with fail
  go_quiet ((go_at_call 36; exact Calls.quiet_of_same ((ones_any c _ h4).mono fun _ _ ⟨a, b⟩ => ⟨a, b.symm⟩)))
  go_wp2_with fail
  go_ret2
  exact ⟨ret_num (pow_small l _ h2 ho), (below_drewN (((Below.refl _ _).alloc (Nat.le_refl _) _).trans (hb.mono (by simp))) _), by simp at hz1; simp [World.drewN, hz1]⟩

set_option maxHeartbeats 400000 in
theorem rank_ok (l c : Nat) (w : World) (h2 : l ≤ 3) (h4 : c ≤ 255) :
    Calls Try.prog 18 #[.agg #[.int .i64 l, .int .i64 c]] w fun e w' =>
      e = .returned (.tuple #[.int .i64 (l + Lib.onesCount c : Nat), .int .i64 0]) ∧ Below w.heap.size w w' ∧ w'.heap.size = w.heap.size + 2 := by
  have ho := ones_le c h4
  go_enter Try.func18, Try.ntmps18
  go_wp2_with fail
  refine (check_ok _ _ _ (by omega) (by omega) (by omega) (by omega)).mono ?_
  rintro e w1 ⟨rfl, hb, hz1⟩
  obtain ⟨hc, hf⟩ := bcell hb
  have c0 : w1.cell? ⟨w.heap.size, 0, none⟩ = some (.int .i64 l) := by rw [hc _ _ (by simp)]; simp
  have c1 : w1.cell? ⟨w.heap.size, 1, none⟩ = some (.int .i64 c) := by rw [hc _ _ (by simp)]; simp
  clear hc hf
  go_wp2_with fail
  go_quiet ((go_at_call 36; exact Calls.quiet_of_same ((ones_any c _ h4).mono fun _ _ ⟨a, b⟩ => ⟨a, b.symm⟩)))
  go_wp2_with fail
  go_ret2
  exact ⟨ret_num (by simp), (below_drewN (((Below.refl _ _).alloc (Nat.le_refl _) _).trans (hb.mono (by simp))) _), by simp at hz1; simp [World.drewN, hz1]⟩
end Go.Proofs.Ythbimgibpiejcaa
