/- Contracts of role.Has. -/
import Derived.Test.YtpjmhajhmkfolaaRole
set_option linter.unusedVariables false
set_option linter.unusedSimpArgs false
namespace Go.Proofs.Ytpjmhajhmkfolaa
open Go.RowKit

set_option maxHeartbeats 400000 in
theorem has_valid {a : Option Addr} {n : Nat} {u : Nat → Nat} (cap i k : Nat) (w : World) (h : SlV w a n u) (hi : i < n) (hk : k < n) :
    Calls Try.prog 23 #[.slice a n cap, .int .i64 i, .int .i64 k] w fun e w' => e = .returned (.tuple #[.bool ((allU u i).testBit k), .int .i64 0]) ∧ w = w' := by
  have hlt := allU_lt h.2 hi
  have h8 := h.2.1
  go_enter Try.func23, Try.ntmps23
  go_wp2_with fail
  refine (all_valid cap i _ h hi).mono ?_
  rintro e w' ⟨rfl, rfl⟩
  go_wp2_with fail
  refine (isRole_yes a n cap k _ (by omega) (by omega)).mono ?_
  rintro e w' ⟨rfl, rfl⟩
  go_wp2_with fail
  refine (has_any _ k _ hlt (by omega)).mono ?_
  rintro e w' ⟨rfl, rfl⟩
  go_wp2_with fail
  go_ret2
  exact ⟨rfl, rfl⟩

set_option maxHeartbeats 400000 in
theorem has_nok {a : Option Addr} {n : Nat} {u : Nat → Nat} (cap i : Nat) (k : Int) (w : World) (h : SlV w a n u) (hi : i < n) (hk : ¬ (0 ≤ k ∧ k < n)) :
    Calls Try.prog 23 #[.slice a n cap, .int .i64 i, .int .i64 k] w fun e w' => e = .returned (.tuple #[.bool false, .int .i64 4]) ∧ w = w' := by
  go_enter Try.func23, Try.ntmps23
  go_wp2_with fail
  refine (all_valid cap i _ h hi).mono ?_
  rintro e w' ⟨rfl, rfl⟩
  go_wp2_with fail
  refine (isRole_no a n cap k _ hk).mono ?_
  rintro e w' ⟨rfl, rfl⟩
  go_wp2_with fail
  go_ret2
  exact ⟨rfl, rfl⟩

set_option maxHeartbeats 400000 in
theorem has_err {a : Option Addr} {n cap : Nat} (i k c : Int) (w : World) (hc : c = 1 ∨ c = 2 ∨ c = 4) (h : Calls Try.prog 39 #[.slice a n cap, .int .i64 i] w fun e w' => e = .returned (.int .i64 c) ∧ w = w') :
    Calls Try.prog 23 #[.slice a n cap, .int .i64 i, .int .i64 k] w fun e w' => e = .returned (.tuple #[.bool false, .int .i64 c]) ∧ w = w' := by
  have H := Lib.hid (all_err i c w hc h)
  rcases hc with rfl | rfl | rfl
  all_goals
    go_enter Try.func23, Try.ntmps23
    go_wp2_with fail
    refine H.out.mono ?_
    rintro e w' ⟨rfl, rfl⟩
    go_wp2_with fail
    go_ret2
    exact ⟨rfl, rfl⟩
end Go.Proofs.Ytpjmhajhmkfolaa
