/- The contract of wykeep.Within. -/
import Derived.Test.YtbchfodmdgogjaaGreatDoorBase
set_option linter.unusedVariables false
set_option linter.unusedSimpArgs false
set_option maxRecDepth 100000
namespace Go.Proofs.YtbchfodmdgogjaaGreatDoor
open Go.RowKit

set_option maxHeartbeats 400000 in
theorem wit_any (k n : Int) (w : World) (h0 : 0 < n) (h1 : n ≤ 1000000) :
    Calls Tryz.prog 18 #[.int .i64 k, .int .i64 n] w fun e w' => e = .returned (.int .i64 (wit k n : Nat)) ∧ w = w' := by
  go_enter Tryz.func18, Tryz.ntmps18
  go_wp2
  go_ret
  exact ⟨ret_int (within_eq k n h0 h1), rfl⟩

theorem wit_to {k n : Int} {i : Nat} (h : wit k n = i) (w : World) (h0 : 0 < n) (h1 : n ≤ 1000000) :
    Calls Tryz.prog 18 #[.int .i64 k, .int .i64 n] w fun e w' => e = .returned (.int .i64 (i : Int)) ∧ w = w' := by
  rw [← h]
  exact wit_any k n w h0 h1
end Go.Proofs.YtbchfodmdgogjaaGreatDoor
