/- Contracts of slices.Contains and slices.IsSorted at names. -/
import Derived.Test.YteimdhkajbldjaaSFine
import Derived.BigQuiet
import Derived.WalkSmall
set_option linter.unusedVariables false
set_option linter.unusedSimpArgs false
set_option maxRecDepth 100000
namespace Go.Proofs.Yteimdhkajbldjaa
open Go.RowKit Go.Sort

set_option maxHeartbeats 1000000 in
set_option maxHeartbeats 400000 in
theorem nanS_is (x : ByteArray) (w : World) : Calls Try.prog 112 #[.string x] w fun e w' => e = .returned (.bool false) ∧ w' = w := by
  have e1 : (x.toList == x.toList) = true := sEq_iff.2 rfl
  go_enter Try.func112, Try.ntmps112
  go_wp2_with fail
  go_ret
  exact ⟨rfl, rfl⟩
theorem less_is {b : Bool} (x y : ByteArray) (w : World) (hb : sLt x y = b) : Calls Try.prog 102 #[.string x, .string y] w fun e w' => e = .returned (.bool b) ∧ w' = w := by
  have h1 : Op.bytesLess x.toList y.toList = b := hb
  clear hb
  go_enter Try.func102, Try.ntmps102
  go_wp2_with (go_at_call 112; refine (nanS_is _ _).mono ?_; rintro e w' ⟨rfl, rfl⟩)
  go_ret
  exact ⟨rfl, rfl⟩

end Go.Proofs.Yteimdhkajbldjaa
