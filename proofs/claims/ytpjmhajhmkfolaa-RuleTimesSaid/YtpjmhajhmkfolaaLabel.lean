/- Contracts of label.Check. -/
import Derived.Test.YtpjmhajhmkfolaaBase
set_option linter.unusedVariables false
set_option linter.unusedSimpArgs false
namespace Go.Proofs.Ytpjmhajhmkfolaa
open Go.RowKit

set_option maxHeartbeats 400000 in
theorem check_ok (l c : Int) (w : World) (h1 : 0 ≤ l) (h2 : l ≤ 3) (h3 : 0 ≤ c) (h4 : c ≤ 255) :
    Calls Try.prog 40 #[.agg #[.int .i64 l, .int .i64 c]] w fun e w' => e = .returned (.int .i64 0) ∧ Below w.heap.size w w' ∧ w'.heap.size = w.heap.size + 1 := by
  have k1 : ¬ l < 0 := by omega
  have k2 : ¬ 3 < l := by omega
  have k4 : c < 256 := by omega
  go_enter Try.func40, Try.ntmps40
  go_wp2
  all_goals go_ret
  all_goals exact ⟨rfl, by go_grown, by simp⟩

set_option maxHeartbeats 400000 in
theorem check_bad (l c : Int) (w : World) (h : ¬ (0 ≤ l ∧ l ≤ 3 ∧ 0 ≤ c ∧ c ≤ 255)) :
    Calls Try.prog 40 #[.agg #[.int .i64 l, .int .i64 c]] w fun e w' => e = .returned (.int .i64 1) ∧ Below w.heap.size w w' ∧ w'.heap.size = w.heap.size + 1 := by
  by_cases h1 : l < 0
  · clear h
    go_enter Try.func40, Try.ntmps40
    go_wp2
    all_goals go_ret
    all_goals exact ⟨rfl, by go_grown, by simp⟩
  · by_cases h2 : 3 < l
    · clear h
      go_enter Try.func40, Try.ntmps40
      go_wp2
      all_goals go_ret
      all_goals exact ⟨rfl, by go_grown, by simp⟩
    · by_cases h3 : 0 ≤ c
      · have h4 : ¬ c < 256 := by omega
        clear h
        go_enter Try.func40, Try.ntmps40
        go_wp2
        all_goals go_ret
        all_goals exact ⟨rfl, by go_grown, by simp⟩
      · clear h
        go_enter Try.func40, Try.ntmps40
        go_wp2
        all_goals go_ret
        all_goals exact ⟨rfl, by go_grown, by simp⟩
end Go.Proofs.Ytpjmhajhmkfolaa
