/- The walk of LabelSays. -/
import Derived.Test.YthbimgibpiejcaaSays3
import Derived.Test.YthbimgibpiejcaaSays4
namespace Go.Proofs.Ythbimgibpiejcaa
open Go.RowKit

theorem labelSays_walk (l c l' c' : Int) (w : World) :
    Calls Try.prog 3 #[.agg #[.int .i64 l, .int .i64 c], .agg #[.int .i64 l', .int .i64 c']] w fun e w' => e = .returned (.bool true) ∧ Below w.heap.size w w' := by
  by_cases h : 0 ≤ l ∧ l ≤ 3 ∧ 0 ≤ c ∧ c ≤ 255
  · obtain ⟨h1, h2, h3, h4⟩ := h
    obtain ⟨lv, rfl⟩ := Int.eq_ofNat_of_zero_le h1
    obtain ⟨ct, rfl⟩ := Int.eq_ofNat_of_zero_le h3
    by_cases h' : 0 ≤ l' ∧ l' ≤ 3 ∧ 0 ≤ c' ∧ c' ≤ 255
    · obtain ⟨h1', h2', h3', h4'⟩ := h'
      obtain ⟨lv', rfl⟩ := Int.eq_ofNat_of_zero_le h1'
      obtain ⟨ct', rfl⟩ := Int.eq_ofNat_of_zero_le h3'
      exact says_both ⟨lv, ct, by omega, by omega⟩ ⟨lv', ct', by omega, by omega⟩ w
    · exact says_first ⟨lv, ct, by omega, by omega⟩ l' c' w h'
  · exact says_bad l c l' c' w h
end Go.Proofs.Ythbimgibpiejcaa
