/- Fields and strings that differ; draws. -/
import Derived.Test.YtepenlciaanoeaaGreatDoorRMem
set_option maxRecDepth 100000
namespace Go.Proofs.YtepenlciaanoeaaGreatDoor
open Go.RowKit Go.Sort

theorem drewn_below (w : World) (n : Nat) : Below w.heap.size w (w.drewN n) := ⟨rfl, rfl, rfl, Nat.le_refl _, fun _ _ => rfl⟩
theorem ne_field {f g : FieldL} (h : f ≠ g) : (f.key.toList == g.key.toList) = false ∨ ((f.key.toList == g.key.toList) = true ∧ (f.val.toList == g.val.toList) = false) := by
  cases hk : f.key.toList == g.key.toList with
  | false => exact .inl rfl
  | true =>
    refine .inr ⟨rfl, sEq_false.2 fun e => h ?_⟩
    have := sEq_iff.1 hk
    obtain ⟨a, b⟩ := f
    obtain ⟨c, d⟩ := g
    simp only at this e
    rw [this, e]
theorem eq_field (f : FieldL) : (f.key.toList == f.key.toList) = true ∧ (f.val.toList == f.val.toList) = true := ⟨sEq_iff.2 rfl, sEq_iff.2 rfl⟩
theorem ne_str {a b : ByteArray} (h : a ≠ b) : (a.toList == b.toList) = false ∨ ((a.toList == b.toList) = false ∧ True) := .inl (sEq_false.2 h)
end Go.Proofs.YtepenlciaanoeaaGreatDoor
