/- Parts of lists of rows of numbers. -/
import Derived.Test.YtkgbaaaklijopaaGOpen
import Derived.Test.YtkgbaaaklijopaaGSl
set_option linter.unusedVariables false
set_option linter.unusedSimpArgs false
set_option maxRecDepth 100000
namespace Go.Proofs.Ytkgbaaaklijopaa
open Go.RowKit Go.Sort

theorem slG_map {w : World} {a : Option Addr} {l : List RowI} (h : SlG w a l) (m : Nat) : SlG w (a.map (·.add m)) (l.drop m) := fun k s hk => by
  rw [List.getElem?_drop] at hk
  obtain ⟨h1, b, off, rfl, hc⟩ := h (m + k) s hk
  exact ⟨h1, b, off + m, by rw [Option.map_some, addr_off], by rw [Nat.add_assoc]; exact hc⟩
theorem slG_take {w : World} {a : Option Addr} {l : List RowI} (h : SlG w a l) (m : Nat) : SlG w a (l.take m) := fun k s hk => h k s (by
  rw [List.getElem?_take] at hk
  split at hk
  · exact hk
  · cases hk)
theorem slG_nil (w : World) (a : Option Addr) : SlG w a [] := fun k s h => by simp at h
theorem grid_under : Try.prog.underlying 22 = some (.slice (Try.prog.elem 22)) ∧ Try.prog.elem 22 = 31 := by
  have ht : Try.prog.underlying 22 = some (.slice 31) := Try.underlying22
  exact ⟨by simp [Program.elem, ht], by simp [Program.elem, ht]⟩
/-- l[:m] -/
theorem sg_to {a : Option Addr} {n c m : Nat} (k : IntKind) (hm : m ≤ n) (hn : n ≤ c) : ∃ a', (∀ W : World, (Instr.slice 22 (.slice a n c) none (some (.int k (m : Int))) none).run Try.prog W = .ok (.slice a' m c) W) ∧
    (∀ w l, SlG w a l → SlG w a' (l.take m)) := by
  obtain ⟨ht, he⟩ := grid_under
  by_cases hc : c = 0
  · refine ⟨a, fun W => ?_, fun w l hs => slG_take hs m⟩
    rw [run_slice_h W _ _ _ _ ht k m (by omega) (by omega), he, Try.sizeOf31]
    simp [Result.andThen, sliced, hc]
  · refine ⟨a.map (·.add 0), fun W => ?_, fun w l hs => slG_take (slG_map hs 0) m⟩
    rw [run_slice_h W _ _ _ _ ht k m (by omega) (by omega), he, Try.sizeOf31]
    simp [Result.andThen, sliced, hc]
/-- l[i:j] -/
theorem sg_mid {a : Option Addr} {n c i j : Nat} (k k' : IntKind) (hi : i ≤ j) (hj : j ≤ n) (hn : n ≤ c) : ∃ a', (∀ W : World, (Instr.slice 22 (.slice a n c) (some (.int k (i : Int))) (some (.int k' (j : Int))) none).run Try.prog W = .ok (.slice a' (j - i) (c - i)) W) ∧
    (∀ w l, SlG w a l → l.length = n → SlG w a' ((l.drop i).take (j - i))) := by
  obtain ⟨ht, he⟩ := grid_under
  by_cases hc : c = i
  · refine ⟨a, fun W => ?_, fun w l hs hl => ?_⟩
    · rw [run_slice_lh W _ _ _ _ ht k k' i j (by omega) (by omega) (by omega), he, Try.sizeOf31]
      simp [Result.andThen, sliced, hc]
    · rw [List.drop_of_length_le (by omega)]
      simp only [List.take_nil]
      exact slG_nil _ _
  · refine ⟨a.map (·.add i), fun W => ?_, fun w l hs hl => slG_take (slG_map hs i) _⟩
    rw [run_slice_lh W _ _ _ _ ht k k' i j (by omega) (by omega) (by omega), he, Try.sizeOf31]
    simp [Result.andThen, sliced, hc]
end Go.Proofs.Ytkgbaaaklijopaa
