/- Parts of slices of strings. -/
import Derived.Test.YtkgbaaaklijopaaGBase
import Derived.Laws.Slices
set_option linter.unusedVariables false
set_option linter.unusedSimpArgs false
set_option maxRecDepth 100000
namespace Go.Proofs.Ytkgbaaaklijopaa
open Go.RowKit Go.Sort

theorem add_block (x : Addr) (k : Nat) : (x.add k).block = x.block := by unfold Addr.add; split <;> rfl
/-- a' lies where a lies -/
def Near (a' a : Option Addr) : Prop := ∀ d, a' = some d → ∃ e, a = some e ∧ d.block = e.block
theorem Near.refl (a : Option Addr) : Near a a := fun d h => ⟨d, h, rfl⟩
theorem near_map (a : Option Addr) (k : Nat) : Near (a.map (·.add k)) a := fun d h => by
  cases a with
  | none => cases h
  | some e => exact ⟨e, rfl, by simp only [Option.map_some, Option.some.injEq] at h; rw [← h, add_block]⟩
theorem slS_map {w : World} {a : Option Addr} {l : List ByteArray} (h : SlS w a l) (m : Nat) : SlS w (a.map (·.add m)) (l.drop m) := fun k s hk => by
  rw [List.getElem?_drop] at hk
  obtain ⟨b, off, rfl, hc⟩ := h (m + k) s hk
  exact ⟨b, off + m, by rw [Option.map_some, addr_off], by rw [Nat.add_assoc]; exact hc⟩
theorem slS_take {w : World} {a : Option Addr} {l : List ByteArray} (h : SlS w a l) (m : Nat) : SlS w a (l.take m) := fun k s hk => h k s (by
  rw [List.getElem?_take] at hk
  split at hk
  · exact hk
  · cases hk)

theorem strs_under : Try.prog.underlying 23 = some (.slice (Try.prog.elem 23)) ∧ Try.prog.elem 23 = 9 := by
  have ht : Try.prog.underlying 23 = some (.slice 9) := Try.underlying23
  exact ⟨by simp [Program.elem, ht], by simp [Program.elem, ht]⟩

/-- l[m:] -/
theorem sl_from {a : Option Addr} {n c m : Nat} (k : IntKind) (hm : m ≤ n) (hn : n ≤ c) : ∃ a', (∀ W : World, (Instr.slice 23 (.slice a n c) (some (.int k (m : Int))) none none).run Try.prog W = .ok (.slice a' (n - m) (c - m)) W) ∧
    (∀ w l, SlS w a l → l.length = n → SlS w a' (l.drop m)) ∧ Near a' a := by
  obtain ⟨ht, he⟩ := strs_under
  by_cases hc : c = m
  · refine ⟨a, fun W => ?_, fun w l hs hl => ?_, Near.refl _⟩
    · rw [run_slice_l W _ _ _ _ ht k m (by omega) (by omega), he, Try.sizeOf9]
      simp [Result.andThen, sliced, hc]
    · rw [List.drop_of_length_le (by omega)]
      exact SlS.nil _ _
  · refine ⟨a.map (·.add m), fun W => ?_, fun w l hs hl => slS_map hs m, near_map _ _⟩
    rw [run_slice_l W _ _ _ _ ht k m (by omega) (by omega), he, Try.sizeOf9]
    simp [Result.andThen, sliced, hc]
/-- l[:m] -/
theorem sl_to {a : Option Addr} {n c m : Nat} (k : IntKind) (hm : m ≤ n) (hn : n ≤ c) : ∃ a', (∀ W : World, (Instr.slice 23 (.slice a n c) none (some (.int k (m : Int))) none).run Try.prog W = .ok (.slice a' m c) W) ∧
    (∀ w l, SlS w a l → SlS w a' (l.take m)) ∧ Near a' a := by
  obtain ⟨ht, he⟩ := strs_under
  by_cases hc : c = 0
  · refine ⟨a, fun W => ?_, fun w l hs => slS_take hs m, Near.refl _⟩
    rw [run_slice_h W _ _ _ _ ht k m (by omega) (by omega), he, Try.sizeOf9]
    simp [Result.andThen, sliced, hc]
  · refine ⟨a.map (·.add 0), fun W => ?_, fun w l hs => slS_take (slS_map hs 0) m, near_map _ _⟩
    rw [run_slice_h W _ _ _ _ ht k m (by omega) (by omega), he, Try.sizeOf9]
    simp [Result.andThen, sliced, hc]
/-- l[i:j] -/
theorem sl_mid {a : Option Addr} {n c i j : Nat} (k k' : IntKind) (hi : i ≤ j) (hj : j ≤ n) (hn : n ≤ c) : ∃ a', (∀ W : World, (Instr.slice 23 (.slice a n c) (some (.int k (i : Int))) (some (.int k' (j : Int))) none).run Try.prog W = .ok (.slice a' (j - i) (c - i)) W) ∧
    (∀ w l, SlS w a l → l.length = n → SlS w a' ((l.drop i).take (j - i))) ∧ Near a' a := by
  obtain ⟨ht, he⟩ := strs_under
  by_cases hc : c = i
  · refine ⟨a, fun W => ?_, fun w l hs hl => ?_, Near.refl _⟩
    · rw [run_slice_lh W _ _ _ _ ht k k' i j (by omega) (by omega) (by omega), he, Try.sizeOf9]
      simp [Result.andThen, sliced, hc]
    · rw [List.drop_of_length_le (by omega)]
      simp only [List.take_nil]
      exact SlS.nil _ _
  · refine ⟨a.map (·.add i), fun W => ?_, fun w l hs hl => slS_take (slS_map hs i) _, near_map _ _⟩
    rw [run_slice_lh W _ _ _ _ ht k k' i j (by omega) (by omega) (by omega), he, Try.sizeOf9]
    simp [Result.andThen, sliced, hc]
end Go.Proofs.Ytkgbaaaklijopaa
