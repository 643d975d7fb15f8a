/- How deep a role is, as plain mathematics. -/
import Derived.Test.YthbimgibpiejcaaReach
set_option linter.unusedVariables false
set_option linter.unusedSimpArgs false
namespace Go.Proofs.Ythbimgibpiejcaa
open Go

/-- the greatest d k + 1 of the bits k of m below a number; 0, if there is none -/
def bestN (d : Nat → Nat) (m : Nat) : Nat → Nat
  | 0 => 0
  | k + 1 => if m.testBit k = true then max (bestN d m k) (d k + 1) else bestN d m k

def depF (u : Nat → Nat) : Nat → Nat → Nat
  | 0, _ => 0
  | f + 1, r => bestN (depF u f) (u r) r

def dep (u : Nat → Nat) (r : Nat) : Nat := depF u (r + 1) r

theorem bestN_congr {d d' : Nat → Nat} {m : Nat} : ∀ {r : Nat}, (∀ k, k < r → d k = d' k) → bestN d m r = bestN d' m r
  | 0, _ => rfl
  | r + 1, h => by
    have ih := bestN_congr (r := r) (m := m) fun k hk => h k (by omega)
    unfold bestN
    rw [ih, h r (by omega)]

theorem depF_stable (u : Nat → Nat) : ∀ (f r : Nat), r < f → depF u f r = depF u (r + 1) r := by
  intro f
  induction f using Nat.strongRecOn with
  | ind f ih =>
    intro r hr
    cases f with
    | zero => omega
    | succ f =>
      show bestN (depF u f) (u r) r = bestN (depF u r) (u r) r
      refine bestN_congr fun k hk => ?_
      rw [ih f (by omega) k (by omega)]
      by_cases e : r = f + 1
      · omega
      · rw [ih r (by omega) k hk]

theorem dep_eq (u : Nat → Nat) (r : Nat) : dep u r = bestN (dep u) (u r) r := by
  show bestN (depF u r) (u r) r = _
  refine bestN_congr fun k hk => ?_
  rw [depF_stable u r k hk]
  rfl

theorem bestN_le {d : Nat → Nat} {m : Nat} : ∀ {r : Nat}, (∀ k, k < r → d k ≤ k) → bestN d m r ≤ r
  | 0, _ => Nat.le_refl _
  | r + 1, h => by
    have ih := bestN_le (r := r) (m := m) fun k hk => h k (by omega)
    have h1 := h r (by omega)
    unfold bestN
    split <;> omega

theorem dep_le (u : Nat → Nat) (r : Nat) : dep u r ≤ r := by
  induction r using Nat.strongRecOn with
  | ind r ih =>
    rw [dep_eq]
    exact bestN_le ih

theorem bestN_ge {d : Nat → Nat} {m : Nat} : ∀ {r k : Nat}, k < r → m.testBit k = true → d k + 1 ≤ bestN d m r
  | 0, _, h, _ => by omega
  | r + 1, k, h, hb => by
    unfold bestN
    by_cases e : k = r
    · subst e
      rw [if_pos hb]
      omega
    · have ih := bestN_ge (d := d) (m := m) (r := r) (k := k) (by omega) hb
      split <;> omega

theorem bestN_attained {d : Nat → Nat} {m : Nat} : ∀ {r : Nat}, bestN d m r ≠ 0 → ∃ k, k < r ∧ m.testBit k = true ∧ bestN d m r = d k + 1
  | 0, h => absurd rfl h
  | r + 1, h => by
    unfold bestN at h ⊢
    split
    · rename_i hb
      by_cases e : bestN d m r ≤ d r + 1
      · exact ⟨r, by omega, hb, by omega⟩
      · obtain ⟨k, h1, h2, h3⟩ := bestN_attained (d := d) (m := m) (r := r) (by omega)
        exact ⟨k, by omega, h2, by omega⟩
    · rename_i hb
      rw [if_neg hb] at h
      obtain ⟨k, h1, h2, h3⟩ := bestN_attained h
      exact ⟨k, by omega, h2, h3⟩

theorem dep_step {n : Nat} {u : Nat → Nat} (hv : Valid n u) {i k : Nat} (hi : i < n) (hb : (u i).testBit k = true) : dep u k < dep u i := by
  rw [dep_eq u i]
  exact bestN_ge (hv.lt hi hb) hb

theorem dep_reach {n : Nat} {u : Nat → Nat} (hv : Valid n u) {i j : Nat} (h : Reach u i j) : i < n → i ≠ j → dep u j < dep u i := by
  induction h with
  | refl _ => exact fun _ h => absurd rfl h
  | @step i k j hb _ ih =>
    intro hi _
    have hk := hv.lt hi hb
    have h1 := dep_step hv hi hb
    by_cases e : k = j
    · subst e
      exact h1
    · exact Nat.lt_trans (ih (by omega) e) h1

theorem dep_zero {n : Nat} {u : Nat → Nat} (hv : Valid n u) {i : Nat} (hi : i < n) (h : dep u i = 0) : u i = 0 := by
  apply Nat.eq_of_testBit_eq
  intro k
  rw [Nat.zero_testBit]
  cases hb : (u i).testBit k
  · rfl
  · have := dep_step hv hi hb
    omega

theorem dep_next {u : Nat → Nat} {i : Nat} (h : dep u i ≠ 0) : ∃ k, k < i ∧ (u i).testBit k = true ∧ dep u i = dep u k + 1 := by
  rw [dep_eq] at h ⊢
  exact bestN_attained h
end Go.Proofs.Ythbimgibpiejcaa
