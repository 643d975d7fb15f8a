/- What comes with a role, as plain mathematics: u k are the roles that come with role k at once, a bit each. -/
import Derived.Laws.BitsAllLaws
set_option linter.unusedVariables false
set_option linter.unusedSimpArgs false
namespace Go.Proofs.YtepenlciaanoeaaGreatDoor
open Go

/-- j comes with i, at first or at last, or is it. -/
inductive Reach (u : Nat → Nat) : Nat → Nat → Prop
  | refl (i : Nat) : Reach u i i
  | step {i k j : Nat} : (u i).testBit k = true → Reach u k j → Reach u i j

/-- Roles that may be: all bits of u k are below k. -/
def Valid (n : Nat) (u : Nat → Nat) : Prop := n ≤ 8 ∧ ∀ k, k < n → u k < 2 ^ k

theorem bit_lt {m k j : Nat} (h : m < 2 ^ k) (hj : m.testBit j = true) : j < k := by
  rcases Nat.lt_or_ge j k with hlt | hge
  · exact hlt
  · rw [Nat.testBit_lt_two_pow (Nat.lt_of_lt_of_le h (Nat.pow_le_pow_right (by omega) hge))] at hj
    cases hj

theorem Valid.lt {n : Nat} {u : Nat → Nat} (hv : Valid n u) {i k : Nat} (hi : i < n) (hk : (u i).testBit k = true) : k < i := bit_lt (hv.2 i hi) hk

theorem Reach.trans {u : Nat → Nat} {i j k : Nat} (h1 : Reach u i j) (h2 : Reach u j k) : Reach u i k := by
  induction h1 with
  | refl _ => exact h2
  | step hb _ ih => exact .step hb (ih h2)

theorem Reach.le {n : Nat} {u : Nat → Nat} (hv : Valid n u) {i j : Nat} (h : Reach u i j) : i < n → j ≤ i := by
  induction h with
  | refl _ => exact fun _ => Nat.le_refl _
  | step hb _ ih =>
    intro hi
    have := hv.lt hi hb
    have := ih (by omega)
    omega

theorem Reach.iff {u : Nat → Nat} {i j : Nat} : Reach u i j ↔ i = j ∨ ∃ k, (u i).testBit k = true ∧ Reach u k j := by
  constructor
  · intro h
    cases h with
    | refl _ => exact .inl rfl
    | step hb hr => exact .inr ⟨_, hb, hr⟩
  · rintro (rfl | ⟨k, hb, hr⟩)
    · exact .refl _
    · exact .step hb hr

/-- The loop of 'All': roles k - 1 down to 0. -/
def allN (u : Nat → Nat) : Nat → Nat → Nat
  | 0, m => m
  | k + 1, m => allN u k (if m.testBit k = true then m ||| u k else m)

/-- What comes with role i, a bit each. -/
def allU (u : Nat → Nat) (i : Nat) : Nat := allN u (i + 1) (2 ^ i)

theorem allN_spec {n : Nat} {u : Nat → Nat} (hv : Valid n u) (i : Nat) (hi : i < n) : ∀ (k m : Nat), k ≤ i + 1 →
    (∀ j, m.testBit j = true → Reach u i j) → (∀ j, k ≤ j → m.testBit j = true → ∀ l, (u j).testBit l = true → m.testBit l = true) → m.testBit i = true →
    ∀ j, (allN u k m).testBit j = true ↔ Reach u i j
  | 0, m, _, h1, h2, h3 => fun j => ⟨h1 j, fun hr => by
      have closed : ∀ a b, Reach u a b → m.testBit a = true → m.testBit b = true := by
        intro a b hab
        induction hab with
        | refl _ => exact id
        | step hb _ ih => exact fun ha => ih (h2 _ (Nat.zero_le _) ha _ hb)
      exact closed _ _ hr h3⟩
  | k + 1, m, hk, h1, h2, h3 => by
    unfold allN
    split
    · rename_i hb
      refine allN_spec hv i hi k (m ||| u k) (by omega) ?_ ?_ ?_
      · intro j hj
        rw [Nat.testBit_or, Bool.or_eq_true] at hj
        rcases hj with hj | hj
        · exact h1 j hj
        · exact (h1 k hb).trans (.step hj (.refl _))
      · intro j hkj hj l hl
        rw [Nat.testBit_or, Bool.or_eq_true] at hj ⊢
        by_cases hjk : j = k
        · subst hjk
          exact .inr hl
        · rcases hj with hj | hj
          · exact .inl (h2 j (by omega) hj l hl)
          · have := hv.lt (show k < n by omega) hj
            omega
      · rw [Nat.testBit_or, h3]
        rfl
    · rename_i hb
      refine allN_spec hv i hi k m (by omega) h1 ?_ h3
      intro j hkj hj l hl
      by_cases hjk : j = k
      · subst hjk
        exact absurd hj hb
      · exact h2 j (by omega) hj l hl

theorem allU_spec {n : Nat} {u : Nat → Nat} (hv : Valid n u) {i : Nat} (hi : i < n) (j : Nat) : (allU u i).testBit j = true ↔ Reach u i j := by
  refine allN_spec hv i hi (i + 1) (2 ^ i) (Nat.le_refl _) ?_ ?_ ?_ j
  · intro j hj
    rw [Nat.testBit_two_pow] at hj
    have e : i = j := by simpa using hj
    subst e
    exact .refl _
  · intro j hj hb
    rw [Nat.testBit_two_pow] at hb
    have e : i = j := by simpa using hb
    omega
  · rw [Nat.testBit_two_pow]
    simp

/-- the loop keeps to small numbers -/
theorem allN_lt {n : Nat} {u : Nat → Nat} (hv : Valid n u) : ∀ (k m : Nat), k ≤ n → m < 256 → allN u k m < 256
  | 0, m, _, h => h
  | k + 1, m, hk, h => by
    unfold allN
    split
    · refine allN_lt hv k _ (by omega) ?_
      have h1 := hv.2 k (by omega)
      have h2 : (2 : Nat) ^ k ≤ 2 ^ 8 := Nat.pow_le_pow_right (by omega) (by have := hv.1; omega)
      exact Nat.or_lt_two_pow (n := 8) h (by omega)
    · exact allN_lt hv k m (by omega) h

theorem pow_lt_256 {i : Nat} (h : i < 8) : 2 ^ i < 256 := Nat.pow_lt_pow_right (show 1 < 2 by omega) (show i < 8 from h)
theorem allU_lt {n : Nat} {u : Nat → Nat} (hv : Valid n u) {i : Nat} (hi : i < n) : allU u i < 256 :=
  allN_lt hv (i + 1) _ (by omega) (pow_lt_256 (by have := hv.1; omega))

/-- two masks with the same bits are one -/
theorem mask_ext {a b : Nat} (h : ∀ j, a.testBit j = true ↔ b.testBit j = true) : a = b :=
  Nat.eq_of_testBit_eq fun j => Bool.eq_iff_iff.2 (h j)

/-- one bit of a number, as Go asks for it -/
theorem bit_eq (m k : Nat) : (m / 2 ^ k % 2 == 1) = m.testBit k := by
  rw [Bool.eq_iff_iff, Nat.testBit_eq_decide_div_mod_eq]
  simp
end Go.Proofs.YtepenlciaanoeaaGreatDoor
