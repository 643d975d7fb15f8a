/- What package rule computes, by masks: plain mathematics. -/
import Derived.Test.YtpjmhajhmkfolaaSeesDefs
set_option linter.unusedVariables false
set_option linter.unusedSimpArgs false
namespace Go.Proofs.Ytpjmhajhmkfolaa
open Go.RowKit

/-- is a rule for who asks, who has these roles? -/
def isForB (M : Nat) (x : WhoL) (r : RuleL) : Bool := (decide (r.role < 0) || M.testBit r.role.toNat) && (decide (r.why < 0) || decide (r.why = x.why)) && decide (r.frm ≤ x.time) && decide (x.time < r.til)
/-- what the first k rules allow, deny -/
def alwN (M : Nat) (x : WhoL) (rs : Nat → RuleL) : Nat → Nat
  | 0 => 0
  | k + 1 => if isForB M x (rs k) && (rs k).allow then alwN M x rs k ||| (rs k).cats.toNat else alwN M x rs k
def denN (M : Nat) (x : WhoL) (rs : Nat → RuleL) : Nat → Nat
  | 0 => 0
  | k + 1 => if isForB M x (rs k) && !(rs k).allow then denN M x rs k ||| (rs k).cats.toNat else denN M x rs k

theorem cats_lt {r : RuleL} (h : r.ok) : r.cats.toNat < 256 := by
  obtain ⟨⟨_, _, _, _, h1⟩, _⟩ := h
  omega
theorem alwN_lt {M : Nat} {x : WhoL} {rs : Nat → RuleL} : ∀ {k : Nat}, (∀ j, j < k → (rs j).ok) → alwN M x rs k < 256
  | 0, _ => by simp [alwN]
  | k + 1, h => by
    have ih := alwN_lt (M := M) (x := x) (k := k) fun j hj => h j (by omega)
    unfold alwN
    split
    · exact Nat.or_lt_two_pow (n := 8) ih (cats_lt (h k (by omega)))
    · exact ih
theorem denN_lt {M : Nat} {x : WhoL} {rs : Nat → RuleL} : ∀ {k : Nat}, (∀ j, j < k → (rs j).ok) → denN M x rs k < 256
  | 0, _ => by simp [denN]
  | k + 1, h => by
    have ih := denN_lt (M := M) (x := x) (k := k) fun j hj => h j (by omega)
    unfold denN
    split
    · exact Nat.or_lt_two_pow (n := 8) ih (cats_lt (h k (by omega)))
    · exact ih

theorem allU_small {n : Nat} {u : Nat → Nat} (hv : Valid n u) {i : Nat} (hi : i < n) : allU u i < 2 ^ n := by
  apply Nat.lt_pow_two_of_testBit
  intro j hj
  cases hb : (allU u i).testBit j
  · rfl
  · have := Reach.le hv ((allU_spec hv hi j).1 hb) hi
    omega

theorem isForB_eq {m : Nat} {u : Nat → Nat} (hv : Valid m u) {x : WhoL} (hx : x.role.toNat < m) {r : RuleL} (hr : r.ok) (i : Nat) : speaks m u x i r = (r.kind i && isForB (allU u x.role.toNat) x r) := by
  obtain ⟨⟨h1, h2, _⟩, _⟩ := hr
  have e1 : forRole m u x r = (decide (r.role < 0) || (allU u x.role.toNat).testBit r.role.toNat) := by
    unfold forRole
    by_cases h : r.role = -1
    · rw [decide_eq_true h, decide_eq_true (show r.role < 0 by omega)]
      rfl
    · rw [decide_eq_false h, decide_eq_false (show ¬ r.role < 0 by omega), Bool.false_or, Bool.false_or]
      by_cases h3 : r.role < m
      · rw [decide_eq_true h3, Bool.true_and]
      · rw [decide_eq_false h3, Bool.false_and]
        refine (Nat.testBit_lt_two_pow (Nat.lt_of_lt_of_le (allU_small hv hx) (Nat.pow_le_pow_right (n := 2) (by omega) (by omega)))).symm
  have e2 : forWhy x r = (decide (r.why < 0) || decide (r.why = x.why)) := by
    unfold forWhy
    have : decide (r.why = -1) = decide (r.why < 0) := by
      rw [Bool.eq_iff_iff, decide_eq_true_iff, decide_eq_true_iff]
      omega
    rw [this]
  have e3 : forTime x r = (decide (r.frm ≤ x.time) && decide (x.time < r.til)) := by
    unfold forTime
    rw [Bool.eq_iff_iff, decide_eq_true_iff, Bool.and_eq_true, decide_eq_true_iff, decide_eq_true_iff]
    omega
  unfold speaks isForB
  rw [e1, e2, e3]
  simp [Bool.and_assoc]

theorem alwN_bit {m : Nat} {u : Nat → Nat} (hv : Valid m u) {x : WhoL} (hx : x.role.toNat < m) {rs : Nat → RuleL} (i : Nat) : ∀ {k : Nat}, (∀ j, j < k → (rs j).ok) → (alwN (allU u x.role.toNat) x rs k).testBit i = yesN m u x i rs k
  | 0, _ => by simp [alwN, yesN]
  | k + 1, h => by
    have ih := alwN_bit hv hx i (rs := rs) (k := k) fun j hj => h j (by omega)
    unfold alwN yesN
    rw [isForB_eq hv hx (h k (by omega)) i, ← ih]
    cases h1 : isForB (allU u x.role.toNat) x (rs k)
    · simp
    · cases h2 : (rs k).allow
      · simp
      · simp [RuleL.kind]
theorem denN_bit {m : Nat} {u : Nat → Nat} (hv : Valid m u) {x : WhoL} (hx : x.role.toNat < m) {rs : Nat → RuleL} (i : Nat) : ∀ {k : Nat}, (∀ j, j < k → (rs j).ok) → (denN (allU u x.role.toNat) x rs k).testBit i = noN m u x i rs k
  | 0, _ => by simp [denN, noN]
  | k + 1, h => by
    have ih := denN_bit hv hx i (rs := rs) (k := k) fun j hj => h j (by omega)
    unfold denN noN
    rw [isForB_eq hv hx (h k (by omega)) i, ← ih]
    cases h1 : isForB (allU u x.role.toNat) x (rs k)
    · simp
    · cases h2 : (rs k).allow
      · simp [RuleL.kind]
      · simp

theorem sub_bit {a b : Nat} (ha : a < 256) (hb : b < 256) (i : Nat) : (sub a b).testBit i = (a.testBit i && !b.testBit i) := by
  unfold sub
  rw [Nat.testBit_and, show 18446744073709551615 - b = 2 ^ 64 - (b + 1) by omega, Nat.testBit_two_pow_sub_succ (show b < 2 ^ 64 by omega)]
  cases h : a.testBit i
  · rfl
  · have : i < 64 := by
      rcases Nat.lt_or_ge i 64 with h1 | h1
      · exact h1
      · rw [Nat.testBit_lt_two_pow (Nat.lt_of_lt_of_le ha (Nat.pow_le_pow_right (n := 2) (show 0 < 2 by omega) (show 8 ≤ i by omega)))] at h
        cases h
    simp [this]

theorem seen_masks {m : Nat} {u : Nat → Nat} (hv : Valid m u) {x : WhoL} (hx : x.role.toNat < m) {n : Nat} {rs : Nat → RuleL} (hok : ∀ k, k < n → (rs k).ok) :
    sub (alwN (allU u x.role.toNat) x rs n) (denN (allU u x.role.toNat) x rs n) = seen m u x n rs := by
  have h1 := alwN_lt (M := allU u x.role.toNat) (x := x) hok
  have h2 := denN_lt (M := allU u x.role.toNat) (x := x) hok
  apply Nat.eq_of_testBit_eq
  intro i
  rw [sub_bit h1 h2, seen_bit, alwN_bit hv hx i hok, denN_bit hv hx i hok]
  by_cases h8 : i < 8
  · rw [decide_eq_true h8, Bool.true_and]
  · rw [decide_eq_false h8, Bool.false_and]
    have : yesN m u x i rs n = false := by
      rw [← alwN_bit hv hx i hok]
      exact Nat.testBit_lt_two_pow (Nat.lt_of_lt_of_le h1 (Nat.pow_le_pow_right (n := 2) (by omega) (show 8 ≤ i by omega)))
    rw [this, Bool.false_and]
end Go.Proofs.Ytpjmhajhmkfolaa
