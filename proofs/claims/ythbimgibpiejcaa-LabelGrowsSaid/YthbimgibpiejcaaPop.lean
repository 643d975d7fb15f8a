/- How many ones two numbers, what they have together and what they have in common have; and what follows for labels. -/
import Derived.Test.YthbimgibpiejcaaLab4
namespace Go.Proofs.Ythbimgibpiejcaa
open Go.RowKit

theorem popAux_zero (f : Nat) : Lib.popAux f 0 = 0 := by
  induction f with
  | zero => rfl
  | succ f ih => simp [Lib.popAux, ih]

theorem or_mod_two (a b : Nat) : (a ||| b) % 2 = (if a % 2 = 1 ∨ b % 2 = 1 then 1 else 0) := by
  have h : (a ||| b) % 2 = 1 ↔ a % 2 = 1 ∨ b % 2 = 1 := by
    rw [Nat.mod_two_eq_one_iff_testBit_zero, Nat.mod_two_eq_one_iff_testBit_zero, Nat.mod_two_eq_one_iff_testBit_zero, Nat.testBit_or, Bool.or_eq_true]
  split
  · exact h.2 ‹_›
  · have := mt h.1 ‹_›
    omega
theorem and_mod_two (a b : Nat) : (a &&& b) % 2 = (if a % 2 = 1 ∧ b % 2 = 1 then 1 else 0) := by
  have h : (a &&& b) % 2 = 1 ↔ a % 2 = 1 ∧ b % 2 = 1 := by
    rw [Nat.mod_two_eq_one_iff_testBit_zero, Nat.mod_two_eq_one_iff_testBit_zero, Nat.mod_two_eq_one_iff_testBit_zero, Nat.testBit_and, Bool.and_eq_true]
  split
  · exact h.2 ‹_›
  · have := mt h.1 ‹_›
    omega

theorem popAux_add : ∀ (f a b : Nat), Lib.popAux f (a ||| b) + Lib.popAux f (a &&& b) = Lib.popAux f a + Lib.popAux f b
  | 0, _, _ => rfl
  | f + 1, a, b => by
    have ih := popAux_add f (a / 2) (b / 2)
    have h1 : (a ||| b) / 2 = a / 2 ||| b / 2 := Nat.or_div_two
    have h2 : (a &&& b) / 2 = a / 2 &&& b / 2 := Nat.and_div_two
    simp only [Lib.popAux]
    rw [h1, h2, or_mod_two, and_mod_two]
    split <;> split <;> omega

theorem popAux_or : ∀ (f a b : Nat), Lib.popAux f a ≤ Lib.popAux f (a ||| b)
  | 0, _, _ => Nat.le_refl _
  | f + 1, a, b => by
    have ih := popAux_or f (a / 2) (b / 2)
    have h1 : (a ||| b) / 2 = a / 2 ||| b / 2 := Nat.or_div_two
    simp only [Lib.popAux]
    rw [h1, or_mod_two]
    split <;> omega

theorem popAux_or_eq : ∀ (f a b : Nat), a < 2 ^ f → b < 2 ^ f → Lib.popAux f a = Lib.popAux f (a ||| b) → a ||| b = a
  | 0, a, b, ha, hb, _ => by
    have h1 : a = 0 := by simpa using ha
    have h2 : b = 0 := by simpa using hb
    rw [h1, h2]; rfl
  | f + 1, a, b, ha, hb, h => by
    have ih := popAux_or_eq f (a / 2) (b / 2) (by rw [Nat.pow_succ] at ha; omega) (by rw [Nat.pow_succ] at hb; omega)
    have hle := popAux_or f (a / 2) (b / 2)
    have h1 : (a ||| b) / 2 = a / 2 ||| b / 2 := Nat.or_div_two
    have h2 := or_mod_two a b
    simp only [Lib.popAux] at h
    rw [h1] at h
    split at h2
    · have e := ih (by omega)
      rw [e] at h1
      omega
    · have e := ih (by omega)
      rw [e] at h1
      omega

theorem rank_add (x y : Lab) : x.rank + y.rank = (x.join y).rank + (x.meet y).rank := by
  have h := popAux_add 64 x.ct y.ct
  show x.lv + Lib.popAux 64 x.ct + (y.lv + Lib.popAux 64 y.ct) = max x.lv y.lv + Lib.popAux 64 (x.ct ||| y.ct) + (min x.lv y.lv + Lib.popAux 64 (x.ct &&& y.ct))
  omega

theorem count_le (x y : Lab) : x.count ≤ (x.join y).count := by
  show (x.lv + 1) * 2 ^ Lib.popAux 64 x.ct ≤ (max x.lv y.lv + 1) * 2 ^ Lib.popAux 64 (x.ct ||| y.ct)
  exact Nat.mul_le_mul (by omega) (Nat.pow_le_pow_right (by omega) (popAux_or _ _ _))

theorem count_eq (x y : Lab) (h : x.count = (x.join y).count) : x.join y = x := by
  have h' : (x.lv + 1) * 2 ^ Lib.popAux 64 x.ct = (max x.lv y.lv + 1) * 2 ^ Lib.popAux 64 (x.ct ||| y.ct) := h
  have hp := popAux_or 64 x.ct y.ct
  have hx := x.hc
  have hy := y.hc
  have p0 : 0 < 2 ^ Lib.popAux 64 x.ct := Nat.two_pow_pos _
  have hpp : 2 ^ Lib.popAux 64 x.ct ≤ 2 ^ Lib.popAux 64 (x.ct ||| y.ct) := Nat.pow_le_pow_right (by omega) hp
  have hl : max x.lv y.lv = x.lv := by
    rcases Nat.lt_or_ge x.lv (max x.lv y.lv) with hlt | hge
    · have h1 : (x.lv + 1) * 2 ^ Lib.popAux 64 x.ct < (max x.lv y.lv + 1) * 2 ^ Lib.popAux 64 x.ct := Nat.mul_lt_mul_of_pos_right (by omega) p0
      have h2 : (max x.lv y.lv + 1) * 2 ^ Lib.popAux 64 x.ct ≤ (max x.lv y.lv + 1) * 2 ^ Lib.popAux 64 (x.ct ||| y.ct) := Nat.mul_le_mul_left _ hpp
      omega
    · omega
  apply Lab.ext
  · exact hl
  · rw [hl] at h'
    have h2 : 2 ^ Lib.popAux 64 x.ct = 2 ^ Lib.popAux 64 (x.ct ||| y.ct) := Nat.eq_of_mul_eq_mul_left (by omega) h'
    have h3 : Lib.popAux 64 x.ct = Lib.popAux 64 (x.ct ||| y.ct) := by
      rcases Nat.lt_or_ge (Lib.popAux 64 x.ct) (Lib.popAux 64 (x.ct ||| y.ct)) with hlt | hge
      · have := Nat.pow_lt_pow_right (show 1 < 2 by omega) hlt
        omega
      · omega
    exact popAux_or_eq 64 x.ct y.ct (by omega) (by omega) h3

theorem below_meet (x y : Lab) : x.below y = true ↔ x.meet y = x := by
  rw [below_iff]
  constructor
  · rintro ⟨h1, h2⟩
    apply Lab.ext
    · show min x.lv y.lv = x.lv
      omega
    · show x.ct &&& y.ct = x.ct
      apply Nat.eq_of_testBit_eq
      intro i
      rw [Nat.testBit_and]
      cases hi : x.ct.testBit i
      · rfl
      · simp [h2 i hi]
  · intro h
    have e1 : min x.lv y.lv = x.lv := congrArg Lab.lv h
    have e2 : x.ct &&& y.ct = x.ct := congrArg Lab.ct h
    refine ⟨by omega, fun i hi => ?_⟩
    rw [← e2, Nat.testBit_and, Bool.and_eq_true] at hi
    exact hi.2

/-- two labels that are not one differ in their levels or in their kinds -/
theorem lab_ne {x y : Lab} (h : x ≠ y) : x.lv ≠ y.lv ∨ (x.lv = y.lv ∧ x.ct ≠ y.ct) := by
  by_cases h1 : x.lv = y.lv
  · exact .inr ⟨h1, fun h2 => h (Lab.ext h1 h2)⟩
  · exact .inl h1

end Go.Proofs.Ythbimgibpiejcaa
