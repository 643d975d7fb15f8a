/- Plain facts on the bits of small numbers (no program): what the labels' laws need. -/
import Derived.Laws.BitsAllLaws
import Derived.Lib.BitFns
namespace Go.Proofs.YtepenlciaanoeaaGreatDoor
open Go

theorem wrap_small (n : Nat) (h : n < 9223372036854775808) : IntKind.i64.wrap (n : Int) = n := by
  simp [IntKind.wrap, IntKind.bits, IntKind.signed]
  omega

theorem i64_and (a b : Nat) (ha : a < 9223372036854775808) (hb : b < 9223372036854775808) : bits .and .i64 (a : Int) (b : Int) = ((a &&& b : Nat) : Int) := by
  show IntKind.i64.wrap ((BitVec.ofInt 64 (a : Int) &&& BitVec.ofInt 64 (b : Int)).toNat : Int) = _
  rw [BitVec.toNat_and, ofInt_u64 a (by omega), ofInt_u64 b (by omega)]
  exact wrap_small _ (Nat.lt_of_le_of_lt Nat.and_le_left ha)

theorem or_lt (a b k : Nat) (ha : a < 2 ^ k) (hb : b < 2 ^ k) : a ||| b < 2 ^ k := Nat.or_lt_two_pow ha hb

theorem i64_or (a b : Nat) (ha : a < 9223372036854775808) (hb : b < 9223372036854775808) : bits .or .i64 (a : Int) (b : Int) = ((a ||| b : Nat) : Int) := by
  show IntKind.i64.wrap ((BitVec.ofInt 64 (a : Int) ||| BitVec.ofInt 64 (b : Int)).toNat : Int) = _
  rw [BitVec.toNat_or, ofInt_u64 a (by omega), ofInt_u64 b (by omega)]
  exact wrap_small _ (or_lt a b 63 ha hb)

/-- what of a is not in b -/
def sub (a b : Nat) : Nat := a &&& (18446744073709551615 - b)

theorem i64_andNot (a b : Nat) (ha : a < 9223372036854775808) (hb : b < 9223372036854775808) : bits .andNot .i64 (a : Int) (b : Int) = ((sub a b : Nat) : Int) := by
  show IntKind.i64.wrap ((BitVec.ofInt 64 (a : Int) &&& ~~~ BitVec.ofInt 64 (b : Int)).toNat : Int) = _
  rw [BitVec.toNat_and, BitVec.toNat_not, ofInt_u64 a (by omega), ofInt_u64 b (by omega)]
  exact wrap_small _ (Nat.lt_of_le_of_lt Nat.and_le_left ha)

theorem i64_and_any (k : Int) (m : Nat) (e : Nat) (he : m + 1 = 2 ^ e) (h64 : e ≤ 32) : bits .and .i64 k (m : Int) = k % (2 ^ e : Int) := by
  show IntKind.i64.wrap ((BitVec.ofInt 64 k &&& BitVec.ofInt 64 (m : Int)).toNat : Int) = _
  have hle : (2 : Nat) ^ e ≤ 2 ^ 32 := Nat.pow_le_pow_right (by omega) h64
  rw [BitVec.toNat_and, ofInt_u64 m (by omega), BitVec.toNat_ofInt, show m = 2 ^ e - 1 by omega, Nat.and_two_pow_sub_one_eq_mod]
  have hp : 0 < 2 ^ e := Nat.two_pow_pos e
  rw [wrap_small _ (by have := Nat.mod_lt ((k % ((2 ^ 64 : Nat) : Int)).toNat) hp; omega)]
  rw [Int.natCast_emod, Int.toNat_of_nonneg (Int.emod_nonneg _ (by decide))]
  have hd : ((2 ^ e : Nat) : Int) ∣ ((2 ^ 64 : Nat) : Int) := Int.natCast_dvd_natCast.2 (Nat.pow_dvd_pow 2 (by omega))
  rw [Int.emod_emod_of_dvd _ hd]
  simp

/-- Part: all bits of a are bits of b. -/
theorem sub_zero {a b : Nat} (ha : a < 18446744073709551616) (hb : b < 18446744073709551616) : sub a b = 0 ↔ ∀ i, a.testBit i = true → b.testBit i = true := by
  have key : ∀ i, (18446744073709551615 - b).testBit i = (decide (i < 64) && !b.testBit i) := by
    intro i
    rw [show 18446744073709551615 - b = 2 ^ 64 - (b + 1) by omega]
    exact Nat.testBit_two_pow_sub_succ hb i
  constructor
  · intro h i hi
    have h1 : (sub a b).testBit i = false := by rw [h]; simp
    unfold sub at h1
    rw [Nat.testBit_and, hi, key] at h1
    have hi64 : i < 64 := by
      by_cases hlt : i < 64
      · exact hlt
      · rw [Nat.testBit_lt_two_pow (Nat.lt_of_lt_of_le ha (Nat.pow_le_pow_right (n := 2) (by omega) (show 64 ≤ i by omega)))] at hi
        cases hi
    simpa [hi64] using h1
  · intro h
    apply Nat.eq_of_testBit_eq
    intro i
    unfold sub
    rw [Nat.testBit_and, key]
    cases hi : a.testBit i
    · simp
    · simp [h i hi]

end Go.Proofs.YtepenlciaanoeaaGreatDoor
