/- Labels that may be, as a type of its own, and the contracts of the calls on them. -/
import Derived.Test.YthbimgibpiejcaaLab2
import Derived.Test.YthbimgibpiejcaaLab3
namespace Go.Proofs.Ythbimgibpiejcaa
open Go.RowKit

/-- A label that may be. -/
structure Lab where
  lv : Nat
  ct : Nat
  hl : lv ≤ 3
  hc : ct ≤ 255

theorem or_le (a b : Nat) (ha : a ≤ 255) (hb : b ≤ 255) : a ||| b ≤ 255 := by
  have := or_lt a b 8 (by omega) (by omega)
  omega
theorem and_le (a b : Nat) (ha : a ≤ 255) : a &&& b ≤ 255 := Nat.le_trans Nat.and_le_left ha

theorem Lab.ext {x y : Lab} (h1 : x.lv = y.lv) (h2 : x.ct = y.ct) : x = y := by
  cases x; cases y; cases h1; cases h2; rfl

def Lab.join (x y : Lab) : Lab := ⟨max x.lv y.lv, x.ct ||| y.ct, Nat.max_le.2 ⟨x.hl, y.hl⟩, or_le _ _ x.hc y.hc⟩
def Lab.meet (x y : Lab) : Lab := ⟨min x.lv y.lv, x.ct &&& y.ct, Nat.le_trans (Nat.min_le_left _ _) x.hl, and_le _ _ x.hc⟩
def Lab.below (x y : Lab) : Bool := decide (x.lv ≤ y.lv) && decide (sub x.ct y.ct = 0)
def Lab.rank (x : Lab) : Nat := x.lv + Lib.onesCount x.ct
def Lab.count (x : Lab) : Nat := (x.lv + 1) * 2 ^ Lib.onesCount x.ct
/-- the label that the laws draw of a number -/
def sec (k : Int) : Lab := ⟨lvl k, cat k, lvl_le k, cat_le k⟩

theorem joinL (x y : Lab) (w : World) :
    Calls Try.prog 15 #[.agg #[.int .i64 (x.lv : Int), .int .i64 (x.ct : Int)], .agg #[.int .i64 (y.lv : Int), .int .i64 (y.ct : Int)]] w fun e w' =>
      e = .returned (.tuple #[.agg #[.int .i64 ((x.join y).lv : Int), .int .i64 ((x.join y).ct : Int)], .int .i64 0]) ∧ Below w.heap.size w w' ∧ w'.heap.size = w.heap.size + 7 :=
  join_ok _ _ _ _ w x.hl x.hc y.hl y.hc
theorem meetL (x y : Lab) (w : World) :
    Calls Try.prog 16 #[.agg #[.int .i64 (x.lv : Int), .int .i64 (x.ct : Int)], .agg #[.int .i64 (y.lv : Int), .int .i64 (y.ct : Int)]] w fun e w' =>
      e = .returned (.tuple #[.agg #[.int .i64 ((x.meet y).lv : Int), .int .i64 ((x.meet y).ct : Int)], .int .i64 0]) ∧ Below w.heap.size w w' ∧ w'.heap.size = w.heap.size + 7 :=
  meet_ok _ _ _ _ w x.hl x.hc y.hl y.hc
theorem belowL (x y : Lab) (w : World) :
    Calls Try.prog 14 #[.agg #[.int .i64 (x.lv : Int), .int .i64 (x.ct : Int)], .agg #[.int .i64 (y.lv : Int), .int .i64 (y.ct : Int)]] w fun e w' =>
      e = .returned (.tuple #[.bool (x.below y), .int .i64 0]) ∧ Below w.heap.size w w' ∧ w'.heap.size = w.heap.size + 6 :=
  below_ok _ _ _ _ w x.hl x.hc y.hl y.hc
theorem rankL (x : Lab) (w : World) :
    Calls Try.prog 18 #[.agg #[.int .i64 (x.lv : Int), .int .i64 (x.ct : Int)]] w fun e w' =>
      e = .returned (.tuple #[.int .i64 (x.rank : Int), .int .i64 0]) ∧ Below w.heap.size w w' ∧ w'.heap.size = w.heap.size + 2 :=
  rank_ok _ _ w x.hl x.hc
theorem countL (x : Lab) (w : World) :
    Calls Try.prog 17 #[.agg #[.int .i64 (x.lv : Int), .int .i64 (x.ct : Int)]] w fun e w' =>
      e = .returned (.tuple #[.int .i64 (x.count : Int), .int .i64 0]) ∧ Below w.heap.size w w' ∧ w'.heap.size = w.heap.size + 2 :=
  count_ok _ _ w x.hl x.hc
theorem secL (k : Int) (w : World) :
    Calls Try.prog 31 #[.int .i64 k] w fun e w' =>
      e = .returned (.agg #[.int .i64 ((sec k).lv : Int), .int .i64 ((sec k).ct : Int)]) ∧ Below w.heap.size w w' ∧ w'.heap.size = w.heap.size + 1 :=
  secret_any k w

/-! ### the lattice -/
theorem nmax_min_distrib (a b c : Nat) : min a (max b c) = max (min a b) (min a c) := by omega

theorem join_comm (x y : Lab) : x.join y = y.join x := Lab.ext (Nat.max_comm _ _) (Nat.or_comm _ _)
theorem join_assoc (x y z : Lab) : (x.join y).join z = x.join (y.join z) := Lab.ext (Nat.max_assoc _ _ _) (Nat.or_assoc _ _ _)
theorem meet_join (x y z : Lab) : x.meet (y.join z) = (x.meet y).join (x.meet z) := Lab.ext (nmax_min_distrib _ _ _) (Nat.and_or_distrib_left ..)
theorem join_meet_self (x y : Lab) : x.join (x.meet y) = x := by
  apply Lab.ext
  · show max x.lv (min x.lv y.lv) = x.lv
    omega
  · show x.ct ||| x.ct &&& y.ct = x.ct
    apply Nat.eq_of_testBit_eq
    intro i
    rw [Nat.testBit_or, Nat.testBit_and]
    cases x.ct.testBit i <;> simp
theorem meet_join_self (x y : Lab) : x.meet (x.join y) = x := by
  apply Lab.ext
  · show min x.lv (max x.lv y.lv) = x.lv
    omega
  · show x.ct &&& (x.ct ||| y.ct) = x.ct
    apply Nat.eq_of_testBit_eq
    intro i
    rw [Nat.testBit_and, Nat.testBit_or]
    cases x.ct.testBit i <;> simp
/-- Dedekind's law, z first joined with x. -/
theorem modular (x y z : Lab) : x.join (y.meet (x.join z)) = (x.join y).meet (x.join z) := by
  apply Lab.ext
  · show max x.lv (min y.lv (max x.lv z.lv)) = min (max x.lv y.lv) (max x.lv z.lv)
    omega
  · show x.ct ||| y.ct &&& (x.ct ||| z.ct) = (x.ct ||| y.ct) &&& (x.ct ||| z.ct)
    apply Nat.eq_of_testBit_eq
    intro i
    simp only [Nat.testBit_and, Nat.testBit_or]
    cases x.ct.testBit i <;> cases y.ct.testBit i <;> simp

theorem below_iff (x y : Lab) : x.below y = true ↔ x.lv ≤ y.lv ∧ ∀ i, x.ct.testBit i = true → y.ct.testBit i = true := by
  unfold Lab.below
  have h1 := x.hc
  have h2 := y.hc
  rw [Bool.and_eq_true, decide_eq_true_iff, decide_eq_true_iff, sub_zero (by omega) (by omega)]

end Go.Proofs.Ythbimgibpiejcaa
