/- What all walks share: cells of slices, small facts on numbers. -/
import Derived.Test.YtepenlciaanoeaaGreatDoorProg
import Derived.Test.YtepenlciaanoeaaGreatDoorPlain
import Derived.Test.YtepenlciaanoeaaGreatDoorReach
import Derived.WalkKit
import Derived.WalkSpells
import Derived.WalkLawsBesides
import Derived.Handy
import Derived.Lib.Hide
set_option linter.unusedVariables false
set_option linter.unusedSimpArgs false
set_option maxRecDepth 100000
namespace Go.Proofs.YtepenlciaanoeaaGreatDoor
open Go.RowKit

/-- what is less than B stays as it was -/
theorem bcell {W w1 : World} (hb : Below W.heap.size W w1) : (∀ b o, b < W.heap.size → w1.cell? ⟨b, o, none⟩ = W.cell? ⟨b, o, none⟩) ∧ (∀ b o, b < W.heap.size → w1.frozen? ⟨b, o, none⟩ = W.frozen? ⟨b, o, none⟩) :=
  ⟨fun b o h => hb.cell (p := ⟨b, o, none⟩) h, fun b o h => hb.frozen (p := ⟨b, o, none⟩) h⟩

/-- A slice's cells: its first n elements are z 0, z 1, .. -/
def Sl (w : World) (a : Option Addr) (n : Nat) (z : Nat → Int) : Prop :=
  ∀ k, k < n → ∃ b off, a = some ⟨b, off, none⟩ ∧ w.cell? ⟨b, off + k, none⟩ = some (.int .i64 (z k))

theorem ret_bool {a b : Bool} (h : a = b) : Ending.returned (.bool a) = .returned (.bool b) := by rw [h]

theorem ret_int {a b : Int} (h : a = b) : Ending.returned (.int .i64 a) = .returned (.int .i64 b) := by rw [h]

theorem cast_eq_one (n : Nat) : (((n : Nat) : Int) == 1) = (n == 1) := by
  rw [Bool.eq_iff_iff, beq_iff_eq, beq_iff_eq]
  omega

theorem cast_lt_pow {m k : Nat} (h : m < 2 ^ k) : (m : Int) < 2 ^ k := by
  have e : (2 : Int) ^ k = ((2 ^ k : Nat) : Int) := by simp
  rw [e]
  exact Int.ofNat_lt.2 h

/-- a number from 0 to n - 1, as the laws draw it -/
def wit (k n : Int) : Nat := (k % 18446744073709551616 % n).toNat

theorem wit_lt (k n : Int) (h0 : 0 < n) : (wit k n : Int) < n := by
  have h1 := Int.emod_nonneg (k % 18446744073709551616) (show n ≠ 0 by omega)
  have h2 := Int.emod_lt_of_pos (k % 18446744073709551616) h0
  unfold wit
  omega

theorem within_eq (k n : Int) (h0 : 0 < n) (h1 : n ≤ 1000000) : wrap64 ((IntKind.u64.wrap k).tmod n) = (wit k n : Nat) := by
  rw [IntKind.wrap_u64, tmod_of_emod]
  have h2 := Int.emod_nonneg (k % 18446744073709551616) (show n ≠ 0 by omega)
  have h3 := Int.emod_lt_of_pos (k % 18446744073709551616) h0
  unfold wit wrap64
  omega

theorem pow_le_128 {k : Nat} (h : k < 8) : (2 : Nat) ^ k ≤ 128 := Nat.pow_le_pow_right (n := 2) (by omega) (show k ≤ 7 by omega)

theorem shl_one {k : Nat} (h : k < 8) : wrap64 ((2 : Int) ^ k) = ((2 ^ k : Nat) : Int) := by
  have h1 := pow_le_128 h
  have e : (2 : Int) ^ k = ((2 ^ k : Nat) : Int) := by simp
  rw [e]
  generalize (2 : Nat) ^ k = m at h1
  unfold wrap64
  omega

theorem pow_le_256 {k : Nat} (h : k ≤ 8) : (2 : Nat) ^ k ≤ 256 := Nat.pow_le_pow_right (n := 2) (by omega) h

/-- one bit of a number, as wyref asks for it -/
theorem bit_mod (m k : Nat) : (((m : Int) / 2 ^ k).tmod 2 == 1) = m.testBit k := by
  have hp : (0 : Int) < 2 ^ k := Int.pow_pos (by decide)
  have e : ((m : Int) / 2 ^ k).tmod 2 = ((m / 2 ^ k % 2 : Nat) : Int) := by
    rw [Int.tmod_eq_emod_of_nonneg (Int.ediv_nonneg (Int.natCast_nonneg _) (Int.le_of_lt hp))]
    simp
  rw [e, ← bit_eq]
  exact cast_eq_one _

theorem mod_succ (x k : Nat) : x % 2 ^ (k + 1) = x % 2 ^ k + (if x.testBit k = true then 2 ^ k else 0) := by
  rw [Nat.pow_succ, Nat.mod_mul, Nat.testBit_eq_decide_div_mod_eq]
  rcases Nat.mod_two_eq_zero_or_one (x / 2 ^ k) with h | h <;> simp [h]

/-- Sl of roles that may be. -/
def SlV (w : World) (a : Option Addr) (n : Nat) (u : Nat → Nat) : Prop := Sl w a n (fun k => (u k : Int)) ∧ Valid n u

theorem cell_lt {w : World} {b o : Nat} {v : Value} (h : w.cell? ⟨b, o, none⟩ = some v) : b < w.heap.size := World.block_lt_of_cell? w ⟨b, o, none⟩ h

theorem Sl.below {w w' : World} {a : Option Addr} {n : Nat} {z : Nat → Int} (h : Sl w a n z) (hb : Below w.heap.size w w') : Sl w' a n z := fun k hk => by
  obtain ⟨b, off, rfl, hc⟩ := h k hk
  exact ⟨b, off, rfl, (hb.cell (p := ⟨b, off + k, none⟩) (cell_lt hc)).trans hc⟩

theorem SlV.below {w w' : World} {a : Option Addr} {n : Nat} {u : Nat → Nat} (h : SlV w a n u) (hb : Below w.heap.size w w') : SlV w' a n u := ⟨h.1.below hb, h.2⟩

/-- A slice of numbers that came in: nil, or a row of cells. -/
def IsRow (k : IntKind) (w : World) (a : Option Addr) (len cap : Nat) (zs : List Int) : Prop :=
  (a = none ∧ len = 0 ∧ cap = 0 ∧ zs = []) ∨
  ∃ x, a = some x ∧ len ≤ cap ∧ cap ≤ maxLen ∧ zs.length = cap ∧ (∀ i, i < zs.length → w.cell? (x.add i) = some (.int k (zs.getD i 0))) ∧ ∀ n ∈ zs, (Lit.int k n).wf = true

theorem IsRow.sl {w : World} {a : Option Addr} {len cap : Nat} {zs : List Int} (h : IsRow .i64 w a len cap zs) : Sl w a len (fun k => zs.getD k 0) ∧ len ≤ cap ∧ cap ≤ maxLen := by
  rcases h with ⟨rfl, rfl, rfl, rfl⟩ | ⟨x, rfl, h1, h2, h3, h4, _⟩
  · exact ⟨fun k hk => absurd hk (Nat.not_lt_zero k), Nat.le_refl _, Nat.zero_le _⟩
  · refine ⟨fun k hk => ?_, h1, h2⟩
    have hc := h4 k (by omega)
    obtain ⟨b, off, spot⟩ := x
    have hs : spot = none := by simpa [Addr.add] using World.cell?_spot (h4 0 (by omega))
    subst hs
    have hadd : (⟨b, off, none⟩ : Addr).add k = ⟨b, off + k, none⟩ := by unfold Addr.add; split <;> simp_all
    rw [hadd] at hc
    exact ⟨b, off, rfl, hc⟩
end Go.Proofs.YtepenlciaanoeaaGreatDoor
