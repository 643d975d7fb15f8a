/- What the loops of LabelSays reckon, and the boxes that they read. -/
import Derived.Test.YthbimgibpiejcaaSays1
set_option linter.unusedVariables false
set_option linter.unusedSimpArgs false
namespace Go.Proofs.Ythbimgibpiejcaa
open Go.RowKit

/-- how many numbers below k have only bits of m -/
def cntN (m : Nat) : Nat → Nat
  | 0 => 0
  | k + 1 => cntN m k + if sub k m = 0 then 1 else 0
/-- how many bits below k m has -/
def sumN (m : Nat) : Nat → Nat
  | 0 => 0
  | k + 1 => sumN m k + if m.testBit k = true then 1 else 0

theorem cnt_fin : ∀ n : Fin 256, cntN n.val 256 = 2 ^ Lib.onesCount n.val := by decide +kernel
theorem sum_fin : ∀ n : Fin 256, sumN n.val 8 = Lib.onesCount n.val := by decide +kernel
theorem cnt_end (x : Lab) : (x.lv + 1) * cntN x.ct 256 = x.count := by
  rw [cnt_fin ⟨x.ct, by have := x.hc; omega⟩]
  rfl
theorem sum_end (x : Lab) : x.lv + sumN x.ct 8 = x.rank := by
  rw [sum_fin ⟨x.ct, by have := x.hc; omega⟩]
  rfl
theorem cnt_le (m : Nat) : ∀ k, cntN m k ≤ k
  | 0 => Nat.le_refl _
  | k + 1 => by
    have := cnt_le m k
    unfold cntN
    split <;> omega
theorem sum_le (m : Nat) : ∀ k, sumN m k ≤ k
  | 0 => Nat.le_refl _
  | k + 1 => by
    have := sum_le m k
    unfold sumN
    split <;> omega

theorem tmod_bit (m k : Nat) : ((m : Int) / 2 ^ k).tmod 2 = if m.testBit k = true then 1 else 0 := by
  have h := bit_mod m k
  have hp : (0 : Int) < 2 ^ k := Int.pow_pos (by decide)
  rw [Int.tmod_eq_emod_of_nonneg (Int.ediv_nonneg (Int.natCast_nonneg _) (Int.le_of_lt hp))] at h ⊢
  have h2 : ((m : Int) / 2 ^ k) % 2 = 0 ∨ ((m : Int) / 2 ^ k) % 2 = 1 := by omega
  rcases h2 with e | e
  · rw [e] at h ⊢
    rw [← h]
    rfl
  · rw [e] at h ⊢
    rw [← h]
    rfl

/-- four boxes of two numbers -/
structure BX (B : Nat) (a0 a1 b0 b1 j0 j1 m0 m1 : Int) (w : World) : Prop where
  pa0 : w.cell? ⟨B, 0, none⟩ = some (.int .i64 a0)
  pa1 : w.cell? ⟨B, 1, none⟩ = some (.int .i64 a1)
  pb0 : w.cell? ⟨B + 1, 0, none⟩ = some (.int .i64 b0)
  pb1 : w.cell? ⟨B + 1, 1, none⟩ = some (.int .i64 b1)
  pj0 : w.cell? ⟨B + 15, 0, none⟩ = some (.int .i64 j0)
  pj1 : w.cell? ⟨B + 15, 1, none⟩ = some (.int .i64 j1)
  pm0 : w.cell? ⟨B + 23, 0, none⟩ = some (.int .i64 m0)
  pm1 : w.cell? ⟨B + 23, 1, none⟩ = some (.int .i64 m1)
  lt : B + 23 < w.heap.size

theorem BX.same {B : Nat} {a0 a1 b0 b1 j0 j1 m0 m1 : Int} {w w' : World} (h : BX B a0 a1 b0 b1 j0 j1 m0 m1 w) (hs : w.heap.size ≤ w'.heap.size) (hc : ∀ n o, n ≤ B + 23 → w'.cell? ⟨n, o, none⟩ = w.cell? ⟨n, o, none⟩) : BX B a0 a1 b0 b1 j0 j1 m0 m1 w' :=
  ⟨(hc _ _ (by omega)).trans h.pa0, (hc _ _ (by omega)).trans h.pa1, (hc _ _ (by omega)).trans h.pb0, (hc _ _ (by omega)).trans h.pb1, (hc _ _ (by omega)).trans h.pj0, (hc _ _ (by omega)).trans h.pj1, (hc _ _ (by omega)).trans h.pm0, (hc _ _ (by omega)).trans h.pm1, Nat.lt_of_lt_of_le h.lt hs⟩
theorem BX.below {B : Nat} {a0 a1 b0 b1 j0 j1 m0 m1 : Int} {w w' : World} (h : BX B a0 a1 b0 b1 j0 j1 m0 m1 w) (hb : Below w.heap.size w w') : BX B a0 a1 b0 b1 j0 j1 m0 m1 w' :=
  h.same hb.size fun n o hn => hb.cell (p := ⟨n, o, none⟩) (show n < w.heap.size by have := h.lt; omega)

/-- the two boxes that the law fills -/
structure OrAnd (O : Nat) (o0 o1 n0 n1 : Nat) (w : World) : Prop where
  po0 : w.cell? ⟨O, 0, none⟩ = some (.int .i64 (o0 : Int))
  po1 : w.cell? ⟨O, 1, none⟩ = some (.int .i64 (o1 : Int))
  pn0 : w.cell? ⟨O + 1, 0, none⟩ = some (.int .i64 (n0 : Int))
  pn1 : w.cell? ⟨O + 1, 1, none⟩ = some (.int .i64 (n1 : Int))
  fo0 : w.frozen? ⟨O, 0, none⟩ = false
  fo1 : w.frozen? ⟨O, 1, none⟩ = false
  fn0 : w.frozen? ⟨O + 1, 0, none⟩ = false
  fn1 : w.frozen? ⟨O + 1, 1, none⟩ = false
end Go.Proofs.Ythbimgibpiejcaa
