/- Sees and May at arguments that a law writes out. -/
import Derived.Test.YtpjmhajhmkfolaaRule4
import Derived.Test.YtpjmhajhmkfolaaSeesJoin
set_option linter.unusedVariables false
set_option linter.unusedSimpArgs false
namespace Go.Proofs.Ytpjmhajhmkfolaa
open Go.RowKit

/-- a slice of one number, of one rule, just written out -/
theorem sl_one {w : World} {B : Nat} {k : Int} (h : w.cell? ⟨B, 0, none⟩ = some (.int .i64 k)) : Sl w (some ⟨B, 0, none⟩) 1 (fun _ => k) := fun j hj => by
  obtain rfl : j = 0 := by omega
  exact ⟨B, 0, rfl, h⟩
theorem slr_one {w : World} {B : Nat} {r : RuleL} (h : RuleAt w B 0 r) : SlR w (some ⟨B, 0, none⟩) 1 (fun _ => r) := fun j hj => by
  obtain rfl : j = 0 := by omega
  exact ⟨B, 0, rfl, h⟩

theorem slr_two {w : World} {B : Nat} {r q : RuleL} (h : RuleAt w B 0 r) (h2 : RuleAt w B 6 q) : SlR w (some ⟨B, 0, none⟩) 2 (twoR r q) := fun j hj => by
  match j, hj with
  | 0, _ => exact ⟨B, 0, rfl, h⟩
  | 1, _ => exact ⟨B, 0, rfl, h2⟩

/-- Sees with one role, and rules written out -/
theorem sees_lit (B B' n V : Nat) (rs : Nat → RuleL) (x : WhoL) (w : World) (hu : w.cell? ⟨B, 0, none⟩ = some (.int .i64 0)) (hs : SlR w (some ⟨B', 0, none⟩) n rs) (hn : n ≤ maxLen) (hE : seesE 1 (fun _ => 0) n rs x = 0) (hV : seesV 1 (fun _ => 0) n rs x = V) :
    Calls Try.prog 9 #[.slice (some ⟨B, 0, none⟩) 1 1, .slice (some ⟨B', 0, none⟩) n n, x.v] w fun e w' => e = .returned (.tuple #[.int .i64 (V : Nat), .int .i64 0]) ∧ Below w.heap.size w w' := by
  have h := sees_any (some ⟨B, 0, none⟩) 1 1 (fun _ => 0) (some ⟨B', 0, none⟩) n n rs x w (sl_one hu) (by decide) hs hn
  rw [hE, hV] at h
  exact h
theorem may_lit (B : Nat) (cats : Int) (V : Bool) (w : World) (hu : w.cell? ⟨B, 0, none⟩ = some (.int .i64 0)) (hE : mayE 1 (fun _ => 0) 0 (fun _ => ⟨0, 0, 0, 0, 0, false⟩) ⟨0, 0, 0⟩ cats = 0) (hV : mayV 1 (fun _ => 0) 0 (fun _ => ⟨0, 0, 0, 0, 0, false⟩) ⟨0, 0, 0⟩ cats = V) :
    Calls Try.prog 10 #[.slice (some ⟨B, 0, none⟩) 1 1, .slice none 0 0, .agg #[.int .i64 0, .int .i64 0, .int .i64 0], .int .i64 cats] w fun e w' => e = .returned (.tuple #[.bool V, .int .i64 0]) ∧ Below w.heap.size w w' := by
  have h := may_any (some ⟨B, 0, none⟩) 1 1 (fun _ => 0) none 0 0 (fun _ => ⟨0, 0, 0, 0, 0, false⟩) ⟨0, 0, 0⟩ cats w (sl_one hu) (by decide) (fun k hk => absurd hk (Nat.not_lt_zero k)) (by decide)
  rw [hE, hV] at h
  exact h

/-- a number's lowest eight bits -/
theorem and_255 (a : Int) : ∃ A : Nat, bits .and .i64 a 255 = (A : Int) ∧ A < 256 := by
  have h := i64_and_any a 255 8 rfl (by omega)
  refine ⟨(a % 256).toNat, ?_, by omega⟩
  rw [show ((255 : Nat) : Int) = 255 from rfl] at h
  rw [h, show (2 : Int) ^ 8 = 256 from rfl]
  omega
theorem cast_eq_zero (n : Nat) : (((n : Nat) : Int) == 0) = decide (n = 0) := by
  rw [Bool.eq_iff_iff, beq_iff_eq, decide_eq_true_iff]
  omega

theorem mayE_in {m : Nat} {z : Nat → Int} {n : Nat} {rs : Nat → RuleL} {x : WhoL} {c : Nat} (hc : c < 256) : mayE m z n rs x c = seesE m z n rs x := by
  unfold mayE
  split
  · rfl
  · rename_i h
    rw [if_pos (by omega)]
    simpa using Eq.symm (Decidable.not_not.1 h)
theorem mayV_in {m : Nat} {z : Nat → Int} {n : Nat} {rs : Nat → RuleL} {x : WhoL} {c : Nat} (hc : c < 256) : mayV m z n rs x c = (decide (seesE m z n rs x = 0) && decide (sub c (seesV m z n rs x) = 0)) := by
  unfold mayV
  rw [mayE_in hc, Int.toNat_natCast]
end Go.Proofs.Ytpjmhajhmkfolaa
