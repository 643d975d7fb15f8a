/- The contracts of wyref.kinds and wyref.Part: a set of kinds as a map. -/
import Derived.Test.YteimdhkajbldjaaGreatBase
import Derived.Maps.RangeWalk
import Derived.Maps.OwnOps
set_option linter.unusedVariables false
set_option linter.unusedSimpArgs false
set_option maxRecDepth 100000
namespace Go.Proofs.YteimdhkajbldjaaGreat
open Go.RowKit Go.Maps

theorem law3 : Keyed Tryz.prog 3 := int_keyed Tryz.underlying3

/-- the map of the kinds of n below k, as data -/
def kD (n : Nat) : Nat → DataW Unit
  | 0 => .map []
  | k + 1 => if n.testBit k = true then (kD n k).put (.int .i64 (k : Int)) (.lit (.bool true)) else kD n k

theorem kD_map (n : Nat) : ∀ k, IsMap (kD n k)
  | 0 => isMap_empty
  | k + 1 => by
    unfold kD
    split
    · exact (kD_map n k).put _ _
    · exact kD_map n k

theorem int_lit_ne {i j : Nat} (h : i ≠ j) : (Lit.int .i64 (i : Int)) ≠ .int .i64 (j : Int) := fun e => h (by cases e; rfl)

theorem key_lit (j : Nat) : WideAt.IsKeyLit (.int .i64 (j : Int)) := trivial

theorem kD_at (n j : Nat) : ∀ k, (kD n k).atKey (.int .i64 (j : Int)) (.lit (.bool false)) = .lit (.bool (decide (j < k) && n.testBit j))
  | 0 => by simp [kD, DataW.atKey]
  | k + 1 => by
    have ih := kD_at n j k
    unfold kD
    by_cases e : j = k
    · subst e
      split
      · rename_i hb
        rw [atKey_put_same (kD_map n j) (key_lit j), hb]
        simp
      · rename_i hb
        rw [ih]
        have : n.testBit j = false := by simpa using hb
        rw [this]
        simp
    · have hlt : decide (j < k + 1) = decide (j < k) := by
        rw [Bool.eq_iff_iff, decide_eq_true_iff, decide_eq_true_iff]
        omega
      rw [hlt]
      split
      · rw [atKey_put_other (int_lit_ne e), ih]
      · exact ih

theorem kD_bit {n j : Nat} {c : Bool} (hj : j < 8) (h : (kD n 8).atKey (.int .i64 (j : Int)) (.lit (.bool false)) = .lit (.bool c)) : c = n.testBit j := by
  rw [kD_at] at h
  have h1 : decide (j < 8) = true := by simpa using hj
  rw [h1, Bool.true_and] at h
  cases h
  rfl

theorem kD_has (n : Nat) (kl : Lit) : ∀ k, has (kD n k) kl = true → ∃ j : Nat, j < k ∧ kl = .int .i64 (j : Int) ∧ n.testBit j = true
  | 0, h => by simp [kD, has] at h
  | k + 1, h => by
    unfold kD at h
    split at h
    · rename_i hb
      by_cases e : kl = .int .i64 (k : Int)
      · exact ⟨k, by omega, e, hb⟩
      · rw [has_put_other e] at h
        obtain ⟨j, h1, h2, h3⟩ := kD_has n kl k h
        exact ⟨j, by omega, h2, h3⟩
    · obtain ⟨j, h1, h2, h3⟩ := kD_has n kl k h
      exact ⟨j, by omega, h2, h3⟩

theorem kD_has_of (n j : Nat) : ∀ k, j < k → n.testBit j = true → has (kD n k) (.int .i64 (j : Int)) = true
  | 0, h, _ => by omega
  | k + 1, h, hb => by
    unfold kD
    by_cases e : j = k
    · subst e
      rw [if_pos hb]
      exact has_put_same (kD_map n j) (key_lit j) _
    · have ih := kD_has_of n j k (by omega) hb
      split
      · rw [has_put_other (int_lit_ne e)]
        exact ih
      · exact ih

/-- what reads as a bool's datum is that bool -/
theorem plainElem_bool_inv {H : Type} {P : Program} {e : TypeId} (he : P.underlying e = some .bool) {v : Value} {z : DataW H × List MemPlace} (h : plainElem P e v = some z) : ∃ x, v = .bool x ∧ z = (.lit (.bool x), []) := by
  unfold plainElem at h
  rw [he] at h
  cases v <;> simp at h
  exact ⟨_, rfl, h.symm⟩

/-- 'm[k]' without 'ok' at elements that are bools. -/
theorem wpList_lookup_own_bool {H : Type} {P : Program} (w : World) {ops : Array Oper} {rest : List Oper} {o : Oper} {a : Act} {Q : Exit → Act → World → Prop}
    (hg : o.guard = none) (m x : Operand) (t : TypeId) (hop : o.op = Op.lookup t m x false)
    (k e : TypeId) (K : Keyed P k) (ht : P.underlying t = some (.map k e)) (he : P.underlying e = some .bool) (hz : (zeroValue e).run P w = .ok (.bool false) w) (b n : Nat) (D : DataW H)
    (hm : a.eval m = .map (some b)) (hown : w.ownsMap P k (plainElem P e) b n D) (key : Value) (kl : Lit) (hx : a.eval x = key) (hkey : keyOf P k key = some kl)
    (hK : ∀ c : Bool, D.atKey kl (.lit (.bool false)) = .lit (.bool c) → wpList P ops Q rest (a.put o.dst (.bool c)) w) :
    wpList P ops Q (o :: rest) a w := by
  refine wpList_plain hg fun K' hK' => ?_
  obtain ⟨v, ps, hrun, hv⟩ := hown.lookup K ht hz (plainElem_bool he false) hkey
  obtain ⟨c, rfl, hc⟩ := plainElem_bool_inv he hv
  simp only [Prod.mk.injEq] at hc
  unfold Oper.wp
  simp [execOp, hop, hm, hx, hrun, Result.andThen]
  exact hK' _ _ (hK c hc.1)

theorem zero4 (w : World) : (zeroValue 4).run Tryz.prog w = .ok (.bool false) w := by kernel_rfl

end Go.Proofs.YteimdhkajbldjaaGreat
