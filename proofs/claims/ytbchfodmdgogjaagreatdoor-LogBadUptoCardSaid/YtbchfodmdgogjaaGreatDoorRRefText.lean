/- The contract of wyref.Text: a record as a text, by the reference's road. -/
import Derived.Test.YtbchfodmdgogjaaGreatDoorRRefDec
import Derived.Test.YtbchfodmdgogjaaGreatDoorRWrite
import Derived.Test.YtbchfodmdgogjaaGreatDoorRNe
set_option linter.unusedVariables false
set_option linter.unusedSimpArgs false
set_option maxRecDepth 100000
namespace Go.Proofs.YtbchfodmdgogjaaGreatDoor
open Go.RowKit Go.Sort

theorem join_snoc (c : UInt8) (x : List UInt8) : ∀ {xs : List (List UInt8)}, xs ≠ [] → Lib.join (xs ++ [x]) [c] = Lib.join xs [c] ++ c :: x
  | [], h => absurd rfl h
  | [y], _ => by
    show Lib.join [y, x] [c] = _
    rw [joinC_cons, Lib.join_one, Lib.join_one]
  | y :: z :: r, _ => by
    have ih := join_snoc c x (xs := z :: r) (by simp)
    show Lib.join (y :: z :: (r ++ [x])) [c] = _
    rw [joinC_cons, joinC_cons]
    have e : z :: (r ++ [x]) = (z :: r) ++ [x] := rfl
    rw [e, ih]
    simp
/-- the text of the first k pieces -/
def joinK (xs : List (List UInt8)) (k : Nat) : List UInt8 := Lib.join (xs.take k) [44]
theorem joinK_first {xs : List (List UInt8)} {x : List UInt8} (h : xs[0]? = some x) : joinK xs 1 = x := by
  cases xs with
  | nil => simp at h
  | cons y r =>
    obtain rfl : y = x := by simpa using h
    show Lib.join [y] [44] = y
    rw [Lib.join_one]
theorem joinK_next {xs : List (List UInt8)} {x : List UInt8} {k : Nat} (h0 : 0 < k) (h : xs[k]? = some x) : joinK xs (k + 1) = joinK xs k ++ 44 :: x := by
  unfold joinK
  rw [List.take_add_one, h]
  exact join_snoc 44 x (fun e => by
    have h1 : k < xs.length := (List.getElem?_eq_some_iff.1 h).1
    have := congrArg List.length e
    rw [List.length_take] at this
    have h2 : min k xs.length = 0 := this
    omega)
theorem joinK_le {M : Nat} {xs : List (List UInt8)} (h : ∀ x ∈ xs, x.length ≤ M) (k : Nat) : (joinK xs k).length ≤ xs.length * (M + 1) := by
  have h1 := join_le (c := 44) (M := M) (xs := xs.take k) fun x hx => h x (List.mem_of_mem_take hx)
  have h2 : (xs.take k).length * (M + 1) ≤ xs.length * (M + 1) := Nat.mul_le_mul_right _ (by rw [List.length_take]; omega)
  unfold joinK
  omega

theorem add_run {a b c : ByteArray} (h : a.size + b.size ≤ 1000000) (e : a ++ b = c) (W : World) : (Op.stringOp .add a b).run Tryz.prog W = .ok (.string c) W := by
  rw [run_string_add_sum W a b (by omega), e]
theorem data_append (a b : ByteArray) : (a ++ b).data.toList = a.data.toList ++ b.data.toList := by simp

end Go.Proofs.YtbchfodmdgogjaaGreatDoor
