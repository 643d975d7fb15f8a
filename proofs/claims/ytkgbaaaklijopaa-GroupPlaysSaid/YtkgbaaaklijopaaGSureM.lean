/- The greatest number that more than half told, as plain mathematics. -/
import Derived.Test.YtkgbaaaklijopaaRMath
set_option linter.unusedVariables false
set_option linter.unusedSimpArgs false
namespace Go.Proofs.Ytkgbaaaklijopaa

/-- s is the greatest number that more than half of the list come up to -/
def IsSure (l : List Nat) (s : Nat) : Prop := l.length < 2 * l.countP (fun x => decide (s ≤ x)) ∧ 2 * l.countP (fun x => decide (s < x)) ≤ l.length

theorem IsSure.le {l : List Nat} {s t : Nat} (h : IsSure l s) (k : IsSure l t) : s ≤ t := by
  refine Nat.le_of_not_lt fun hlt => ?_
  have hm : l.countP (fun x => decide (s ≤ x)) ≤ l.countP (fun x => decide (t < x)) := List.countP_mono_left fun x _ hx => by
    rw [decide_eq_true_eq] at hx ⊢
    omega
  have h1 := h.1
  have h2 := k.2
  omega
theorem IsSure.eq {l : List Nat} {s t : Nat} (h : IsSure l s) (k : IsSure l t) : s = t := Nat.le_antisymm (h.le k) (k.le h)

theorem count_ge {L : List Int} (h : L.Pairwise (· ≤ ·)) {i : Nat} {s : Int} (hi : L[i]? = some s) : L.length - i ≤ L.countP (fun x => decide (s ≤ x)) := by
  have hlt := (List.getElem?_eq_some_iff.1 hi).1
  have e : L.countP (fun x => decide (s ≤ x)) = (L.take i).countP (fun x => decide (s ≤ x)) + (L.drop i).countP (fun x => decide (s ≤ x)) := by
    rw [← List.countP_append, List.take_append_drop]
  have hd : (L.drop i).countP (fun x => decide (s ≤ x)) = (L.drop i).length := List.countP_eq_length.2 fun x hx => by
    rw [decide_eq_true_eq]
    obtain ⟨j, hj, rfl⟩ := List.getElem_of_mem hx
    rw [List.getElem_drop]
    have hs : L[i] = s := by rw [List.getElem?_eq_getElem hlt] at hi; exact Option.some.inj hi
    rcases Nat.eq_zero_or_pos j with h0 | h0
    · subst h0
      rw [← hs]
      exact Int.le_refl _
    · rw [← hs]
      exact List.pairwise_iff_getElem.1 h i (i + j) hlt (by rw [List.length_drop] at hj; omega) (by omega)
  rw [List.length_drop] at hd
  omega
theorem count_gt {L : List Int} (h : L.Pairwise (· ≤ ·)) {i : Nat} {s : Int} (hi : L[i]? = some s) : L.countP (fun x => decide (s < x)) ≤ L.length - i - 1 := by
  have hlt := (List.getElem?_eq_some_iff.1 hi).1
  have e : L.countP (fun x => decide (s < x)) = (L.take (i + 1)).countP (fun x => decide (s < x)) + (L.drop (i + 1)).countP (fun x => decide (s < x)) := by
    rw [← List.countP_append, List.take_append_drop]
  have hd : (L.take (i + 1)).countP (fun x => decide (s < x)) = 0 := List.countP_eq_zero.2 fun x hx => by
    rw [decide_eq_true_eq]
    obtain ⟨j, hj, rfl⟩ := List.getElem_of_mem hx
    rw [List.getElem_take]
    rw [List.length_take] at hj
    have hs : L[i] = s := by rw [List.getElem?_eq_getElem hlt] at hi; exact Option.some.inj hi
    rcases Nat.lt_or_ge j i with h0 | h0
    · have := List.pairwise_iff_getElem.1 h j i (by omega) hlt h0
      rw [hs] at this
      omega
    · have e : j = i := by omega
      subst e
      rw [hs]
      omega
  have := List.countP_le_length (p := fun x => decide (s < x)) (l := L.drop (i + 1))
  rw [List.length_drop] at this
  omega
/-- what stands there in the sorted list -/
theorem sure_sorted {l : List Nat} {L : List Int} (hp : L.Perm (l.map fun (x : Nat) => (x : Int))) (hs : L.Pairwise (· ≤ ·)) {i s : Nat} (hi : L[i]? = some (s : Int)) (hn : i + (l.length / 2 + 1) = l.length) : IsSure l s := by
  have hl : L.length = l.length := by rw [hp.length_eq, List.length_map]
  have h1 := count_ge hs hi
  have h2 := count_gt hs hi
  rw [hp.countP_eq, List.countP_map] at h1 h2
  have e1 : l.countP ((fun x : Int => decide ((s : Int) ≤ x)) ∘ fun (x : Nat) => (x : Int)) = l.countP (fun x => decide (s ≤ x)) := List.countP_congr fun x _ => by simp
  have e2 : l.countP ((fun x : Int => decide ((s : Int) < x)) ∘ fun (x : Nat) => (x : Int)) = l.countP (fun x => decide (s < x)) := List.countP_congr fun x _ => by simp
  rw [e1] at h1
  rw [e2] at h2
  unfold IsSure
  omega
end Go.Proofs.Ytkgbaaaklijopaa
