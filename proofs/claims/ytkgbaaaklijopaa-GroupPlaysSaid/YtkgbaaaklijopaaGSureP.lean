/- What is sure: that there is such a number, that it never becomes less, that more than half of all have it. -/
import Derived.Test.YtkgbaaaklijopaaGShipM
set_option linter.unusedVariables false
set_option linter.unusedSimpArgs false
set_option maxRecDepth 100000
namespace Go.Proofs.Ytkgbaaaklijopaa

theorem sure_ex {l : List Nat} (h : l ≠ []) : ∃ s, IsSure l s := by
  have hl : 0 < l.length := List.length_pos_iff.2 h
  obtain ⟨L, hL⟩ : ∃ L, (l.map fun (x : Nat) => (x : Int)).mergeSort (fun x y => decide (x ≤ y)) = L := ⟨_, rfl⟩
  have hp : L.Perm (l.map fun (x : Nat) => (x : Int)) := by rw [← hL]; exact List.mergeSort_perm _ _
  have hs : L.Pairwise (· ≤ ·) := by
    rw [← hL]
    exact (List.pairwise_mergeSort (fun a b c h1 h2 => by simp only [decide_eq_true_eq] at *; omega) (fun a b => by simp only [Bool.or_eq_true, decide_eq_true_eq]; omega) _).imp fun h => by simpa using h
  have hll : L.length = l.length := by rw [hp.length_eq, List.length_map]
  obtain ⟨i, hi⟩ : ∃ i, i + (l.length / 2 + 1) = l.length := ⟨l.length - (l.length / 2 + 1), by omega⟩
  obtain ⟨z, hz⟩ : ∃ z, L[i]? = some z := ⟨_, List.getElem?_eq_getElem (by omega)⟩
  obtain ⟨s, _, hsz⟩ := List.mem_map.1 (hp.mem_iff.1 (List.mem_of_getElem? hz))
  rw [← hsz] at hz
  exact ⟨s, sure_sorted hp hs hz hi⟩
/-- what node j told, the leader all that it has -/
def GrpX.tell (X : GrpX) (j : Nat) : Nat := if j = 0 then (X.L 0).length else X.told j
theorem GrpX.tolds_eq (X : GrpX) : X.tolds = (List.range (X.n + 1)).map X.tell := by
  unfold GrpX.tolds
  rw [List.range_succ_eq_map, List.map_cons, List.map_map]
  congr 1
theorem tolds_ne (X : GrpX) : X.tolds ≠ [] := by unfold GrpX.tolds; simp
theorem tolds_count (X : GrpX) (P : Nat → Bool) : X.tolds.countP P = (List.range (X.n + 1)).countP fun j => P (X.tell j) := by
  rw [X.tolds_eq, List.countP_map]
  rfl
theorem sure_more {X X' : GrpX} {log : List ByteArray} (h : More X X' log) {s s' : Nat} (hs : IsSure X.tolds s) (hs' : IsSure X'.tolds s') : s ≤ s' := by
  refine Nat.le_of_not_lt fun hlt => ?_
  have hle : X.tolds.countP (fun x => decide (s ≤ x)) ≤ X'.tolds.countP (fun x => decide (s' < x)) := by
    rw [tolds_count, tolds_count, h.n]
    refine List.countP_mono_left fun j _ hj => ?_
    rw [decide_eq_true_eq] at hj ⊢
    have : X.tell j ≤ X'.tell j := by
      unfold GrpX.tell
      split
      · rw [h.l0, List.length_append]; omega
      · exact h.told j
    omega
  have h1 := hs.1
  have h2 := hs'.2
  rw [X.tolds_len] at h1
  rw [X'.tolds_len, h.n] at h2
  omega
/-- how many of the first k nodes have s -/
def haveN (X : GrpX) (s k : Nat) : Nat := (List.range k).countP fun j => decide (s ≤ (X.L j).length)
theorem haveN_zero (X : GrpX) (s : Nat) : haveN X s 0 = 0 := rfl
theorem haveN_succ (X : GrpX) (s k : Nat) : haveN X s (k + 1) = haveN X s k + if s ≤ (X.L k).length then 1 else 0 := by
  unfold haveN
  rw [List.range_succ, List.countP_append]
  congr 1
  by_cases h : s ≤ (X.L k).length <;> simp [h]
theorem haveN_le (X : GrpX) (s k : Nat) : haveN X s k ≤ k := by
  unfold haveN
  have := List.countP_le_length (p := fun j => decide (s ≤ (X.L j).length)) (l := List.range k)
  rw [List.length_range] at this
  exact this
theorem haveN_most {X : GrpX} (h : X.Ok) {s : Nat} (hs : IsSure X.tolds s) : X.n + 1 < 2 * haveN X s (X.n + 1) := by
  have h1 := hs.1
  rw [X.tolds_len, tolds_count] at h1
  have h2 : (List.range (X.n + 1)).countP (fun j => decide (s ≤ X.tell j)) ≤ haveN X s (X.n + 1) := by
    unfold haveN
    refine List.countP_mono_left fun j hj hx => ?_
    rw [decide_eq_true_eq] at hx ⊢
    have hjn := List.mem_range.1 hj
    unfold GrpX.tell at hx
    split at hx
    · rename_i e; subst e; exact hx
    · have := (h.tl j (by omega) (by omega)).1
      omega
  omega
end Go.Proofs.Ytkgbaaaklijopaa
