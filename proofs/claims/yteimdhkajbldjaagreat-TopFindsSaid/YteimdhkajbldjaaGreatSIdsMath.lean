/- Names, sorted and each once. -/
import Derived.Test.YteimdhkajbldjaaGreatSMath2
import Derived.Test.YteimdhkajbldjaaGreatRefSetMath
import Derived.Lib.SlicesCompact
set_option linter.unusedVariables false
set_option linter.unusedSimpArgs false
set_option maxRecDepth 100000
namespace Go.Proofs.YteimdhkajbldjaaGreat
open Go.RowKit

theorem get_bang {zs : List (List UInt8)} {j : Nat} (h : j < zs.length) : zs.toArray[j]! = zs[j] := by simp [getElem!_pos, h]

theorem compact_upTo {zs : List (List UInt8)} (hs : zs.Pairwise (fun a b => a ≤ b)) : ∀ m, m ≤ zs.length → (Lib.compactUpTo zs.toArray m).Pairwise (fun a b => a ≤ b ∧ a ≠ b) ∧ ∀ x, x ∈ Lib.compactUpTo zs.toArray m ↔ ∃ j, ∃ h : j < zs.length, j < m ∧ zs[j] = x
  | 0, _ => by
    refine ⟨?_, fun x => ⟨fun h => ?_, fun ⟨j, _, h, _⟩ => absurd h (Nat.not_lt_zero j)⟩⟩
    · simp [Lib.compactUpTo]
    · simp [Lib.compactUpTo] at h
  | m + 1, hm => by
    obtain ⟨ih1, ih2⟩ := compact_upTo hs m (by omega)
    have hml : m < zs.length := by omega
    rw [Lib.compactUpTo_succ]
    cases hk : Lib.keeps zs.toArray m with
    | true =>
      rw [if_pos rfl, get_bang hml]
      constructor
      · rw [List.pairwise_append]
        refine ⟨ih1, List.pairwise_singleton _ _, fun a ha b hb => ?_⟩
        rw [List.mem_singleton] at hb
        subst hb
        obtain ⟨j, hj, hjm, rfl⟩ := (ih2 a).1 ha
        have h1 : zs[j] ≤ zs[m] := List.pairwise_iff_getElem.1 hs j m hj hml hjm
        refine ⟨h1, fun e => ?_⟩
        have h0 : m ≠ 0 := by omega
        have h2 : zs[m - 1]'(by omega) ≤ zs[m] := List.pairwise_iff_getElem.1 hs (m - 1) m (by omega) hml (by omega)
        have h3 : zs[j] ≤ zs[m - 1]'(by omega) := by
          by_cases hjm' : j = m - 1
          · subst hjm'; exact List.le_refl _
          · exact List.pairwise_iff_getElem.1 hs j (m - 1) hj (by omega) (by omega)
        have h4 : zs[m] = zs[m - 1]'(by omega) := List.le_antisymm (e ▸ h3) h2
        unfold Lib.keeps at hk
        rw [decide_eq_true_eq] at hk
        rcases hk with hk | hk
        · exact h0 hk
        · rw [get_bang hml, get_bang (show m - 1 < zs.length by omega)] at hk
          exact hk h4
      · intro x
        rw [List.mem_append, ih2, List.mem_singleton]
        constructor
        · rintro (⟨j, hj, hjm, e⟩ | e)
          · exact ⟨j, hj, by omega, e⟩
          · exact ⟨m, hml, by omega, e.symm⟩
        · rintro ⟨j, hj, hjm, e⟩
          by_cases h : j = m
          · subst h; exact .inr e.symm
          · exact .inl ⟨j, hj, by omega, e⟩
    | false =>
      rw [if_neg (by decide), List.append_nil]
      refine ⟨ih1, fun x => ?_⟩
      rw [ih2]
      have hk' := hk
      unfold Lib.keeps at hk'
      rw [decide_eq_false_iff_not] at hk'
      have h0 : m ≠ 0 := fun e => hk' (.inl e)
      have h4 : zs[m] = zs[m - 1]'(by omega) := by
        refine Classical.byContradiction fun e => hk' (.inr ?_)
        rw [get_bang hml, get_bang (show m - 1 < zs.length by omega)]
        exact e
      constructor
      · rintro ⟨j, hj, hjm, e⟩
        exact ⟨j, hj, by omega, e⟩
      · rintro ⟨j, hj, hjm, e⟩
        by_cases h : j = m
        · subst h; exact ⟨j - 1, by omega, by omega, h4 ▸ e⟩
        · exact ⟨j, hj, by omega, e⟩

/-- the names of what was collected -/
def namesOf (ss : List (List UInt8)) : List ByteArray := (Lib.compact (ss.mergeSort fun x y => decide (x ≤ y))).map fun b => ⟨b.toArray⟩
theorem namesOf_cells (ss : List (List UInt8)) : (Lib.compact (ss.mergeSort fun x y => decide (x ≤ y))) = (namesOf ss).map (·.data.toList) := by
  unfold namesOf
  rw [List.map_map]
  simp [Function.comp_def]
theorem namesOf_ids {l : List VerL} {ss : List (List UInt8)} (h : ∀ s : ByteArray, s.data.toList ∈ ss ↔ ∃ c, lives l s c = true) : IsIds l (namesOf ss) := by
  have tr : ∀ a b c : List UInt8, decide (a ≤ b) = true → decide (b ≤ c) = true → decide (a ≤ c) = true := fun a b c h1 h2 => by simp only [decide_eq_true_eq] at *; exact List.le_trans h1 h2
  have to : ∀ a b : List UInt8, (decide (a ≤ b) || decide (b ≤ a)) = true := fun a b => by simp only [Bool.or_eq_true, decide_eq_true_eq]; exact List.le_total a b
  have hs : (ss.mergeSort fun x y => decide (x ≤ y)).Pairwise (fun a b => a ≤ b) := (List.pairwise_mergeSort tr to ss).imp fun h => by simpa using h
  obtain ⟨h1, h2⟩ := compact_upTo hs _ (Nat.le_refl _)
  constructor
  · unfold namesOf Asc
    refine List.pairwise_map.2 (List.Pairwise.imp ?_ h1)
    rintro a b ⟨hab, hne⟩
    have hba : sLt ⟨b.toArray⟩ ⟨a.toArray⟩ = false := le_iff.1 (by simpa using hab)
    rcases sLt_tri ⟨a.toArray⟩ ⟨b.toArray⟩ with k | k | k
    · exact k
    · exact absurd (by simpa using k) hne
    · rw [hba] at k; cases k
  · intro s
    rw [← h s]
    unfold namesOf
    rw [List.mem_map]
    have hm : ∀ x, x ∈ Lib.compact (ss.mergeSort fun x y => decide (x ≤ y)) ↔ x ∈ ss := fun x => by
      refine (h2 x).trans ⟨?_, fun hx => ?_⟩
      · rintro ⟨j, hj, _, rfl⟩
        exact List.mem_mergeSort.1 (List.getElem_mem hj)
      · obtain ⟨j, hj, e⟩ := List.getElem_of_mem (List.mem_mergeSort.2 hx)
        exact ⟨j, hj, hj, e⟩
    constructor
    · rintro ⟨x, hx, rfl⟩
      have := (hm x).1 hx
      simpa using this
    · intro hx
      exact ⟨_, (hm _).2 hx, by simp⟩
end Go.Proofs.YteimdhkajbldjaaGreat
