/- Contracts of slices.Sort and slices.Compact at a list of names that one owns. -/
import Derived.Test.YteimdhkajbldjaaGreatROwn
import Derived.Test.YteimdhkajbldjaaGreatSIdsMath
import Derived.Test.YteimdhkajbldjaaGreatSSortNil
import Derived.Test.YteimdhkajbldjaaGreatShelf
import Derived.Test.YteimdhkajbldjaaGreatFMath
import Derived.Sort.OwnSorted
import Derived.Shelf.Slices.CompactS
set_option linter.unusedVariables false
set_option linter.unusedSimpArgs false
set_option maxRecDepth 100000
namespace Go.Proofs.YteimdhkajbldjaaGreat
open Go.RowKit Go.Shelf Go.Sort

/-- sets of strings as sorted lists: what was collected -/
theorem sortN_mem (ss : List (List UInt8)) (s : ByteArray) : s ∈ namesOf ss ↔ s.data.toList ∈ ss := by
  have tr : ∀ a b c : List UInt8, decide (a ≤ b) = true → decide (b ≤ c) = true → decide (a ≤ c) = true := fun a b c h1 h2 => by simp only [decide_eq_true_eq] at *; exact List.le_trans h1 h2
  have to : ∀ a b : List UInt8, (decide (a ≤ b) || decide (b ≤ a)) = true := fun a b => by simp only [Bool.or_eq_true, decide_eq_true_eq]; exact List.le_total a b
  have hs : (ss.mergeSort fun x y => decide (x ≤ y)).Pairwise (fun a b => a ≤ b) := (List.pairwise_mergeSort tr to ss).imp fun h => by simpa using h
  obtain ⟨h1, h2⟩ := compact_upTo hs _ (Nat.le_refl _)
  have hm : ∀ x, x ∈ Lib.compact (ss.mergeSort fun x y => decide (x ≤ y)) ↔ x ∈ ss := fun x => by
    refine (h2 x).trans ⟨?_, fun hx => ?_⟩
    · rintro ⟨j, hj, _, rfl⟩
      exact List.mem_mergeSort.1 (List.getElem_mem hj)
    · obtain ⟨j, hj, e⟩ := List.getElem_of_mem (List.mem_mergeSort.2 hx)
      exact ⟨j, hj, hj, e⟩
  unfold namesOf
  rw [List.mem_map]
  constructor
  · rintro ⟨x, hx, rfl⟩
    have := (hm x).1 hx
    simpa using this
  · intro hx
    exact ⟨_, (hm _).2 hx, by simp⟩
theorem sortN_asc (ss : List (List UInt8)) : Asc (namesOf ss) := by
  have tr : ∀ a b c : List UInt8, decide (a ≤ b) = true → decide (b ≤ c) = true → decide (a ≤ c) = true := fun a b c h1 h2 => by simp only [decide_eq_true_eq] at *; exact List.le_trans h1 h2
  have to : ∀ a b : List UInt8, (decide (a ≤ b) || decide (b ≤ a)) = true := fun a b => by simp only [Bool.or_eq_true, decide_eq_true_eq]; exact List.le_total a b
  have hs : (ss.mergeSort fun x y => decide (x ≤ y)).Pairwise (fun a b => a ≤ b) := (List.pairwise_mergeSort tr to ss).imp fun h => by simpa using h
  obtain ⟨h1, h2⟩ := compact_upTo hs _ (Nat.le_refl _)
  unfold namesOf Asc
  refine List.pairwise_map.2 (List.Pairwise.imp ?_ h1)
  rintro a b ⟨hab, hne⟩
  have hba : sLt ⟨b.toArray⟩ ⟨a.toArray⟩ = false := le_iff.1 (by simpa using hab)
  rcases sLt_tri ⟨a.toArray⟩ ⟨b.toArray⟩ with k | k | k
  · exact k
  · exact absurd (by simpa using k) hne
  · rw [hba] at k; cases k
/-- sorted -/
def sortB (l : List ByteArray) : List (List UInt8) := (l.map fun s => s.data.toList).mergeSort fun x y => decide (x ≤ y)
def toNames (zs : List (List UInt8)) : List ByteArray := zs.map fun b => ⟨b.toArray⟩
theorem sortB_len (l : List ByteArray) : (sortB l).length = l.length := by unfold sortB; simp
/-- the names of a list, sorted and each once -/
def sortedN (l : List ByteArray) : List ByteArray := toNames (Lib.compact (sortB l))
theorem sortedN_eq (l : List ByteArray) : sortedN l = namesOf (l.map fun s => s.data.toList) := rfl

theorem map_enc (l : List ByteArray) : (l.map fun s => s.data.toList).map encStr = l.map Value.string := by
  rw [List.map_map]
  exact List.map_congr_left fun s _ => by simp [encStr]

/-- slices.Compact of what was sorted -/
theorem compact_of {B m : Nat} (g c : Nat) (l : List ByteArray) (w : World) (hl : l.length = m) (hrow : w.ownsRow B 9 1 (.slice (some ⟨g, 0, none⟩) m c) m ((sortB l).map encStr)) (hB : B ≤ w.heap.size) :
    Calls Tryz.prog 86 #[.slice (some ⟨g, 0, none⟩) m c] w fun e w' => e = .returned (.slice (some ⟨g, 0, none⟩) (sortedN l).length c) ∧ OwnS B w' (.slice (some ⟨g, 0, none⟩) (sortedN l).length c) (sortedN l) ∧ Below B w w' := by
  obtain ⟨cur3, hb3, hbase, h13, h23, h33, h43⟩ : ∃ cur3, w.heap[g]? = some (.cells cur3 9 (0, 0)) ∧ B ≤ g ∧ m ≤ c ∧ c ≤ maxLen ∧ cur3.size = c * 1 ∧ cur3.toList.take (m * 1) = (sortB l).map encStr := by
    rcases hrow.2 with ⟨e1, _⟩ | ⟨g', cap', cur', e1, hb', hh', k1, k2, k3, k4⟩
    · cases e1
    · injection e1 with ea _ ec
      injection ea with ea
      injection ea with ea
      subst ea ec
      exact ⟨cur', hh', hb', k1, k2, k3, k4⟩
  have hzl : (sortB l).length = m := by rw [sortB_len, hl]
  have hholds : Holds encStr w g 0 (sortB l).toArray := holds_of_block hb3 (by rw [hzl]; simpa using h43)
  have hcomp := Any.slices_Compact_string Tryz.lays194 g 0 c (sortB l) w hholds (by rw [hzl]; unfold maxLen at *; omega) (by rw [hzl]; exact h13)
  rw [hzl] at hcomp
  have hcl : (Lib.compact (sortB l)).length ≤ m := by
    rw [← hzl]
    unfold Lib.compact Lib.compactUpTo
    rw [List.length_map]
    exact Nat.le_trans (List.length_filter_le _ _) (by simp)
  have hsl : (sortedN l).length = (Lib.compact (sortB l)).length := by unfold sortedN toNames; rw [List.length_map]
  rw [hsl]
  refine hcomp.mono fun e w' ⟨he, q, hw⟩ => ?_
  have hrow4 := ownsRow_sorted (w := w) (n := q) (os := #[]) (ss := sortB l) (ts := Lib.compact (sortB l) ++ List.replicate (m - (Lib.compact (sortB l)).length) []) (e := 9) (base := B) (cap := c) (by rw [List.length_append, List.length_replicate, hzl]; omega) hbase hb3 (by rw [hzl]; exact h13) h23 h33
  have hg4 : w.grownBy (grow (putRow encStr (Sort.ahead w q) g 0 (Lib.compact (sortB l) ++ List.replicate (m - (Lib.compact (sortB l)).length) []).toArray) #[]) (some g) := grownBy_sorted _
  rw [grow_empty, ← hw] at hrow4 hg4
  refine ⟨he, ?_, (Below.refl B w).grown hg4 hB (fun j hj => by cases hj; exact hbase)⟩
  have hcut : ((Lib.compact (sortB l) ++ List.replicate (m - (Lib.compact (sortB l)).length) []).map encStr).take (Lib.compact (sortB l)).length = cellsS (sortedN l) := by
    rw [List.map_append, List.take_left' (by simp)]
    unfold cellsS sortedN toNames
    rw [List.map_map]
    rfl
  unfold OwnS
  rw [hsl, ← hcut]
  rcases hrow4.2 with ⟨e1, _⟩ | ⟨g', cap', cur', e1, hb', hh', k1, k2, k3, k4⟩
  · cases e1
  · injection e1 with ea _ ec
    injection ea with ea
    injection ea with ea
    subst ea ec
    refine ⟨by rw [List.length_take, hrow4.1, hzl]; omega, .inr ⟨g, c, cur', rfl, hb', hh', by omega, k2, k3, ?_⟩⟩
    rw [← k4, List.take_take, Nat.mul_one, hzl, Nat.mul_one]
    congr 1
    omega

theorem sortedN_asc (l : List ByteArray) : Asc (sortedN l) := by rw [sortedN_eq]; exact sortN_asc _
theorem sortedN_mem (l : List ByteArray) (s : ByteArray) : s ∈ sortedN l ↔ s ∈ l := by
  rw [sortedN_eq, sortN_mem, List.mem_map]
  constructor
  · rintro ⟨x, hx, e⟩
    rwa [← bdata_inj e]
  · exact fun h => ⟨s, h, rfl⟩
theorem sortedN_nil : sortedN [] = [] := by
  unfold sortedN toNames sortB
  simp [Lib.compact, Lib.compactUpTo]

/-- what Compact answers of the sorted list -/
def CompOf (l : List ByteArray) (B : Nat) (w : World) (e : Ending) (w' : World) : Prop := ∃ A k c, e = .returned (.slice A k c) ∧ Hid ((sortedN l).length = k) ∧ Hid (SlS w' A (sortedN l)) ∧ Hid (k ≤ maxLen) ∧ Hid (Below B w w')

theorem sortComp_is {B k : Nat} (A : Option Addr) (c : Nat) (l : List ByteArray) (w : World) (ho : OwnS B w (.slice A k c) l) (hl : l.length = k) (hk : k ≤ 100000) (hB : B ≤ w.heap.size) :
    Calls Tryz.prog 85 #[.slice A k c] w fun e w' => e = .returned (.tuple #[]) ∧ Hid (Below B w w') ∧ Hid (Calls Tryz.prog 86 #[.slice A k c] w' (CompOf l B w')) := by
  rcases ho.2 with ⟨e1, h0⟩ | ⟨g, c', cur, e1, hbase, hgb, r1, r2, r3, r4⟩
  · injection e1 with ea ek ec
    subst ea ek ec
    have hnil : l = [] := List.eq_nil_of_length_eq_zero h0
    subst hnil
    refine (sort_nil none 0 w).mono ?_
    rintro e w' ⟨rfl, rfl⟩
    refine ⟨rfl, Below.refl _ _, (Any.slices_Compact_string_empty Tryz.lays194 none 0 _).mono ?_⟩
    rintro e w' ⟨rfl, rfl⟩
    exact ⟨none, 0, 0, rfl, (by rw [sortedN_nil]; rfl), (by rw [sortedN_nil]; exact SlS.nil _ _), Nat.zero_le _, Below.refl _ _⟩
  · injection e1 with ea ek ec
    subst ea ec
    have hgl : g < w.heap.size := (Array.getElem?_eq_some_iff.1 hgb).1
    have hH : Holds encStr w g 0 (l.map fun s => s.data.toList).toArray := holds_of_block hgb (by rw [map_enc]; simpa [cellsS] using r4)
    have h1 := Any.slices_Sort_string Tryz.lays190 g 0 c (l.map fun s => s.data.toList) w hH hgl (by rw [List.length_map, hl]; omega)
    rw [List.length_map, hl] at h1
    refine h1.mono fun e w' ⟨he, nn, os, hw⟩ => ?_
    have h2 : w'.ownsRow B 9 1 (.slice (some ⟨g, 0, none⟩) k c) k ((sortB l).map encStr) := by
      subst hw
      have h3 := ownsRow_sorted (w := w) (n := nn) (os := os) (ss := l.map fun s => s.data.toList) (ts := sortB l) (e := 9) (base := B) (cap := c) (by rw [sortB_len]; simp) hbase hgb (by simpa using r1) r2 r3
      rw [List.length_map, hl] at h3
      exact h3
    have hg : w.grownBy w' (some g) := by
      subst hw
      exact grownBy_sorted _
    have hb : Below B w w' := (Below.refl B w).grown hg hB (fun j hj => by cases hj; exact hbase)
    refine ⟨he, hb, (compact_of g c l _ hl h2 (Nat.le_trans hB hb.size)).mono ?_⟩
    rintro e w2 ⟨rfl, ho2, hb2⟩
    obtain ⟨k1, k2, k3⟩ := OwnS.sl ho2
    exact ⟨_, _, c, rfl, rfl, k1, Nat.le_trans k2 k3, hb2⟩
end Go.Proofs.YteimdhkajbldjaaGreat
