/- Fields as a map of strings: what the map says, and its keys in order. -/
import Derived.Test.YteimdhkajbldjaaGreatRMath
import Derived.Maps.StringElems
import Derived.Maps.OwnSet
import Derived.Sort.KeysCollected
set_option maxRecDepth 100000
namespace Go.Proofs.YteimdhkajbldjaaGreat
open Go.RowKit Go.Maps

/-- the map says g -/
def Says {H : Type} (D : DataW H) (g : ByteArray → Option ByteArray) : Prop :=
  IsMap D ∧ ∀ x : ByteArray, Maps.has D (.string x.data.toList) = (g x).isSome ∧ ∀ v, g x = some v → ∀ z, D.atKey (.string x.data.toList) z = .lit (.string v.data.toList)

theorem bytes_inj {x y : ByteArray} (h : x.data.toList = y.data.toList) : x = y := toList_inj (by rw [Lib.toList_data, Lib.toList_data, h])
theorem str_ne {x y : ByteArray} (h : x ≠ y) : (Lit.string x.data.toList) ≠ .string y.data.toList := fun e => h (bytes_inj (Lit.string.inj e))
theorem key_str (l : List UInt8) : WideAt.IsKeyLit (.string l) := trivial

theorem Says.empty {H : Type} : Says (.map [] : DataW H) (fun _ => none) := ⟨isMap_empty, fun x => ⟨rfl, fun v h => by cases h⟩⟩
theorem Says.put {H : Type} {D : DataW H} {g : ByteArray → Option ByteArray} (h : Says D g) (k v : ByteArray) : Says (D.put (.string k.data.toList) (.lit (.string v.data.toList))) (fun x => if sEq k x then some v else g x) := by
  refine ⟨h.1.put _ _, fun x => ?_⟩
  by_cases e : k = x
  · subst e
    simp only [sEq_iff.2 rfl, if_true]
    refine ⟨has_put_same h.1 (key_str _) _, fun u hu z => ?_⟩
    cases hu
    exact atKey_put_same h.1 (key_str _) _ _
  · have e1 : sEq k x = false := sEq_false.2 e
    have e2 := str_ne (fun e' => e e'.symm : x ≠ k)
    simp only [e1, Bool.false_eq_true, if_false]
    refine ⟨(has_put_other e2 _).trans (h.2 x).1, fun u hu z => ?_⟩
    rw [atKey_put_other e2]
    exact (h.2 x).2 u hu z
theorem Says.congr {H : Type} {D : DataW H} {g g' : ByteArray → Option ByteArray} (h : Says D g) (e : ∀ x, g x = g' x) : Says D g' := by
  have : g = g' := funext e
  rw [← this]
  exact h

theorem look_append (a b : List FieldL) (k : ByteArray) : look (a ++ b) k = (look a k).or (look b k) := by
  unfold look
  rw [List.find?_append]
  cases List.find? (fun f => sEq f.key k) a <;> rfl
theorem look_take_succ {fs : List FieldL} {k : Nat} {g : FieldL} (h : Asc (fs.map (·.key))) (hg : fs[k]? = some g) (x : ByteArray) : look (fs.take (k + 1)) x = if sEq g.key x then some g.val else look (fs.take k) x := by
  have hk := (List.getElem?_eq_some_iff.1 hg).1
  rw [List.take_add_one, hg]
  show look (fs.take k ++ [g]) x = _
  rw [look_append, look_cons]
  split
  · rename_i he
    have he := sEq_iff.1 he
    subst he
    have : look (fs.take k) g.key = none := by
      unfold look
      rw [Option.map_eq_none_iff, List.find?_eq_none]
      intro f hf hs
      obtain ⟨j, hj⟩ := List.getElem?_of_mem hf
      have hjk : j < k := by
        have := (List.getElem?_eq_some_iff.1 hj).1
        simp at this
        omega
      rw [List.getElem?_take_of_lt hjk] at hj
      have := List.pairwise_iff_getElem.1 h j k (by simp; omega) (by simpa using hk) hjk
      rw [List.getElem_map, List.getElem_map] at this
      rw [List.getElem?_eq_getElem (by omega)] at hg hj
      cases hg; cases hj
      exact absurd (sEq_iff.1 hs) (sLt_ne this)
    rw [this]
    rfl
  · show (look (fs.take k) x).or none = _
    cases look (fs.take k) x <;> rfl

/-- what the map says when k fields have been looked at -/
def part (fs : List FieldL) (f : FieldL) (k : Nat) (x : ByteArray) : Option ByteArray := if sEq f.key x then some f.val else look (fs.take k) x
theorem part_zero (fs : List FieldL) (f : FieldL) (x : ByteArray) : part fs f 0 x = if sEq f.key x then some f.val else none := rfl
theorem part_same {fs : List FieldL} {f g : FieldL} {k : Nat} (h : Asc (fs.map (·.key))) (hg : fs[k]? = some g) (e : g.key = f.key) (x : ByteArray) : part fs f k x = part fs f (k + 1) x := by
  unfold part
  rw [look_take_succ h hg, e]
  split <;> rfl
theorem part_other {fs : List FieldL} {f g : FieldL} {k : Nat} (h : Asc (fs.map (·.key))) (hg : fs[k]? = some g) (e : g.key ≠ f.key) (x : ByteArray) : (if sEq g.key x then some g.val else part fs f k x) = part fs f (k + 1) x := by
  unfold part
  rw [look_take_succ h hg]
  by_cases h1 : sEq g.key x = true
  · rw [if_pos h1, if_pos h1, if_neg]
    rw [sEq_iff] at h1 ⊢
    intro h2
    exact e (h1.trans h2.symm)
  · rw [if_neg h1, if_neg h1]
theorem part_all {fs : List FieldL} {f : FieldL} (h : Asc (fs.map (·.key))) (x : ByteArray) : part fs f fs.length x = look (setFs fs f) x := by
  unfold part
  rw [List.take_length, look_setFs x h]

theorem look_some {fs : List FieldL} {x : ByteArray} : (look fs x).isSome = true ↔ ∃ g ∈ fs, g.key = x := by
  cases h : look fs x with
  | none =>
    rw [look_none] at h
    unfold there at h
    simp only [Option.isSome_none, Bool.false_eq_true, false_iff]
    rintro ⟨g, hg, e⟩
    have := List.any_eq_false.1 h g hg
    exact this (sEq_iff.2 e)
  | some v =>
    unfold look at h
    obtain ⟨g, hg, rfl⟩ := Option.map_eq_some_iff.1 h
    simp only [Option.isSome_some, true_iff]
    exact ⟨g, List.mem_of_find?_eq_some hg, sEq_iff.1 (List.find?_some (p := fun f : FieldL => sEq f.key x) hg)⟩
theorem look_at {fs : List FieldL} {k : Nat} {g : FieldL} (h : Asc (fs.map (·.key))) (hg : fs[k]? = some g) : look fs g.key = some g.val := by
  have h1 := look_take_succ h hg g.key
  rw [if_pos (sEq_iff.2 rfl)] at h1
  have h2 := look_append (fs.take (k + 1)) (fs.drop (k + 1)) g.key
  rw [List.take_append_drop, h1] at h2
  exact h2

theorem le_iff {a b : ByteArray} : a.data.toList ≤ b.data.toList ↔ sLt b a = false := by
  unfold sLt
  rw [Lib.toList_data, Lib.toList_data, bytesLess_eq, decide_eq_false_iff_not]
  exact List.not_lt.symm

theorem keys_sorted {H : Type} {D : DataW H} {gs : List FieldL} {left : Lit → Bool} {ss : List (List UInt8)} (hs : Says D (look gs)) (ha : Asc (gs.map (·.key))) (hC : Collected D left ss) (hl : ∀ kl, left kl = false) :
    ss.mergeSort (fun x y => decide (x ≤ y)) = gs.map (fun g => g.key.data.toList) := by
  have hnd : (gs.map (fun g => g.key.data.toList)).Nodup := by
    have h1 := ha
    unfold Asc at h1
    rw [List.pairwise_map] at h1
    refine List.pairwise_map.2 (h1.imp fun {a b} h e => ?_)
    rw [bytes_inj e] at h
    rw [sLt_irrefl] at h
    cases h
  have hp : ss.Perm (gs.map (fun g => g.key.data.toList)) := (List.perm_ext_iff_of_nodup hC.1 hnd).2 fun x => by
    rw [hC.2 x, hl]
    obtain ⟨y, rfl⟩ : ∃ y : ByteArray, y.data.toList = x := ⟨⟨x.toArray⟩, rfl⟩
    rw [(hs.2 y).1, look_some, List.mem_map]
    constructor
    · rintro ⟨⟨g, hg, rfl⟩, _⟩
      exact ⟨g, hg, rfl⟩
    · rintro ⟨g, hg, e⟩
      exact ⟨⟨g, hg, bytes_inj e⟩, rfl⟩
  rw [show ss.mergeSort (fun x y => decide (x ≤ y)) = ss.mergeSort leB from rfl, mergeSort_of_perm hp]
  refine List.mergeSort_of_pairwise (List.pairwise_map.2 ?_)
  have h1 := ha
  unfold Asc at h1
  rw [List.pairwise_map] at h1
  refine h1.imp fun {a b} h => ?_
  show decide _ = true
  rw [decide_eq_true_eq, le_iff]
  exact sLt_asymm h
end Go.Proofs.YteimdhkajbldjaaGreat
