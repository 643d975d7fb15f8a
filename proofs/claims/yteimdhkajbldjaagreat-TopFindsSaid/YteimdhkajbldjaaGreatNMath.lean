/- Sorted lists of names, without the program: a name put in its place, taken away; those above one. -/
import Derived.Test.YteimdhkajbldjaaGreatRMath
set_option linter.unusedVariables false
set_option linter.unusedSimpArgs false
set_option maxRecDepth 100000
namespace Go.Proofs.YteimdhkajbldjaaGreat

theorem asc_ext' : ∀ {l m : List ByteArray}, Asc l → Asc m → (∀ s, s ∈ l ↔ s ∈ m) → l = m
  | [], [], _, _, _ => rfl
  | [], b :: m, _, _, h => absurd ((h b).2 (by simp)) (by simp)
  | a :: l, [], _, _, h => absurd ((h a).1 (by simp)) (by simp)
  | a :: l, b :: m, hl, hm, h => by
    have l1 : ∀ x ∈ l, sLt a x = true := fun x hx => List.rel_of_pairwise_cons hl hx
    have m1 : ∀ x ∈ m, sLt b x = true := fun x hx => List.rel_of_pairwise_cons hm hx
    have hab : a = b := by
      rcases List.mem_cons.1 ((h a).1 (by simp)) with e | ha
      · exact e
      · rcases List.mem_cons.1 ((h b).2 (by simp)) with e | hb
        · exact e.symm
        · have := sLt_asymm (m1 a ha)
          rw [l1 b hb] at this
          cases this
    subst hab
    congr 1
    refine asc_ext' (List.Pairwise.of_cons hl) (List.Pairwise.of_cons hm) fun s => ?_
    constructor
    · intro hs
      rcases List.mem_cons.1 ((h s).1 (by simp [hs])) with e | hs'
      · subst e; have := l1 s hs; rw [sLt_irrefl] at this; cases this
      · exact hs'
    · intro hs
      rcases List.mem_cons.1 ((h s).2 (by simp [hs])) with e | hs'
      · subst e; have := m1 s hs; rw [sLt_irrefl] at this; cases this
      · exact hs'

/-! ## names of one field: put in their place, and taken away -/
/-- s in its place -/
def insN : List ByteArray → ByteArray → List ByteArray
  | [], s => [s]
  | a :: r, s => if sLt a s = true then a :: insN r s else s :: a :: r
theorem mem_insN : ∀ {l : List ByteArray} {s t : ByteArray}, t ∈ insN l s ↔ t = s ∨ t ∈ l
  | [], s, t => by simp [insN]
  | a :: r, s, t => by
    unfold insN
    split
    · rw [List.mem_cons, mem_insN, List.mem_cons]
      constructor
      · rintro (h | h | h)
        · exact .inr (.inl h)
        · exact .inl h
        · exact .inr (.inr h)
      · rintro (h | h | h)
        · exact .inr (.inl h)
        · exact .inl h
        · exact .inr (.inr h)
    · rw [List.mem_cons]
theorem insN_asc : ∀ {l : List ByteArray} {s : ByteArray}, Asc l → s ∉ l → Asc (insN l s)
  | [], s, _, _ => List.pairwise_singleton _ _
  | a :: r, s, h, hn => by
    have h1 : ∀ x ∈ r, sLt a x = true := fun x hx => List.rel_of_pairwise_cons h hx
    unfold insN
    split
    · rename_i hlt
      refine List.Pairwise.cons (fun b hb => ?_) (insN_asc (List.Pairwise.of_cons h) fun k => hn (by simp [k]))
      rcases mem_insN.1 hb with rfl | hb
      · exact hlt
      · exact h1 b hb
    · rename_i hlt
      have hsa : sLt s a = true := by
        rcases sLt_tri s a with k | k | k
        · exact k
        · exact absurd (by simp [k]) hn
        · exact absurd k hlt
      refine List.Pairwise.cons (fun b hb => ?_) h
      rcases List.mem_cons.1 hb with rfl | hb
      · exact hsa
      · exact sLt_trans hsa (h1 b hb)
theorem insN_length : ∀ (l : List ByteArray) (s : ByteArray), (insN l s).length = l.length + 1
  | [], s => rfl
  | a :: r, s => by
    unfold insN
    split
    · rw [List.length_cons, insN_length r s, List.length_cons]
    · rfl
/-- where it stands, or would stand -/
def idxN (l : List ByteArray) (s : ByteArray) : Nat := l.countP (fun a => sLt a s)
theorem idxN_le (l : List ByteArray) (s : ByteArray) : idxN l s ≤ l.length := List.countP_le_length
theorem idxN_cons_lt {a : ByteArray} {r : List ByteArray} {s : ByteArray} (h : sLt a s = true) : idxN (a :: r) s = idxN r s + 1 := by
  unfold idxN
  rw [List.countP_cons, h]
  rfl
theorem idxN_zero {l : List ByteArray} {s : ByteArray} (h : ∀ g ∈ l, sLt g s = false) : idxN l s = 0 := by
  unfold idxN
  rw [List.countP_eq_zero]
  intro g hg
  rw [h g hg]
  simp
theorem idxN_spec : ∀ {l : List ByteArray} (s : ByteArray), Asc l → ∀ j a, l[j]? = some a → (sLt a s = true ↔ j < idxN l s)
  | [], s, _, j, a, h => by simp at h
  | b :: r, s, h, j, a, hj => by
    have h1 : ∀ x ∈ r, sLt b x = true := fun x hx => List.rel_of_pairwise_cons h hx
    by_cases hlt : sLt b s = true
    · rw [idxN_cons_lt hlt]
      cases j with
      | zero =>
        simp only [List.getElem?_cons_zero, Option.some.injEq] at hj
        subst hj
        exact ⟨fun _ => by omega, fun _ => hlt⟩
      | succ j =>
        rw [List.getElem?_cons_succ] at hj
        rw [idxN_spec s (List.Pairwise.of_cons h) j a hj]
        omega
    · have hz : ∀ g ∈ b :: r, sLt g s = false := by
        intro g hg
        rcases List.mem_cons.1 hg with rfl | hg
        · simpa using hlt
        · cases hgk : sLt g s
          · rfl
          · exact absurd (sLt_trans (h1 g hg) hgk) hlt
      rw [idxN_zero hz, hz a (List.mem_of_getElem? hj)]
      simp
theorem idxN_there {l : List ByteArray} {s : ByteArray} (h : Asc l) : s ∈ l ↔ l[idxN l s]? = some s := by
  constructor
  · intro hs
    obtain ⟨j, hj⟩ := List.getElem?_of_mem hs
    have h1 := idxN_spec s h j s hj
    rw [sLt_irrefl] at h1
    have hge : idxN l s ≤ j := by
      rcases Nat.lt_or_ge j (idxN l s) with k | k
      · have := h1.2 k; cases this
      · exact k
    by_cases e : idxN l s = j
    · rw [e]; exact hj
    · have hjl := (List.getElem?_eq_some_iff.1 hj).1
      obtain ⟨g, hg⟩ : ∃ g, l[idxN l s]? = some g := ⟨_, List.getElem?_eq_getElem (by omega)⟩
      have h2 := idxN_spec s h (idxN l s) g hg
      have h3 := List.pairwise_iff_getElem.1 h (idxN l s) j (by omega) hjl (by omega)
      rw [List.getElem?_eq_getElem (by omega)] at hg
      rw [List.getElem?_eq_getElem hjl] at hj
      cases hg
      cases hj
      have := h2.1 h3
      omega
  · exact fun hs => List.mem_of_getElem? hs
theorem insN_split : ∀ {l : List ByteArray} {s : ByteArray}, Asc l → insN l s = l.take (idxN l s) ++ s :: l.drop (idxN l s)
  | [], s, _ => by simp [insN, idxN]
  | a :: r, s, h => by
    have h1 : ∀ x ∈ r, sLt a x = true := fun x hx => List.rel_of_pairwise_cons h hx
    unfold insN
    split
    · rename_i hlt
      rw [idxN_cons_lt hlt, List.take_succ_cons, List.drop_succ_cons, List.cons_append, insN_split (List.Pairwise.of_cons h)]
    · rename_i hlt
      have hz : ∀ g ∈ a :: r, sLt g s = false := by
        intro g hg
        rcases List.mem_cons.1 hg with rfl | hg
        · simpa using hlt
        · cases hgk : sLt g s
          · rfl
          · exact absurd (sLt_trans (h1 g hg) hgk) hlt
      rw [idxN_zero hz]
      rfl
/-- without s -/
def offN (l : List ByteArray) (s : ByteArray) : List ByteArray := l.filter (fun a => !sEq a s)
theorem mem_offN {l : List ByteArray} {s t : ByteArray} : t ∈ offN l s ↔ t ∈ l ∧ t ≠ s := by
  unfold offN
  rw [List.mem_filter, Bool.not_eq_true', sEq_false]
theorem offN_asc {l : List ByteArray} {s : ByteArray} (h : Asc l) : Asc (offN l s) := h.sublist List.filter_sublist
theorem offN_no {l : List ByteArray} {s : ByteArray} (h : s ∉ l) : offN l s = l := by
  unfold offN
  rw [List.filter_eq_self]
  intro a ha
  rw [Bool.not_eq_true', sEq_false]
  exact fun e => h (e ▸ ha)
theorem offN_split {l : List ByteArray} {s : ByteArray} (h : Asc l) (hs : s ∈ l) : offN l s = l.take (idxN l s) ++ l.drop (idxN l s + 1) := by
  refine asc_ext' (offN_asc h) ?_ fun t => ?_
  · refine h.sublist ?_
    have : List.Sublist (l.take (idxN l s) ++ l.drop (idxN l s + 1)) (l.take (idxN l s) ++ l.drop (idxN l s)) :=
      List.Sublist.append (List.Sublist.refl _) (by rw [← List.drop_drop]; exact List.drop_sublist _ _)
    rwa [List.take_append_drop] at this
  · have hat := (idxN_there h).1 hs
    have hlt := (List.getElem?_eq_some_iff.1 hat).1
    have e : l = l.take (idxN l s) ++ s :: l.drop (idxN l s + 1) := by
      conv => lhs; rw [← List.take_append_drop (idxN l s) l]
      rw [List.drop_eq_getElem_cons hlt]
      rw [List.getElem?_eq_getElem hlt] at hat
      rw [Option.some.inj hat]
    have hp := h
    rw [e] at hp
    obtain ⟨p1, p2, p3⟩ := List.pairwise_append.1 hp
    have p4 : ∀ x ∈ l.drop (idxN l s + 1), sLt s x = true := fun x hx => List.rel_of_pairwise_cons p2 hx
    have p5 : ∀ x ∈ l.take (idxN l s), sLt x s = true := fun x hx => p3 x hx s (by simp)
    rw [mem_offN, List.mem_append]
    constructor
    · rintro ⟨h1, h2⟩
      rw [e, List.mem_append, List.mem_cons] at h1
      rcases h1 with h1 | h1 | h1
      · exact .inl h1
      · exact absurd h1 h2
      · exact .inr h1
    · rintro (h1 | h1)
      · exact ⟨List.mem_of_mem_take h1, sLt_ne (p5 t h1)⟩
      · exact ⟨List.mem_of_mem_drop h1, (sLt_ne (p4 t h1)).symm⟩


/-- is it among these? -/
def memN (l : List ByteArray) (s : ByteArray) : Bool := l.any fun x => sEq x s
theorem memN_iff {l : List ByteArray} {s : ByteArray} : memN l s = true ↔ s ∈ l := by
  unfold memN
  rw [List.any_eq_true]
  constructor
  · rintro ⟨x, hx, e⟩
    rw [← sEq_iff.1 e]
    exact hx
  · exact fun h => ⟨s, h, sEq_iff.2 rfl⟩
/-! ## those above one -/
def above (l : List ByteArray) (s : ByteArray) : List ByteArray := l.filter (fun a => sLt s a)
theorem above_snoc (l : List ByteArray) (x s : ByteArray) : above (l ++ [x]) s = above l s ++ (if sLt s x = true then [x] else []) := by
  unfold above
  rw [List.filter_append]
  congr 1
  split
  · rename_i h; simp [h]
  · rename_i h; simp [h]
/-- how many are not -/
def upTo (l : List ByteArray) (s : ByteArray) : Nat := l.countP (fun a => !sLt s a)
theorem upTo_le (l : List ByteArray) (s : ByteArray) : upTo l s ≤ l.length := List.countP_le_length
theorem above_drop : ∀ {l : List ByteArray} (s : ByteArray), Asc l → l.drop (upTo l s) = above l s
  | [], s, _ => rfl
  | a :: r, s, h => by
    have h1 : ∀ x ∈ r, sLt a x = true := fun x hx => List.rel_of_pairwise_cons h hx
    cases hs : sLt s a with
    | true =>
      have h0 : upTo (a :: r) s = 0 := by
        unfold upTo
        rw [List.countP_eq_zero]
        intro x hx
        rcases List.mem_cons.1 hx with rfl | hx
        · simp [hs]
        · simp [sLt_trans hs (h1 x hx)]
      rw [h0, List.drop_zero]
      unfold above
      symm
      rw [List.filter_eq_self]
      intro x hx
      rcases List.mem_cons.1 hx with rfl | hx
      · exact hs
      · exact sLt_trans hs (h1 x hx)
    | false =>
      have h0 : upTo (a :: r) s = upTo r s + 1 := by
        unfold upTo
        rw [List.countP_cons, hs]
        rfl
      rw [h0, List.drop_succ_cons, above_drop s (List.Pairwise.of_cons h)]
      unfold above
      rw [List.filter_cons_of_neg (by simp [hs])]
open Classical in
theorem upTo_idx {l : List ByteArray} (s : ByteArray) (h : Asc l) : upTo l s = if s ∈ l then idxN l s + 1 else idxN l s := by
  induction l with
  | nil => simp [upTo, idxN]
  | cons a r ih =>
    have h1 : ∀ x ∈ r, sLt a x = true := fun x hx => List.rel_of_pairwise_cons h hx
    have ih := ih (List.Pairwise.of_cons h)
    rcases sLt_tri a s with k | k | k
    · have e1 : upTo (a :: r) s = upTo r s + 1 := by
        unfold upTo
        rw [List.countP_cons, sLt_asymm k]
        rfl
      rw [e1, idxN_cons_lt k, ih]
      have hm : s ∈ a :: r ↔ s ∈ r := by
        rw [List.mem_cons]
        exact ⟨fun h => h.elim (fun e => absurd e.symm (sLt_ne k)) id, .inr⟩
      by_cases hs : s ∈ r
      · rw [if_pos hs, if_pos (hm.2 hs)]
      · rw [if_neg hs, if_neg (fun k => hs (hm.1 k))]
    · subst k
      have e0 : idxN (a :: r) a = 0 := idxN_zero fun g hg => by
        rcases List.mem_cons.1 hg with rfl | hg
        · exact sLt_irrefl _
        · exact sLt_asymm (h1 g hg)
      have e1 : upTo (a :: r) a = 1 := by
        unfold upTo
        rw [List.countP_cons, sLt_irrefl]
        have : List.countP (fun b => !sLt a b) r = 0 := by
          rw [List.countP_eq_zero]
          intro x hx
          simp [h1 x hx]
        rw [this]
        rfl
      rw [e0, e1, if_pos (by simp)]
    · have hall : ∀ g ∈ a :: r, sLt s g = true := fun g hg => by
        rcases List.mem_cons.1 hg with rfl | hg
        · exact k
        · exact sLt_trans k (h1 g hg)
      have e0 : idxN (a :: r) s = 0 := idxN_zero fun g hg => sLt_asymm (hall g hg)
      have e1 : upTo (a :: r) s = 0 := by
        unfold upTo
        rw [List.countP_eq_zero]
        intro x hx
        simp [hall x hx]
      have hn : s ∉ a :: r := fun hm => by
        have := hall s hm
        rw [sLt_irrefl] at this
        cases this
      rw [e0, e1, if_neg hn]
theorem asc_adj {l : List ByteArray} (h : ∀ j a b, l[j]? = some a → l[j + 1]? = some b → sLt a b = true) : Asc l := asc_chain l h
theorem asc_at {l : List ByteArray} (h : Asc l) {j : Nat} {a b : ByteArray} (ha : l[j]? = some a) (hb : l[j + 1]? = some b) : sLt a b = true := by
  have hj := (List.getElem?_eq_some_iff.1 hb).1
  have := List.pairwise_iff_getElem.1 h j (j + 1) (by omega) hj (by omega)
  rw [List.getElem?_eq_getElem (by omega)] at ha
  rw [List.getElem?_eq_getElem hj] at hb
  cases ha
  cases hb
  exact this

/-! ## P30: a page -/
open Classical in
noncomputable def pageErr (l : List ByteArray) (n : Int) : Int := if 5120 < l.length then 2 else if ¬ Asc l then 3 else if 1 ≤ n ∧ n ≤ 60 then 0 else 1
noncomputable def pageL (l : List ByteArray) (s : ByteArray) (n : Int) : List ByteArray := if pageErr l n = 0 then (above l s).take n.toNat else []
noncomputable def pageMore (l : List ByteArray) (s : ByteArray) (n : Int) : Bool := if pageErr l n = 0 then decide (n < (above l s).length) else false
theorem pageErr_ok {l : List ByteArray} {n : Int} : pageErr l n = 0 ↔ l.length ≤ 5120 ∧ Asc l ∧ 1 ≤ n ∧ n ≤ 60 := by
  unfold pageErr
  by_cases h : 5120 < l.length
  · rw [if_pos h]
    exact Iff.intro (fun k => by cases k) (fun k => by omega)
  · rw [if_neg h]
    by_cases h2 : Asc l
    · rw [if_neg (fun k => k h2)]
      by_cases h3 : 1 ≤ n ∧ n ≤ 60
      · rw [if_pos h3]
        exact Iff.intro (fun _ => ⟨by omega, h2, h3⟩) (fun _ => rfl)
      · rw [if_neg h3]
        exact Iff.intro (fun k => by cases k) (fun k => absurd k.2.2 h3)
    · rw [if_pos h2]
      exact Iff.intro (fun k => by cases k) (fun k => absurd k.2.1 h2)
end Go.Proofs.YteimdhkajbldjaaGreat
