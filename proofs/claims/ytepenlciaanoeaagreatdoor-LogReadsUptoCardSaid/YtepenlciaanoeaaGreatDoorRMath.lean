/- Names, values, fields, records, without the program: bytes, the order of strings, what Check, Get and Set compute. -/
import Derived.Sort.Walk0
import Derived.Lib.Strings
set_option maxRecDepth 100000
namespace Go.Proofs.YtepenlciaanoeaaGreatDoor

/-- a byte of a name -/
def nmB (c : UInt8) : Bool := (decide (97 ≤ c.toNat) && decide (c.toNat ≤ 122)) || (decide (48 ≤ c.toNat) && decide (c.toNat ≤ 57))
/-- a byte of a value -/
def vlB (c : UInt8) : Bool := decide (33 ≤ c.toNat) && decide (c.toNat ≤ 126) && !decide (c.toNat = 44) && !decide (c.toNat = 59) && !decide (c.toNat = 61)
def isNm (s : ByteArray) : Bool := decide (1 ≤ s.size) && decide (s.size ≤ 8) && s.data.toList.all nmB
def isVl (s : ByteArray) : Bool := decide (s.size ≤ 12) && s.data.toList.all vlB

structure FieldL where
  key : ByteArray
  val : ByteArray
deriving DecidableEq, Inhabited

def isFd (f : FieldL) : Bool := isNm f.key && isVl f.val

/-- the order of strings -/
def sLt (a b : ByteArray) : Bool := Op.bytesLess a.toList b.toList
/-- the same string -/
def sEq (a b : ByteArray) : Bool := a.toList == b.toList

theorem toList_inj {a b : ByteArray} (h : a.toList = b.toList) : a = b := by
  rw [Lib.toList_data, Lib.toList_data] at h
  obtain ⟨⟨x⟩⟩ := a
  obtain ⟨⟨y⟩⟩ := b
  simp only at h
  rw [h]
theorem sEq_iff {a b : ByteArray} : sEq a b = true ↔ a = b := by
  unfold sEq
  rw [beq_iff_eq]
  exact ⟨toList_inj, fun h => by rw [h]⟩
theorem sEq_false {a b : ByteArray} : sEq a b = false ↔ a ≠ b := by
  rw [← Bool.not_eq_true, sEq_iff]

theorem bl_irrefl : ∀ x : List UInt8, Op.bytesLess x x = false
  | [] => rfl
  | a :: x => by
    rw [Op.bytesLess, bl_irrefl x]
    simp
theorem bl_trans : ∀ x y z : List UInt8, Op.bytesLess x y = true → Op.bytesLess y z = true → Op.bytesLess x z = true
  | _, [], _, h, _ => by cases ‹List UInt8› <;> simp [Op.bytesLess] at h
  | _, _ :: _, [], _, h => by simp [Op.bytesLess] at h
  | [], _ :: _, _ :: _, _, _ => by simp [Op.bytesLess]
  | a :: x, b :: y, c :: z, h1, h2 => by
    simp only [Op.bytesLess, Bool.or_eq_true, Bool.and_eq_true, decide_eq_true_eq, beq_iff_eq] at h1 h2 ⊢
    rcases h1 with h1 | ⟨rfl, h1⟩
    · rcases h2 with h2 | ⟨rfl, h2⟩
      · exact .inl (UInt8.lt_trans h1 h2)
      · exact .inl h1
    · rcases h2 with h2 | ⟨rfl, h2⟩
      · exact .inl h2
      · exact .inr ⟨rfl, bl_trans x y z h1 h2⟩
theorem bl_tri : ∀ x y : List UInt8, Op.bytesLess x y = true ∨ x = y ∨ Op.bytesLess y x = true
  | [], [] => .inr (.inl rfl)
  | [], _ :: _ => .inl (by simp [Op.bytesLess])
  | _ :: _, [] => .inr (.inr (by simp [Op.bytesLess]))
  | a :: x, b :: y => by
    simp only [Op.bytesLess, Bool.or_eq_true, Bool.and_eq_true, decide_eq_true_eq, beq_iff_eq]
    by_cases h : a = b
    · subst h
      rcases bl_tri x y with h | h | h
      · exact .inl (.inr ⟨rfl, h⟩)
      · exact .inr (.inl (by rw [h]))
      · exact .inr (.inr (.inr ⟨rfl, h⟩))
    · have h' : a.toNat ≠ b.toNat := fun e => h (UInt8.toNat_inj.1 e)
      rw [UInt8.lt_iff_toNat_lt, UInt8.lt_iff_toNat_lt]
      rcases Nat.lt_or_gt_of_ne h' with h1 | h1
      · exact .inl (.inl h1)
      · exact .inr (.inr (.inl h1))

theorem sLt_irrefl (a : ByteArray) : sLt a a = false := bl_irrefl _
theorem sLt_trans {a b c : ByteArray} (h1 : sLt a b = true) (h2 : sLt b c = true) : sLt a c = true := bl_trans _ _ _ h1 h2
theorem sLt_tri (a b : ByteArray) : sLt a b = true ∨ a = b ∨ sLt b a = true := by
  rcases bl_tri a.toList b.toList with h | h | h
  · exact .inl h
  · exact .inr (.inl (toList_inj h))
  · exact .inr (.inr h)
theorem sLt_asymm {a b : ByteArray} (h : sLt a b = true) : sLt b a = false := by
  cases h2 : sLt b a
  · rfl
  · have := sLt_trans h h2
    rw [sLt_irrefl] at this
    cases this
theorem sLt_ne {a b : ByteArray} (h : sLt a b = true) : a ≠ b := fun e => by
  rw [e, sLt_irrefl] at h
  cases h
/-- '<=' as the model reckons it -/
theorem sLe_eq (a b : ByteArray) : (Op.bytesLess a.toList b.toList || a.toList == b.toList) = !(sLt b a) := by
  show (sLt a b || sEq a b) = _
  rcases sLt_tri a b with h | h | h
  · rw [h, sLt_asymm h]; rfl
  · subst h; rw [sLt_irrefl, sEq_iff.2 rfl]; rfl
  · rw [sLt_asymm h, h, sEq_false.2 (sLt_ne h).symm]; rfl

/-! ## ascending lists -/

/-- keys ascend -/
def Asc (l : List ByteArray) : Prop := l.Pairwise (fun a b => sLt a b = true)

/-- the first k fields of fs: each one a field, each key above the one ahead -/
def fOk (fs : List FieldL) (k : Nat) : Prop := ∀ i f, i < k → fs[i]? = some f → isFd f = true ∧ ∀ j g, i = j + 1 → fs[j]? = some g → sLt g.key f.key = true
def rOk (rs : List ByteArray) (k : Nat) : Prop := ∀ i s, i < k → rs[i]? = some s → isNm s = true ∧ ∀ j t, i = j + 1 → rs[j]? = some t → sLt t s = true

theorem asc_chain : ∀ (l : List ByteArray), (∀ j a b, l[j]? = some a → l[j + 1]? = some b → sLt a b = true) → Asc l
  | [], _ => List.Pairwise.nil
  | a :: l, h => by
    have ih := asc_chain l (fun j x y hx hy => h (j + 1) x y (by simpa using hx) (by simpa using hy))
    refine List.Pairwise.cons (fun b hb => ?_) ih
    cases l with
    | nil => cases hb
    | cons c r =>
      have h0 : sLt a c = true := h 0 a c rfl rfl
      rcases List.mem_cons.1 hb with rfl | hb
      · exact h0
      · exact sLt_trans h0 (List.rel_of_pairwise_cons ih hb)

theorem fOk_asc {fs : List FieldL} (h : fOk fs fs.length) : Asc (fs.map (·.key)) := asc_chain _ fun j a b ha hb => by
  rw [List.getElem?_map] at ha hb
  obtain ⟨f, hf, rfl⟩ := Option.map_eq_some_iff.1 ha
  obtain ⟨g, hg, rfl⟩ := Option.map_eq_some_iff.1 hb
  exact (h (j + 1) g (List.getElem?_eq_some_iff.1 hg).1 hg).2 j f rfl hf
theorem fOk_all {fs : List FieldL} (h : fOk fs fs.length) : ∀ f ∈ fs, isFd f = true := fun f hf => by
  obtain ⟨i, hi⟩ := List.getElem?_of_mem hf
  exact (h i f (List.getElem?_eq_some_iff.1 hi).1 hi).1
theorem fOk_mk {fs : List FieldL} (h1 : Asc (fs.map (·.key))) (h2 : ∀ f ∈ fs, isFd f = true) : fOk fs fs.length := fun i f hi hf => by
  refine ⟨h2 f (List.mem_of_getElem? hf), fun j g e hg => ?_⟩
  subst e
  have hj : j < fs.length := by omega
  have := List.pairwise_iff_getElem.1 h1 j (j + 1) (by simpa using hj) (by simpa using hi) (by omega)
  rw [List.getElem_map, List.getElem_map] at this
  rw [List.getElem?_eq_getElem hj] at hg
  rw [List.getElem?_eq_getElem hi] at hf
  cases hg
  cases hf
  exact this
theorem rOk_asc {rs : List ByteArray} (h : rOk rs rs.length) : Asc rs := asc_chain _ fun j a b ha hb =>
  (h (j + 1) b (List.getElem?_eq_some_iff.1 hb).1 hb).2 j a rfl ha

theorem fOk_succ {fs : List FieldL} {k : Nat} {f : FieldL} (h : fOk fs k) (hf : fs[k]? = some f) (h1 : isFd f = true) (h2 : ∀ j g, k = j + 1 → fs[j]? = some g → sLt g.key f.key = true) : fOk fs (k + 1) := fun i g hi hg => by
  by_cases e : i = k
  · subst e
    rw [hf] at hg
    cases hg
    exact ⟨h1, h2⟩
  · exact h i g (by omega) hg
theorem rOk_succ {rs : List ByteArray} {k : Nat} {s : ByteArray} (h : rOk rs k) (hs : rs[k]? = some s) (h1 : isNm s = true) (h2 : ∀ j t, k = j + 1 → rs[j]? = some t → sLt t s = true) : rOk rs (k + 1) := fun i g hi hg => by
  by_cases e : i = k
  · subst e
    rw [hs] at hg
    cases hg
    exact ⟨h1, h2⟩
  · exact h i g (by omega) hg

/-! ## records -/

structure RecL where
  id : ByteArray
  cats : Int
  fs : List FieldL
  rs : List ByteArray
deriving DecidableEq, Inhabited

def RecL.zero : RecL := ⟨⟨#[]⟩, 0, [], []⟩

open Classical in
/-- P16: what Check answers -/
noncomputable def RecL.err (r : RecL) : Int :=
  if isNm r.id = false then 3
  else if ¬ (0 ≤ r.cats ∧ r.cats ≤ 255) then 1
  else if 6 < r.fs.length ∨ 4 < r.rs.length then 2
  else if ¬ (fOk r.fs r.fs.length ∧ rOk r.rs r.rs.length) then 3
  else 0

structure RecL.Ok (r : RecL) : Prop where
  id : isNm r.id = true
  c0 : 0 ≤ r.cats
  c1 : r.cats ≤ 255
  nf : r.fs.length ≤ 6
  nr : r.rs.length ≤ 4
  fs : fOk r.fs r.fs.length
  rs : rOk r.rs r.rs.length

theorem RecL.err_ok (r : RecL) : r.err = 0 ↔ r.Ok := by
  unfold RecL.err
  constructor
  · intro h
    split at h
    · cases h
    · split at h
      · cases h
      · split at h
        · cases h
        · split at h
          · cases h
          · rename_i h1 h2 h3 h4
            have h2 := Classical.not_not.1 h2
            have h4 := Classical.not_not.1 h4
            exact ⟨by simpa using h1, h2.1, h2.2, by omega, by omega, h4.1, h4.2⟩
  · intro h
    rw [if_neg (by rw [h.id]; simp), if_neg (fun k => k ⟨h.c0, h.c1⟩), if_neg (by have := h.nf; have := h.nr; omega), if_neg (fun k => k ⟨h.fs, h.rs⟩)]

/-- the value of a key -/
def look (fs : List FieldL) (k : ByteArray) : Option ByteArray := (fs.find? (fun f => sEq f.key k)).map (·.val)

/-- P18: a field set in its place -/
def setFs : List FieldL → FieldL → List FieldL
  | [], f => [f]
  | g :: r, f => if sLt g.key f.key then g :: setFs r f else if sEq g.key f.key then f :: r else f :: g :: r

/-- where a key stands, or would stand -/
def idx (fs : List FieldL) (k : ByteArray) : Nat := fs.countP (fun f => sLt f.key k)
/-- is it there? -/
def there (fs : List FieldL) (k : ByteArray) : Bool := fs.any (fun f => sEq f.key k)

theorem look_none {fs : List FieldL} {k : ByteArray} : look fs k = none ↔ there fs k = false := by
  unfold look there
  rw [Option.map_eq_none_iff, List.find?_eq_none, ← Bool.not_eq_true, List.any_eq_true]
  constructor
  · rintro h ⟨f, hf, hk⟩
    exact h f hf hk
  · intro h f hf hk
    exact h ⟨f, hf, hk⟩

theorem asc_cons {f : FieldL} {fs : List FieldL} (h : Asc ((f :: fs).map (·.key))) : (∀ g ∈ fs, sLt f.key g.key = true) ∧ Asc (fs.map (·.key)) := by
  rw [List.map_cons] at h
  exact ⟨fun g hg => List.rel_of_pairwise_cons h (List.mem_map_of_mem hg), List.Pairwise.of_cons h⟩

theorem mem_setFs : ∀ {fs : List FieldL} {f g : FieldL}, g ∈ setFs fs f → g = f ∨ g ∈ fs
  | [], f, g, h => by simpa [setFs] using h
  | a :: r, f, g, h => by
    unfold setFs at h
    split at h
    · rcases List.mem_cons.1 h with h | h
      · exact .inr (by rw [h]; simp)
      · rcases mem_setFs h with h | h
        · exact .inl h
        · exact .inr (by simp [h])
    · split at h
      · rcases List.mem_cons.1 h with h | h
        · exact .inl h
        · exact .inr (by simp [h])
      · rcases List.mem_cons.1 h with h | h
        · exact .inl h
        · exact .inr h

theorem setFs_asc : ∀ {fs : List FieldL} {f : FieldL}, Asc (fs.map (·.key)) → Asc ((setFs fs f).map (·.key))
  | [], f, _ => by simp [setFs, Asc]
  | a :: r, f, h => by
    obtain ⟨h1, h2⟩ := asc_cons h
    unfold setFs
    split
    · rename_i hlt
      rw [List.map_cons]
      refine List.Pairwise.cons (fun k hk => ?_) (setFs_asc h2)
      obtain ⟨g, hg, rfl⟩ := List.mem_map.1 hk
      rcases mem_setFs hg with rfl | hg
      · exact hlt
      · exact h1 g hg
    · rename_i hnlt
      split
      · rename_i he
        have he := sEq_iff.1 he
        rw [List.map_cons]
        refine List.Pairwise.cons (fun k hk => ?_) h2
        obtain ⟨g, hg, rfl⟩ := List.mem_map.1 hk
        rw [← he]
        exact h1 g hg
      · rename_i hne
        have hfa : sLt f.key a.key = true := by
          rcases sLt_tri f.key a.key with h | h | h
          · exact h
          · exact absurd (sEq_iff.2 h.symm) hne
          · exact absurd h hnlt
        rw [List.map_cons]
        refine List.Pairwise.cons (fun k hk => ?_) h
        obtain ⟨g, hg, rfl⟩ := List.mem_map.1 hk
        rcases List.mem_cons.1 hg with rfl | hg
        · exact hfa
        · exact sLt_trans hfa (h1 g hg)

theorem look_cons (f : FieldL) (fs : List FieldL) (k : ByteArray) : look (f :: fs) k = if sEq f.key k then some f.val else look fs k := by
  unfold look
  rw [List.find?_cons]
  split <;> simp_all

theorem look_lt {fs : List FieldL} {k : ByteArray} (h : ∀ g ∈ fs, sLt k g.key = true) : look fs k = none := by
  unfold look
  rw [Option.map_eq_none_iff, List.find?_eq_none]
  intro g hg he
  exact sLt_ne (h g hg) (sEq_iff.1 he).symm

theorem look_setFs : ∀ {fs : List FieldL} {f : FieldL} (k : ByteArray), Asc (fs.map (·.key)) → look (setFs fs f) k = if sEq f.key k then some f.val else look fs k
  | [], f, k, _ => by rw [setFs, look_cons]
  | a :: r, f, k, h => by
    obtain ⟨h1, h2⟩ := asc_cons h
    unfold setFs
    split
    · rename_i hlt
      rw [look_cons, look_setFs k h2, look_cons]
      split
      · rename_i hak
        have hak := sEq_iff.1 hak
        rw [if_neg]
        rw [Bool.not_eq_true, sEq_false]
        intro e
        exact sLt_ne hlt (hak.trans e.symm)
      · rfl
    · split
      · rename_i he
        have he := sEq_iff.1 he
        rw [look_cons, look_cons, he]
        split <;> rfl
      · rw [look_cons]

/-- ascending lists with the same values of all keys are one -/
theorem look_ext : ∀ {fs gs : List FieldL}, Asc (fs.map (·.key)) → Asc (gs.map (·.key)) → (∀ k, look fs k = look gs k) → fs = gs
  | [], [], _, _, _ => rfl
  | [], g :: gs, _, _, h => by
    have := h g.key
    rw [look_cons, if_pos (sEq_iff.2 rfl)] at this
    cases this
  | f :: fs, [], _, _, h => by
    have := h f.key
    rw [look_cons, if_pos (sEq_iff.2 rfl)] at this
    cases this
  | f :: fs, g :: gs, hf, hg, h => by
    obtain ⟨f1, f2⟩ := asc_cons hf
    obtain ⟨g1, g2⟩ := asc_cons hg
    have ek : f.key = g.key := by
      rcases sLt_tri f.key g.key with e | e | e
      · have := h f.key
        rw [look_cons, if_pos (sEq_iff.2 rfl), look_cons, if_neg (by rw [Bool.not_eq_true, sEq_false]; exact (sLt_ne e).symm), look_lt (fun x hx => sLt_trans e (g1 x hx))] at this
        cases this
      · exact e
      · have := h g.key
        rw [look_cons, if_neg (by rw [Bool.not_eq_true, sEq_false]; exact (sLt_ne e).symm), look_lt (fun x hx => sLt_trans e (f1 x hx)), look_cons, if_pos (sEq_iff.2 rfl)] at this
        cases this
    have ev : f.val = g.val := by
      have := h f.key
      rw [look_cons, if_pos (sEq_iff.2 rfl), look_cons, if_pos (sEq_iff.2 ek.symm)] at this
      exact Option.some.inj this
    have e : f = g := by
      obtain ⟨a, b⟩ := f
      obtain ⟨c, d⟩ := g
      simp only at ek ev
      rw [ek, ev]
    subst e
    congr 1
    refine look_ext f2 g2 fun k => ?_
    by_cases hk : f.key = k
    · subst hk
      rw [look_lt f1, look_lt g1]
    · have := h k
      rw [look_cons, look_cons, if_neg (by rw [Bool.not_eq_true, sEq_false]; exact hk), if_neg (by rw [Bool.not_eq_true, sEq_false]; exact hk)] at this
      exact this

theorem idx_succ {a : FieldL} {r : List FieldL} {k : ByteArray} (h : sLt a.key k = true) : idx (a :: r) k = idx r k + 1 := by
  unfold idx
  rw [List.countP_cons, h]
  rfl
theorem idx_zero {fs : List FieldL} {k : ByteArray} (h : ∀ g ∈ fs, sLt g.key k = false) : idx fs k = 0 := by
  unfold idx
  rw [List.countP_eq_zero]
  intro g hg
  rw [h g hg]
  simp

/-- the place of a key in an ascending list -/
theorem idx_spec : ∀ {fs : List FieldL} (k : ByteArray), Asc (fs.map (·.key)) → (∀ j f, fs[j]? = some f → (sLt f.key k = true ↔ j < idx fs k)) ∧ idx fs k ≤ fs.length
  | [], k, _ => ⟨fun j f h => by simp at h, by simp [idx]⟩
  | a :: r, k, h => by
    obtain ⟨h1, h2⟩ := asc_cons h
    obtain ⟨i1, i2⟩ := idx_spec (fs := r) k h2
    by_cases hlt : sLt a.key k = true
    · have e : idx (a :: r) k = idx r k + 1 := idx_succ hlt
      rw [e]
      refine ⟨fun j f hf => ?_, by simpa using i2⟩
      cases j with
      | zero =>
        simp only [List.getElem?_cons_zero, Option.some.injEq] at hf
        subst hf
        exact ⟨fun _ => by omega, fun _ => hlt⟩
      | succ j =>
        simp only [List.getElem?_cons_succ] at hf
        rw [i1 j f hf]
        omega
    · have hz : ∀ g ∈ a :: r, sLt g.key k = false := by
        intro g hg
        rcases List.mem_cons.1 hg with rfl | hg
        · simpa using hlt
        · cases hgk : sLt g.key k
          · rfl
          · exact absurd (sLt_trans (h1 g hg) hgk) hlt
      have e : idx (a :: r) k = 0 := idx_zero hz
      rw [e]
      refine ⟨fun j f hf => ?_, Nat.zero_le _⟩
      rw [hz f (List.mem_of_getElem? hf)]
      simp

/-- it is there just if it stands in its place -/
theorem there_iff {fs : List FieldL} {k : ByteArray} (h : Asc (fs.map (·.key))) : there fs k = true ↔ ∃ f, fs[idx fs k]? = some f ∧ f.key = k := by
  obtain ⟨i1, i2⟩ := idx_spec k h
  unfold there
  rw [List.any_eq_true]
  constructor
  · rintro ⟨f, hf, hk⟩
    have hk := sEq_iff.1 hk
    obtain ⟨j, hj⟩ := List.getElem?_of_mem hf
    have hjl := (List.getElem?_eq_some_iff.1 hj).1
    have hge : ¬ j < idx fs k := by
      rw [← i1 j f hj, hk, sLt_irrefl]
      simp
    by_cases e : j = idx fs k
    · exact ⟨f, by rw [← e]; exact hj, hk⟩
    · exfalso
      have hl : idx fs k < fs.length := by omega
      obtain ⟨g, hg⟩ : ∃ g, fs[idx fs k]? = some g := ⟨_, List.getElem?_eq_getElem hl⟩
      have hg2 : ¬ sLt g.key k = true := by
        rw [i1 _ g hg]
        omega
      have := List.pairwise_iff_getElem.1 h (idx fs k) j (by simpa using hl) (by simpa using hjl) (by omega)
      rw [List.getElem_map, List.getElem_map] at this
      rw [List.getElem?_eq_getElem hl] at hg
      rw [List.getElem?_eq_getElem hjl] at hj
      cases hg
      cases hj
      rw [hk] at this
      exact hg2 this
  · rintro ⟨f, hf, rfl⟩
    exact ⟨f, List.mem_of_getElem? hf, sEq_iff.2 rfl⟩

theorem look_there {fs : List FieldL} {k : ByteArray} {f : FieldL} (h : Asc (fs.map (·.key))) (hf : fs[idx fs k]? = some f) (hk : f.key = k) : look fs k = some f.val := by
  have hm := List.mem_of_getElem? hf
  cases hl : look fs k with
  | none =>
    rw [look_none] at hl
    exact absurd ((there_iff h).2 ⟨f, hf, hk⟩) (by rw [hl]; simp)
  | some v =>
    unfold look at hl
    obtain ⟨g, hg, rfl⟩ := Option.map_eq_some_iff.1 hl
    have hgm := List.mem_of_find?_eq_some hg
    have hgk := sEq_iff.1 (List.find?_some (p := fun f : FieldL => sEq f.key k) hg)
    obtain ⟨j, hj⟩ := List.getElem?_of_mem hgm
    have hjl := (List.getElem?_eq_some_iff.1 hj).1
    have hil := (List.getElem?_eq_some_iff.1 hf).1
    have : j = idx fs k := by
      rcases Nat.lt_trichotomy j (idx fs k) with h1 | h1 | h1
      · have := List.pairwise_iff_getElem.1 h j (idx fs k) (by simpa using hjl) (by simpa using hil) h1
        rw [List.getElem_map, List.getElem_map] at this
        rw [List.getElem?_eq_getElem hil] at hf
        rw [List.getElem?_eq_getElem hjl] at hj
        cases hf; cases hj
        exact absurd (hgk.trans hk.symm) (sLt_ne this)
      · exact h1
      · have := List.pairwise_iff_getElem.1 h (idx fs k) j (by simpa using hil) (by simpa using hjl) h1
        rw [List.getElem_map, List.getElem_map] at this
        rw [List.getElem?_eq_getElem hil] at hf
        rw [List.getElem?_eq_getElem hjl] at hj
        cases hf; cases hj
        exact absurd (hk.trans hgk.symm) (sLt_ne this)
    rw [this, hf] at hj
    cases hj
    rfl

/-- set where it is there -/
theorem setFs_there : ∀ {fs : List FieldL} {f g : FieldL}, Asc (fs.map (·.key)) → fs[idx fs f.key]? = some g → g.key = f.key → setFs fs f = fs.set (idx fs f.key) f
  | [], f, g, _, h, _ => by simp at h
  | a :: r, f, g, h, hg, hk => by
    obtain ⟨h1, h2⟩ := asc_cons h
    unfold setFs
    split
    · rename_i hlt
      have e : idx (a :: r) f.key = idx r f.key + 1 := idx_succ hlt
      rw [e] at hg ⊢
      rw [List.getElem?_cons_succ] at hg
      rw [List.set_cons_succ, setFs_there h2 hg hk]
    · rename_i hnlt
      have e : idx (a :: r) f.key = 0 := by
        obtain ⟨i1, _⟩ := idx_spec f.key h
        have := i1 0 a rfl
        rcases Nat.eq_zero_or_pos (idx (a :: r) f.key) with h0 | h0
        · exact h0
        · exact absurd (this.2 h0) hnlt
      rw [e] at hg ⊢
      simp only [List.getElem?_cons_zero, Option.some.injEq] at hg
      subst hg
      rw [if_pos (sEq_iff.2 hk)]
      rfl

/-- set where it isn't -/
theorem setFs_new : ∀ {fs : List FieldL} {f : FieldL}, Asc (fs.map (·.key)) → there fs f.key = false → setFs fs f = fs.take (idx fs f.key) ++ f :: fs.drop (idx fs f.key)
  | [], f, _, _ => by simp [setFs]
  | a :: r, f, h, hn => by
    obtain ⟨h1, h2⟩ := asc_cons h
    have hn' : there r f.key = false ∧ sEq a.key f.key = false := by
      unfold there at hn ⊢
      rw [List.any_cons, Bool.or_eq_false_iff] at hn
      exact ⟨hn.2, hn.1⟩
    unfold setFs
    split
    · rename_i hlt
      have e : idx (a :: r) f.key = idx r f.key + 1 := idx_succ hlt
      rw [e, List.take_succ_cons, List.drop_succ_cons, List.cons_append, setFs_new h2 hn'.1]
    · rename_i hnlt
      have e : idx (a :: r) f.key = 0 := by
        obtain ⟨i1, _⟩ := idx_spec f.key h
        have := i1 0 a rfl
        rcases Nat.eq_zero_or_pos (idx (a :: r) f.key) with h0 | h0
        · exact h0
        · exact absurd (this.2 h0) hnlt
      rw [e, if_neg (by rw [hn'.2]; simp)]
      rfl

theorem setFs_length {fs : List FieldL} {f : FieldL} (h : Asc (fs.map (·.key))) : (setFs fs f).length = if there fs f.key then fs.length else fs.length + 1 := by
  cases ht : there fs f.key with
  | true =>
    obtain ⟨g, hg, hk⟩ := (there_iff h).1 ht
    rw [setFs_there h hg hk]
    simp
  | false =>
    rw [setFs_new h ht]
    obtain ⟨_, i2⟩ := idx_spec f.key h
    simp
    omega

/-- P18 -/
noncomputable def RecL.setErr (r : RecL) (f : FieldL) : Int :=
  if r.err ≠ 0 then r.err else if isFd f = false then 3 else if there r.fs f.key = false ∧ r.fs.length = 6 then 2 else 0
def RecL.put (r : RecL) (f : FieldL) : RecL := { r with fs := setFs r.fs f }

theorem RecL.put_ok {r : RecL} {f : FieldL} (h : r.Ok) (hf : isFd f = true) (hs : ¬ (there r.fs f.key = false ∧ r.fs.length = 6)) : (r.put f).Ok := by
  have ha := fOk_asc h.fs
  refine ⟨h.id, h.c0, h.c1, ?_, h.nr, fOk_mk (setFs_asc ha) fun g hg => ?_, h.rs⟩
  · show (setFs r.fs f).length ≤ 6
    rw [setFs_length ha]
    have := h.nf
    split
    · exact this
    · rename_i ht
      have : r.fs.length ≠ 6 := fun e => hs ⟨by simpa using ht, e⟩
      omega
  · rcases mem_setFs hg with rfl | hg
    · exact hf
    · exact fOk_all h.fs g hg
theorem RecL.setErr_ok {r : RecL} {f : FieldL} : r.setErr f = 0 ↔ r.Ok ∧ isFd f = true ∧ ¬ (there r.fs f.key = false ∧ r.fs.length = 6) := by
  unfold RecL.setErr
  by_cases h : r.err = 0
  · have ho := r.err_ok.1 h
    rw [if_neg (fun k => k h)]
    by_cases hf : isFd f = true
    · rw [if_neg (by rw [hf]; simp)]
      by_cases hs : there r.fs f.key = false ∧ r.fs.length = 6
      · rw [if_pos hs]
        exact Iff.intro (fun k => by cases k) (fun k => absurd hs k.2.2)
      · rw [if_neg hs]
        exact Iff.intro (fun _ => ⟨ho, hf, hs⟩) (fun _ => rfl)
    · rw [if_pos (by simpa using hf)]
      exact Iff.intro (fun k => by cases k) (fun k => absurd k.2.1 hf)
  · rw [if_pos h]
    exact Iff.intro (fun k => absurd k h) (fun k => absurd (r.err_ok.2 k.1) h)

/-- what Set answers -/
noncomputable def RecL.setRec (r : RecL) (f : FieldL) : RecL := if r.setErr f = 0 then r.put f else RecL.zero

/-- P17 -/
noncomputable def RecL.getErr (r : RecL) (k : ByteArray) : Int := if r.err ≠ 0 then r.err else if there r.fs k = false then 4 else 0
noncomputable def RecL.get (r : RecL) (k : ByteArray) : ByteArray := if r.err ≠ 0 then ⟨#[]⟩ else (look r.fs k).getD ⟨#[]⟩
end Go.Proofs.YtepenlciaanoeaaGreatDoor
