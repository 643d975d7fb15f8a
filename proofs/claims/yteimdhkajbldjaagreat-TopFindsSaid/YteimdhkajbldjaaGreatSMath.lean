/- Versions and stores, without the program: who lives, what is wrong with a store, parts, names, what is put and taken away. -/
import Derived.Test.YteimdhkajbldjaaGreatRMath
import Derived.Test.YteimdhkajbldjaaGreatPlain
set_option maxRecDepth 100000
namespace Go.Proofs.YteimdhkajbldjaaGreat

theorem snocInd {α : Type} {P : List α → Prop} (h0 : P []) (h1 : ∀ l v, P l → P (l ++ [v])) (l : List α) : P l := by
  have : ∀ l : List α, P l.reverse := fun l => by
    induction l with
    | nil => exact h0
    | cons v l ih =>
      rw [List.reverse_cons]
      exact h1 _ _ ih
  have h := this l.reverse
  rwa [List.reverse_reverse] at h

theorem take_snoc {α : Type} {l : List α} {k : Nat} {v : α} (h : l[k]? = some v) : l.take (k + 1) = l.take k ++ [v] := by
  rw [List.take_add_one, h]
  rfl

structure VerL where
  r : RecL
  gone : Bool
deriving DecidableEq, Inhabited

/-- of that name, with just these kinds -/
def VerL.on (v : VerL) (id : ByteArray) (c : Int) : Bool := sEq v.r.id id && decide (v.r.cats = c)
theorem VerL.on_iff {v : VerL} {id : ByteArray} {c : Int} : v.on id c = true ↔ v.r.id = id ∧ v.r.cats = c := by
  unfold VerL.on
  rw [Bool.and_eq_true, sEq_iff, decide_eq_true_eq]
theorem VerL.on_self (v : VerL) : v.on v.r.id v.r.cats = true := VerL.on_iff.2 ⟨rfl, rfl⟩

/-- how many have just these kinds -/
def same (l : List VerL) (c : Int) : Nat := l.countP (fun v => decide (v.r.cats = c))
theorem same_nil (c : Int) : same [] c = 0 := rfl
theorem same_append (l m : List VerL) (c : Int) : same (l ++ m) c = same l c + same m c := by
  unfold same
  exact List.countP_append
theorem same_snoc (l : List VerL) (v : VerL) (c : Int) : same (l ++ [v]) c = same l c + if v.r.cats = c then 1 else 0 := by
  unfold same
  rw [List.countP_append, List.countP_singleton]
  simp
theorem same_le (l : List VerL) (c : Int) : same l c ≤ l.length := List.countP_le_length
theorem same_take (l : List VerL) (k : Nat) (c : Int) : same (l.take k) c ≤ same l c := by
  unfold same
  exact List.Sublist.countP_le (List.take_sublist k l)

/-- does the last one of that name with just these kinds live? -/
def livesF (id : ByteArray) (c : Int) (b : Bool) (v : VerL) : Bool := if v.on id c = true then !v.gone else b
def lives (l : List VerL) (id : ByteArray) (c : Int) : Bool := l.foldl (livesF id c) false
theorem lives_nil (id : ByteArray) (c : Int) : lives [] id c = false := rfl
theorem lives_snoc (l : List VerL) (v : VerL) (id : ByteArray) (c : Int) : lives (l ++ [v]) id c = if v.on id c = true then !v.gone else lives l id c := by
  unfold lives
  rw [List.foldl_append]
  rfl
theorem lives_snoc_self (l : List VerL) (v : VerL) : lives (l ++ [v]) v.r.id v.r.cats = !v.gone := by rw [lives_snoc, if_pos v.on_self]
theorem lives_snoc_off {l : List VerL} {v : VerL} {id : ByteArray} {c : Int} (h : v.on id c = false) : lives (l ++ [v]) id c = lives l id c := by
  rw [lives_snoc, if_neg (by rw [h]; simp)]
/-- who lives is there -/
theorem lives_mem {id : ByteArray} {c : Int} : ∀ l : List VerL, lives l id c = true → ∃ v ∈ l, v.r.id = id ∧ v.r.cats = c ∧ v.gone = false := by
  refine snocInd (fun h => by cases h) fun l v ih h => ?_
  rw [lives_snoc] at h
  split at h
  · rename_i ho
    obtain ⟨h1, h2⟩ := VerL.on_iff.1 ho
    exact ⟨v, by simp, h1, h2, by simpa using h⟩
  · obtain ⟨u, hu, h'⟩ := ih h
    exact ⟨u, by simp [hu], h'⟩
/-- of those that are chosen, all or none of a spot -/
theorem lives_filter {p : VerL → Bool} {b : Bool} {id : ByteArray} {c : Int} : ∀ l : List VerL, (∀ v ∈ l, v.on id c = true → p v = b) → lives (l.filter p) id c = (b && lives l id c) := by
  refine snocInd (fun _ => by simp [lives_nil]) fun l v ih h => ?_
  have ih := ih fun u hu => h u (by simp [hu])
  rw [List.filter_append, lives_snoc]
  cases ho : v.on id c with
  | true =>
    have hp := h v (by simp) ho
    rw [if_pos rfl]
    cases b with
    | true =>
      rw [List.filter_cons_of_pos (by simpa using hp), List.filter_nil, lives_snoc, if_pos ho]
      rfl
    | false =>
      rw [List.filter_cons_of_neg (by simp [hp]), List.filter_nil, List.append_nil, ih]
      rfl
  | false =>
    rw [if_neg (by simp)]
    cases hp : p v with
    | true => rw [List.filter_cons_of_pos hp, List.filter_nil, lives_snoc_off ho, ih]
    | false => rw [List.filter_cons_of_neg (by simp [hp]), List.filter_nil, List.append_nil, ih]

/-! ## what is wrong -/

open Classical in
/-- P21: of a version behind others -/
noncomputable def verErr (l : List VerL) (v : VerL) : Int :=
  if v.r.err ≠ 0 then v.r.err else if 20 ≤ same l v.r.cats then 2
  else if v.gone = true ∧ (v.r.fs ≠ [] ∨ v.r.rs ≠ [] ∨ lives l v.r.id v.r.cats = false) then 3 else 0

noncomputable def errFrom (pre : List VerL) : List VerL → Int
  | [] => 0
  | v :: r => if verErr pre v ≠ 0 then verErr pre v else errFrom (pre ++ [v]) r

theorem errFrom_append (m : List VerL) : ∀ (l pre : List VerL), errFrom pre (l ++ m) = if errFrom pre l ≠ 0 then errFrom pre l else errFrom (pre ++ l) m
  | [], pre => by simp [errFrom]
  | v :: l, pre => by
    rw [List.cons_append, errFrom, errFrom]
    by_cases h : verErr pre v ≠ 0
    · rw [if_pos h, if_pos h, if_pos h]
    · rw [if_neg h, if_neg h, errFrom_append m l (pre ++ [v])]
      simp
theorem errFrom_snoc (l : List VerL) (v : VerL) : errFrom [] (l ++ [v]) = if errFrom [] l ≠ 0 then errFrom [] l else verErr l v := by
  rw [errFrom_append]
  by_cases h : errFrom [] l ≠ 0
  · rw [if_pos h, if_pos h]
  · rw [if_neg h, if_neg h, List.nil_append, errFrom, errFrom]
    by_cases h2 : verErr l v ≠ 0
    · rw [if_pos h2]
    · rw [if_neg h2]
      omega

/-- P21: Check -/
noncomputable def stErr (l : List VerL) : Int := if 5120 < l.length then 2 else errFrom [] l

theorem errFrom_go {l : List VerL} {k : Nat} {v : VerL} (h : errFrom [] (l.take k) = 0) (hv : l[k]? = some v) (h0 : verErr (l.take k) v = 0) : errFrom [] (l.take (k + 1)) = 0 := by
  rw [take_snoc hv, errFrom_snoc, if_neg (fun k => k h), h0]
theorem errFrom_hit {l : List VerL} {k : Nat} {v : VerL} (h : errFrom [] (l.take k) = 0) (hv : l[k]? = some v) (h0 : verErr (l.take k) v ≠ 0) : errFrom [] l = verErr (l.take k) v := by
  have e : l = l.take (k + 1) ++ l.drop (k + 1) := (List.take_append_drop _ _).symm
  conv => lhs; rw [e]
  have h1 : errFrom [] (l.take (k + 1)) = verErr (l.take k) v := by rw [take_snoc hv, errFrom_snoc, if_neg (fun k => k h)]
  rw [errFrom_append, h1, if_pos h0]

/-- all of it may be -/
structure StOk (l : List VerL) : Prop where
  ver : ∀ v ∈ l, v.r.Ok
  few : ∀ c, same l c ≤ 20
  gone : ∀ v ∈ l, v.gone = true → v.r.fs = [] ∧ v.r.rs = []
  live : ∀ k v, l[k]? = some v → v.gone = true → lives (l.take k) v.r.id v.r.cats = true

theorem verErr_ok {l : List VerL} {v : VerL} : verErr l v = 0 ↔ v.r.Ok ∧ same l v.r.cats < 20 ∧ (v.gone = true → v.r.fs = [] ∧ v.r.rs = [] ∧ lives l v.r.id v.r.cats = true) := by
  unfold verErr
  by_cases h : v.r.err = 0
  · have ho := v.r.err_ok.1 h
    rw [if_neg (fun k => k h)]
    by_cases h2 : 20 ≤ same l v.r.cats
    · rw [if_pos h2]
      exact Iff.intro (fun k => by cases k) (fun k => by have := k.2.1; omega)
    · rw [if_neg h2]
      by_cases h3 : v.gone = true ∧ (v.r.fs ≠ [] ∨ v.r.rs ≠ [] ∨ lives l v.r.id v.r.cats = false)
      · rw [if_pos h3]
        refine Iff.intro (fun k => by cases k) fun k => ?_
        obtain ⟨k1, k2, k3⟩ := k.2.2 h3.1
        rcases h3.2 with h | h | h
        · exact absurd k1 h
        · exact absurd k2 h
        · rw [k3] at h; cases h
      · rw [if_neg h3]
        refine Iff.intro (fun _ => ⟨ho, by omega, fun hg => ?_⟩) (fun _ => rfl)
        refine ⟨Classical.byContradiction fun k => h3 ⟨hg, .inl k⟩, Classical.byContradiction fun k => h3 ⟨hg, .inr (.inl k)⟩, ?_⟩
        cases hl : lives l v.r.id v.r.cats
        · exact absurd ⟨hg, .inr (.inr hl)⟩ h3
        · rfl
  · rw [if_pos h]
    exact Iff.intro (fun k => absurd k h) (fun k => absurd (v.r.err_ok.2 k.1) h)

theorem stOk_nil : StOk [] := ⟨fun v h => (by cases h), fun c => Nat.zero_le _, fun v h => (by cases h), fun k v h => (by simp at h)⟩
theorem stOk_snoc {l : List VerL} {v : VerL} : StOk (l ++ [v]) ↔ StOk l ∧ verErr l v = 0 := by
  rw [verErr_ok]
  constructor
  · intro h
    refine ⟨⟨fun u hu => h.ver u (by simp [hu]), fun c => ?_, fun u hu => h.gone u (by simp [hu]), fun k u hk hg => ?_⟩, h.ver v (by simp), ?_, fun hg => ?_⟩
    · have := h.few c
      rw [same_snoc] at this
      omega
    · have hlt := (List.getElem?_eq_some_iff.1 hk).1
      have := h.live k u (by rw [List.getElem?_append_left hlt]; exact hk) hg
      rwa [List.take_append_of_le_length (by omega)] at this
    · have := h.few v.r.cats
      rw [same_snoc, if_pos rfl] at this
      omega
    · have h1 := h.gone v (by simp) hg
      have h2 := h.live l.length v (by simp) hg
      rw [List.take_left'] at h2
      · exact ⟨h1.1, h1.2, h2⟩
      · rfl
  · rintro ⟨h, ho, hs, hg⟩
    refine ⟨fun u hu => ?_, fun c => ?_, fun u hu => ?_, fun k u hk hug => ?_⟩
    · rcases List.mem_append.1 hu with hu | hu
      · exact h.ver u hu
      · rw [List.mem_singleton] at hu; subst hu; exact ho
    · rw [same_snoc]
      split
      · rename_i e
        rw [e] at hs
        omega
      · exact h.few c
    · rcases List.mem_append.1 hu with hu | hu
      · exact h.gone u hu
      · rw [List.mem_singleton] at hu; subst hu; exact fun k => ⟨(hg k).1, (hg k).2.1⟩
    · by_cases hlt : k < l.length
      · rw [List.getElem?_append_left hlt] at hk
        rw [List.take_append_of_le_length (by omega)]
        exact h.live k u hk hug
      · rw [List.getElem?_append_right (by omega)] at hk
        have hkl : k - l.length = 0 := by
          have := (List.getElem?_eq_some_iff.1 hk).1
          simp at this
          omega
        rw [hkl] at hk
        simp only [List.getElem?_cons_zero, Option.some.injEq] at hk
        subst hk
        have : k = l.length := by omega
        subst this
        rw [List.take_left' rfl]
        exact (hg hug).2.2
theorem errFrom_ok : ∀ l : List VerL, errFrom [] l = 0 ↔ StOk l := by
  refine snocInd ⟨fun _ => stOk_nil, fun _ => rfl⟩ fun l v ih => ?_
  rw [errFrom_snoc, stOk_snoc, ← ih]
  by_cases h : errFrom [] l = 0
  · rw [if_neg (fun k => k h)]
    exact ⟨fun k => ⟨h, k⟩, fun k => k.2⟩
  · rw [if_pos h]
    exact ⟨fun k => absurd k h, fun k => k.1⟩
theorem stErr_ok {l : List VerL} : stErr l = 0 ↔ l.length ≤ 5120 ∧ StOk l := by
  unfold stErr
  split
  · exact Iff.intro (fun k => by cases k) (fun k => by omega)
  · rw [errFrom_ok]
    exact Iff.intro (fun k => ⟨by omega, k⟩) (fun k => k.2)

theorem StOk.take {l : List VerL} (h : StOk l) (k : Nat) : StOk (l.take k) where
  ver v hv := h.ver v (List.mem_of_mem_take hv)
  few c := Nat.le_trans (same_take l k c) (h.few c)
  gone v hv := h.gone v (List.mem_of_mem_take hv)
  live j v hv hg := by
    rw [List.getElem?_take] at hv
    split at hv
    · rename_i hj
      have := h.live j v hv hg
      rwa [List.take_take, Nat.min_eq_left (by omega)]
    · cases hv

/-- a choice by spot of a store is one -/
theorem StOk.filter {l : List VerL} (h : StOk l) {p : VerL → Bool} (hp : ∀ u v : VerL, u.r.id = v.r.id → u.r.cats = v.r.cats → p u = p v) : StOk (l.filter p) := by
  refine (errFrom_ok _).1 ?_
  induction l using snocInd with
  | h0 => rfl
  | h1 l v ih =>
    obtain ⟨h1, h2⟩ := stOk_snoc.1 h
    have ih := ih h1
    rw [List.filter_append]
    cases hv : p v with
    | false =>
      rw [List.filter_cons_of_neg (by simp [hv]), List.filter_nil, List.append_nil]
      exact ih
    | true =>
      rw [List.filter_cons_of_pos hv, List.filter_nil, errFrom_snoc, if_neg (fun k => k ih)]
      obtain ⟨k1, k2, k3⟩ := verErr_ok.1 h2
      refine verErr_ok.2 ⟨k1, Nat.lt_of_le_of_lt (List.Sublist.countP_le List.filter_sublist) k2, fun hg => ?_⟩
      obtain ⟨j1, j2, j3⟩ := k3 hg
      refine ⟨j1, j2, ?_⟩
      rw [lives_filter (b := true) l fun u _ hu => ?_, j3]
      · rfl
      · obtain ⟨e1, e2⟩ := VerL.on_iff.1 hu
        rw [hp u v e1 e2, hv]

/-! ## P22, P23: what is put, and taken away -/

noncomputable def putErr (l : List VerL) (r : RecL) : Int := if stErr l ≠ 0 then stErr l else if r.err ≠ 0 then r.err else if 20 ≤ same l r.cats then 2 else 0
noncomputable def putL (l : List VerL) (r : RecL) : List VerL := if putErr l r = 0 then l ++ [⟨r, false⟩] else []
open Classical in
noncomputable def cutErr (l : List VerL) (id : ByteArray) (c : Int) : Int :=
  if stErr l ≠ 0 then stErr l else if isNm id = false then 3 else if ¬ (0 ≤ c ∧ c ≤ 255) then 1 else if lives l id c = false then 4 else if 20 ≤ same l c then 2 else 0
def goneV (id : ByteArray) (c : Int) : VerL := ⟨⟨id, c, [], []⟩, true⟩
noncomputable def cutL (l : List VerL) (id : ByteArray) (c : Int) : List VerL := if cutErr l id c = 0 then l ++ [goneV id c] else []

theorem putErr_ok {l : List VerL} {r : RecL} : putErr l r = 0 ↔ stErr l = 0 ∧ r.Ok ∧ same l r.cats < 20 := by
  unfold putErr
  by_cases h : stErr l = 0
  · rw [if_neg (fun k => k h)]
    by_cases h2 : r.err = 0
    · have := r.err_ok.1 h2
      rw [if_neg (fun k => k h2)]
      by_cases h3 : 20 ≤ same l r.cats
      · rw [if_pos h3]
        exact Iff.intro (fun k => by cases k) (fun k => by omega)
      · rw [if_neg h3]
        exact Iff.intro (fun _ => ⟨h, this, by omega⟩) (fun _ => rfl)
    · rw [if_pos h2]
      exact Iff.intro (fun k => absurd k h2) (fun k => absurd (r.err_ok.2 k.2.1) h2)
  · rw [if_pos h]
    exact Iff.intro (fun k => absurd k h) (fun k => absurd k.1 h)
theorem cutErr_ok {l : List VerL} {id : ByteArray} {c : Int} : cutErr l id c = 0 ↔ stErr l = 0 ∧ isNm id = true ∧ (0 ≤ c ∧ c ≤ 255) ∧ lives l id c = true ∧ same l c < 20 := by
  unfold cutErr
  by_cases h : stErr l = 0
  · rw [if_neg (fun k => k h)]
    by_cases h2 : isNm id = false
    · rw [if_pos h2]
      exact Iff.intro (fun k => by cases k) (fun k => by rw [h2] at k; cases k.2.1)
    · rw [if_neg h2]
      by_cases h3 : 0 ≤ c ∧ c ≤ 255
      · rw [if_neg (fun k => k h3)]
        by_cases h4 : lives l id c = false
        · rw [if_pos h4]
          exact Iff.intro (fun k => by cases k) (fun k => by rw [h4] at k; cases k.2.2.2.1)
        · rw [if_neg h4]
          by_cases h5 : 20 ≤ same l c
          · rw [if_pos h5]
            exact Iff.intro (fun k => by cases k) (fun k => by omega)
          · rw [if_neg h5]
            exact Iff.intro (fun _ => ⟨h, by simpa using h2, h3, by simpa using h4, by omega⟩) (fun _ => rfl)
      · rw [if_pos h3]
        exact Iff.intro (fun k => by cases k) (fun k => absurd k.2.2.1 h3)
  · rw [if_pos h]
    exact Iff.intro (fun k => absurd k h) (fun k => absurd k.1 h)

theorem RecL.okBare {id : ByteArray} {c : Int} (h : isNm id = true) (hc : 0 ≤ c ∧ c ≤ 255) : RecL.Ok ⟨id, c, [], []⟩ :=
  ⟨h, hc.1, hc.2, by simp, by simp, fun i f hi => absurd hi (Nat.not_lt_zero i), fun i f hi => absurd hi (Nat.not_lt_zero i)⟩
theorem StOk.put {l : List VerL} {r : RecL} (h : StOk l) (hr : r.Ok) (hs : same l r.cats < 20) : StOk (l ++ [⟨r, false⟩]) :=
  stOk_snoc.2 ⟨h, verErr_ok.2 ⟨hr, hs, fun k => by cases k⟩⟩
theorem StOk.cut {l : List VerL} {id : ByteArray} {c : Int} (h : StOk l) (hi : isNm id = true) (hc : 0 ≤ c ∧ c ≤ 255) (hl : lives l id c = true) (hs : same l c < 20) : StOk (l ++ [goneV id c]) :=
  stOk_snoc.2 ⟨h, verErr_ok.2 ⟨RecL.okBare hi hc, hs, fun _ => ⟨rfl, rfl, hl⟩⟩⟩

/-! ## P24: a prt -/

/-- are all kinds of c among those of a? -/
def among (c a : Int) : Bool := decide (sub c.toNat a.toNat = 0)
noncomputable def prtErr (l : List VerL) (c : Int) : Int := if stErr l ≠ 0 then stErr l else if 0 ≤ c ∧ c ≤ 255 then 0 else 1
def prt (l : List VerL) (a : Int) : List VerL := l.filter (fun v => among v.r.cats a)
noncomputable def prtL (l : List VerL) (c : Int) : List VerL := if prtErr l c = 0 then prt l c else []
theorem prtErr_ok {l : List VerL} {c : Int} : prtErr l c = 0 ↔ stErr l = 0 ∧ 0 ≤ c ∧ c ≤ 255 := by
  unfold prtErr
  by_cases h : stErr l = 0
  · rw [if_neg (fun k => k h)]
    by_cases h2 : 0 ≤ c ∧ c ≤ 255
    · rw [if_pos h2]
      exact Iff.intro (fun _ => ⟨h, h2⟩) (fun _ => rfl)
    · rw [if_neg h2]
      exact Iff.intro (fun k => by cases k) (fun k => absurd k.2 h2)
  · rw [if_pos h]
    exact Iff.intro (fun k => absurd k h) (fun k => absurd k.1 h)

theorem among_iff {c a : Int} (hc : c ≤ 255) (ha : a ≤ 255) : among c a = true ↔ ∀ i, c.toNat.testBit i = true → a.toNat.testBit i = true := by
  unfold among
  rw [decide_eq_true_eq, sub_zero (by omega) (by omega)]
theorem among_all {c : Int} (h : c ≤ 255) : among c 255 = true := by
  rw [among_iff h (by decide)]
  intro i hi
  have : c.toNat < 2 ^ 8 := by omega
  have hi8 : i < 8 := by
    by_cases hlt : i < 8
    · exact hlt
    · rw [Nat.testBit_lt_two_pow (Nat.lt_of_lt_of_le this (Nat.pow_le_pow_right (n := 2) (by omega) (show 8 ≤ i by omega)))] at hi
      cases hi
  show (2 ^ 8 - 1 : Nat).testBit i = true
  rw [Nat.testBit_two_pow_sub_one]
  simpa using hi8

theorem prt_length (l : List VerL) (a : Int) : (prt l a).length ≤ l.length := List.length_filter_le _ _
theorem StOk.prt {l : List VerL} (h : StOk l) (a : Int) : StOk (prt l a) := h.filter fun u v _ e => by rw [e]
theorem prt_append (l m : List VerL) (a : Int) : prt (l ++ m) a = prt l a ++ prt m a := List.filter_append _ _
theorem prt_one (v : VerL) (a : Int) : prt [v] a = if among v.r.cats a = true then [v] else [] := by
  unfold prt
  split
  · rename_i h; simp [h]
  · rename_i h; simp [h]
theorem lives_prt {l : List VerL} {id : ByteArray} {c a : Int} : lives (prt l a) id c = (among c a && lives l id c) :=
  lives_filter l fun v _ hv => by rw [(VerL.on_iff.1 hv).2]
theorem same_prt (l : List VerL) (a c : Int) : same (prt l a) c ≤ same l c := List.Sublist.countP_le List.filter_sublist
theorem same_prt_in {l : List VerL} {a c : Int} (h : among c a = true) : same (prt l a) c = same l c := by
  unfold same prt
  rw [List.countP_filter]
  congr 1
  funext v
  cases hd : decide (v.r.cats = c)
  · rfl
  · rw [of_decide_eq_true hd, h]; rfl

/-! ## P25: who came last of those that live -/

def getP (l : List VerL) (id : ByteArray) (v : VerL) : Bool := sEq v.r.id id && lives l v.r.id v.r.cats
def getV (l : List VerL) (id : ByteArray) : Option VerL := l.reverse.find? (getP l id)
noncomputable def getErr (l : List VerL) (id : ByteArray) : Int := if stErr l ≠ 0 then stErr l else match getV l id with | some _ => 0 | none => 4
noncomputable def getR (l : List VerL) (id : ByteArray) : RecL := if stErr l ≠ 0 then RecL.zero else match getV l id with | some v => v.r | none => RecL.zero

theorem getP_iff {l : List VerL} {id : ByteArray} {v : VerL} : getP l id v = true ↔ v.r.id = id ∧ lives l v.r.id v.r.cats = true := by
  unfold getP
  rw [Bool.and_eq_true, sEq_iff]
theorem getV_some {l : List VerL} {id : ByteArray} {v : VerL} (h : getV l id = some v) : v ∈ l ∧ v.r.id = id ∧ lives l id v.r.cats = true := by
  have h1 := List.mem_of_find?_eq_some h
  obtain ⟨h2, h3⟩ := getP_iff.1 (List.find?_some (p := getP l id) h)
  exact ⟨by simpa using h1, h2, by rw [← h2]; exact h3⟩
theorem getV_none {l : List VerL} {id : ByteArray} : getV l id = none ↔ ∀ c, lives l id c = false := by
  unfold getV
  rw [List.find?_eq_none]
  constructor
  · intro h c
    cases hl : lives l id c with
    | false => rfl
    | true =>
      obtain ⟨v, hv, h1, h2, _⟩ := lives_mem l hl
      exact absurd (getP_iff.2 ⟨h1, by rw [h1, h2]; exact hl⟩) (h v (by simpa using hv))
  · intro h v _ hp
    obtain ⟨h1, h2⟩ := getP_iff.1 hp
    rw [h1, h v.r.cats] at h2
    cases h2
theorem find_sub {α : Type} {p q : α → Bool} {v : α} : ∀ {l : List α}, (∀ x ∈ l, p x = true → q x = true) → l.find? q = some v → p v = true → l.find? p = some v
  | [], _, h, _ => by cases h
  | x :: l, hs, h, hp => by
    rw [List.find?_cons] at h ⊢
    cases hq : q x with
    | true =>
      rw [hq] at h
      cases h
      rw [hp]
    | false =>
      rw [hq] at h
      have : p x = false := by
        cases hx : p x
        · rfl
        · rw [hs x (by simp) hx] at hq; cases hq
      rw [this]
      exact find_sub (fun y hy => hs y (by simp [hy])) h hp
theorem find_same {α : Type} {p q : α → Bool} : ∀ {l : List α}, (∀ x ∈ l, p x = q x) → l.find? p = l.find? q
  | [], _ => rfl
  | x :: l, h => by
    rw [List.find?_cons, List.find?_cons, h x (by simp), find_same fun y hy => h y (by simp [hy])]
/-- from behind, one by one -/
theorem getV_step {l : List VerL} {k : Nat} {v : VerL} (id : ByteArray) (h : l[k]? = some v) : (l.take (k + 1)).reverse.find? (getP l id) = if getP l id v = true then some v else (l.take k).reverse.find? (getP l id) := by
  rw [take_snoc h, List.reverse_append]
  show List.find? _ (v :: (l.take k).reverse) = _
  rw [List.find?_cons]
  split <;> simp_all

/-! ## P26, P27 -/
def hist (l : List VerL) (id : ByteArray) : List VerL := l.filter (fun v => sEq v.r.id id)
noncomputable def histErr (l : List VerL) (id : ByteArray) : Int := if stErr l ≠ 0 then stErr l else if hist l id = [] then 4 else 0
noncomputable def histL (l : List VerL) (id : ByteArray) : List VerL := if stErr l ≠ 0 then [] else hist l id
theorem StOk.hist {l : List VerL} (h : StOk l) (id : ByteArray) : StOk (hist l id) := h.filter fun u v e _ => by rw [e]
theorem hist_length (l : List VerL) (id : ByteArray) : (hist l id).length ≤ l.length := List.length_filter_le _ _
theorem lives_hist {l : List VerL} {id : ByteArray} {c : Int} : lives (hist l id) id c = lives l id c := by
  unfold hist
  rw [lives_filter (b := true) l fun v _ hv => ?_]
  · rfl
  · rw [(VerL.on_iff.1 hv).1]; exact sEq_iff.2 rfl

/-- the names of those that live -/
structure IsIds (l : List VerL) (ids : List ByteArray) : Prop where
  asc : Asc ids
  mem : ∀ s, s ∈ ids ↔ ∃ c, lives l s c = true

theorem asc_ext : ∀ {l m : List ByteArray}, Asc l → Asc m → (∀ s, s ∈ l ↔ s ∈ m) → l = m
  | [], [], _, _, _ => rfl
  | [], b :: m, _, _, h => absurd ((h b).2 (by simp)) (by simp)
  | a :: l, [], _, _, h => absurd ((h a).1 (by simp)) (by simp)
  | a :: l, b :: m, hl, hm, h => by
    have l1 : ∀ x ∈ l, sLt a x = true := fun x hx => List.rel_of_pairwise_cons hl hx
    have m1 : ∀ x ∈ m, sLt b x = true := fun x hx => List.rel_of_pairwise_cons hm hx
    have hab : a = b := by
      rcases List.mem_cons.1 ((h a).1 (by simp)) with e | ha
      · exact e
      · rcases List.mem_cons.1 ((h b).2 (by simp)) with e | hb
        · exact e.symm
        · have := sLt_asymm (m1 a ha)
          rw [l1 b hb] at this
          cases this
    subst hab
    congr 1
    refine asc_ext (List.Pairwise.of_cons hl) (List.Pairwise.of_cons hm) fun s => ?_
    constructor
    · intro hs
      rcases List.mem_cons.1 ((h s).1 (by simp [hs])) with e | hs'
      · subst e; have := l1 s hs; rw [sLt_irrefl] at this; cases this
      · exact hs'
    · intro hs
      rcases List.mem_cons.1 ((h s).2 (by simp [hs])) with e | hs'
      · subst e; have := m1 s hs; rw [sLt_irrefl] at this; cases this
      · exact hs'
theorem IsIds.ext {l : List VerL} {a b : List ByteArray} (ha : IsIds l a) (hb : IsIds l b) : a = b := asc_ext ha.asc hb.asc fun s => (ha.mem s).trans (hb.mem s).symm
end Go.Proofs.YteimdhkajbldjaaGreat
