/- Fields set one after another: in whatever order, it is the same. -/
import Derived.Test.YtdnjboopaagleaaDoorRefSetMath
set_option maxRecDepth 100000
namespace Go.Proofs.YtdnjboopaagleaaDoor

/-- all of l, set one after another -/
def setAll (l : List FieldL) : List FieldL := l.foldl setFs []
theorem setAll_snoc (l : List FieldL) (f : FieldL) : setAll (l ++ [f]) = setFs (setAll l) f := by
  unfold setAll
  rw [List.foldl_append]
  rfl

/-- fields that may be set one after another, each of which is new -/
structure Fresh (l : List FieldL) : Prop where
  fd : ∀ f ∈ l, isFd f = true
  nd : (l.map (·.key)).Nodup
  le : l.length ≤ 6
theorem Fresh.nil : Fresh [] := ⟨fun f h => (by cases h), List.nodup_nil, Nat.zero_le _⟩
theorem Fresh.snoc {l : List FieldL} {f : FieldL} (h : Fresh l) (hf : isFd f = true) (hn : there l f.key = false) (hl : l.length < 6) : Fresh (l ++ [f]) := by
  refine ⟨fun g hg => ?_, ?_, by simp; omega⟩
  · rcases List.mem_append.1 hg with hg | hg
    · exact h.fd g hg
    · rw [List.mem_singleton.1 hg]
      exact hf
  · rw [List.map_append, List.nodup_append]
    refine ⟨h.nd, by simp, fun a ha b hb => ?_⟩
    obtain ⟨g, hg, rfl⟩ := List.mem_map.1 ha
    obtain rfl : b = f.key := by simpa using hb
    intro e
    unfold there at hn
    exact (List.any_eq_false.1 hn g hg) (sEq_iff.2 e)
theorem Fresh.take {l : List FieldL} (h : Fresh l) (k : Nat) : Fresh (l.take k) := by
  refine ⟨fun f hf => h.fd f (List.mem_of_mem_take hf), ?_, by have := h.le; simp; omega⟩
  rw [List.map_take]
  exact (List.take_sublist _ _).nodup h.nd
theorem Fresh.perm {l m : List FieldL} (h : Fresh l) (hp : l.Perm m) : Fresh m := ⟨fun f hf => h.fd f (hp.mem_iff.2 hf), ((hp.map _).nodup_iff).1 h.nd, by rw [← hp.length_eq]; exact h.le⟩

theorem there_mem {l : List FieldL} {k : ByteArray} : there l k = true ↔ ∃ g ∈ l, g.key = k := by
  unfold there
  rw [List.any_eq_true]
  constructor
  · rintro ⟨g, hg, e⟩
    exact ⟨g, hg, sEq_iff.1 e⟩
  · rintro ⟨g, hg, e⟩
    exact ⟨g, hg, sEq_iff.2 e⟩

/-- by the first elements -/
theorem snoc_ind {P : List FieldL → Prop} (h0 : P []) (hs : ∀ l f, P l → P (l ++ [f])) (l : List FieldL) : P l := by
  have : ∀ n, P (l.take n) := fun n => by
    induction n with
    | zero => exact h0
    | succ n ih =>
      rw [List.take_add_one]
      cases h : l[n]? with
      | none => simpa using ih
      | some f => exact hs _ f ih
  have h := this l.length
  rwa [List.take_length] at h

theorem setAll_asc (l : List FieldL) : Asc ((setAll l).map (·.key)) := by
  refine snoc_ind (P := fun l => Asc ((setAll l).map (·.key))) List.Pairwise.nil (fun l f h => ?_) l
  rw [setAll_snoc]
  exact setFs_asc h
theorem look_setAll (k : ByteArray) (l : List FieldL) (hn : (l.map (·.key)).Nodup) : ∀ v, look (setAll l) k = some v ↔ ∃ g ∈ l, g.key = k ∧ g.val = v := by
  refine snoc_ind (P := fun l => (l.map (·.key)).Nodup → ∀ v, look (setAll l) k = some v ↔ ∃ g ∈ l, g.key = k ∧ g.val = v) (fun _ v => ?_) (fun l f ih hn v => ?_) l hn
  · constructor
    · intro h
      cases h
    · rintro ⟨g, hg, _⟩
      cases hg
  · rw [List.map_append, List.nodup_append] at hn
    obtain ⟨h1, _, h2⟩ := hn
    rw [setAll_snoc, look_setFs k (setAll_asc l)]
    by_cases e : f.key = k
    · rw [if_pos (sEq_iff.2 e), Option.some.injEq]
      constructor
      · intro h
        exact ⟨f, by simp, e, h⟩
      · rintro ⟨g, hg, hk, hv⟩
        rcases List.mem_append.1 hg with hg | hg
        · exact absurd (hk.trans e.symm) (h2 g.key (List.mem_map_of_mem hg) f.key (by simp))
        · rw [List.mem_singleton.1 hg] at hv
          exact hv
    · rw [if_neg (by rw [sEq_iff]; exact e), ih h1]
      constructor
      · rintro ⟨g, hg, h⟩
        exact ⟨g, List.mem_append_left _ hg, h⟩
      · rintro ⟨g, hg, hk, hv⟩
        rcases List.mem_append.1 hg with hg | hg
        · exact ⟨g, hg, hk, hv⟩
        · rw [List.mem_singleton.1 hg] at hk
          exact absurd hk e
theorem there_setAll (k : ByteArray) (l : List FieldL) (hn : (l.map (·.key)).Nodup) : there (setAll l) k = there l k := by
  rw [Bool.eq_iff_iff]
  constructor
  · intro h
    cases hl : look (setAll l) k with
    | none =>
      rw [look_none] at hl
      rw [hl] at h
      cases h
    | some v =>
      obtain ⟨g, hg, hk, _⟩ := (look_setAll k l hn v).1 hl
      exact there_mem.2 ⟨g, hg, hk⟩
  · intro h
    obtain ⟨g, hg, hk⟩ := there_mem.1 h
    have := (look_setAll k l hn g.val).2 ⟨g, hg, hk, rfl⟩
    cases ht : there (setAll l) k with
    | true => rfl
    | false =>
      rw [← look_none] at ht
      rw [ht] at this
      cases this

/-- in whatever order: the same -/
theorem setAll_perm {l m : List FieldL} (h : (l.map (·.key)).Nodup) (hp : l.Perm m) : setAll l = setAll m := by
  refine look_ext (setAll_asc l) (setAll_asc m) fun k => ?_
  have hm : (m.map (·.key)).Nodup := ((hp.map _).nodup_iff).1 h
  have h1 := look_setAll k l h
  have h2 := look_setAll k m hm
  cases e1 : look (setAll l) k with
  | some v =>
    obtain ⟨g, hg, hk⟩ := (h1 v).1 e1
    exact ((h2 v).2 ⟨g, hp.mem_iff.1 hg, hk⟩).symm
  | none =>
    cases e2 : look (setAll m) k with
    | none => rfl
    | some v =>
      obtain ⟨g, hg, hk⟩ := (h2 v).1 e2
      have := (h1 v).2 ⟨g, hp.mem_iff.2 hg, hk⟩
      rw [e1] at this
      cases this
theorem setAll_length (l : List FieldL) (hn : (l.map (·.key)).Nodup) : (setAll l).length = l.length := by
  refine snoc_ind (P := fun l => (l.map (·.key)).Nodup → (setAll l).length = l.length) (fun _ => rfl) (fun l f ih hn => ?_) l hn
  have hn' := hn
  rw [List.map_append, List.nodup_append] at hn
  obtain ⟨h1, _, h2⟩ := hn
  have hf : there (setAll l) f.key = false := by
    rw [there_setAll _ _ h1]
    cases ht : there l f.key with
    | false => rfl
    | true =>
      obtain ⟨g, hg, hk⟩ := there_mem.1 ht
      exact absurd hk (h2 g.key (List.mem_map_of_mem hg) f.key (by simp))
  rw [setAll_snoc, setFs_length (setAll_asc l), hf, ih h1]
  simp

/-- the record that is made of them -/
def recOf (l : List FieldL) : RecL := ⟨⟨#[97]⟩, 0, setAll l, []⟩
theorem recOf_ok {l : List FieldL} (h : Fresh l) : (recOf l).Ok := by
  have ha := setAll_asc l
  refine ⟨show isNm ⟨#[97]⟩ = true by decide, show (0 : Int) ≤ 0 by decide, show (0 : Int) ≤ 255 by decide, ?_, Nat.zero_le _, fOk_mk ha fun g hg => ?_, fun i s hi => absurd hi (by simp [recOf])⟩
  · show (setAll l).length ≤ 6
    rw [setAll_length l h.nd]
    exact h.le
  · have hg : g ∈ setAll l := hg
    obtain ⟨k, hk⟩ := List.getElem?_of_mem hg
    obtain ⟨y, hy, h1, h2⟩ := (look_setAll g.key l h.nd g.val).1 (look_at ha hk)
    have e : y = g := by
      cases y; cases g
      simp only at h1 h2
      rw [h1, h2]
    exact e ▸ h.fd y hy
theorem recOf_set {l : List FieldL} {f : FieldL} (h : Fresh (l ++ [f])) : (recOf l).setErr f = 0 ∧ (recOf l).setRec f = recOf (l ++ [f]) := by
  have hl : Fresh l := by
    have := h.take l.length
    rwa [List.take_left] at this
  have hle := h.le
  have h0 : (recOf l).setErr f = 0 := by
    refine RecL.setErr_ok.2 ⟨recOf_ok hl, h.fd f (by simp), fun k => ?_⟩
    have e : (recOf l).fs.length = l.length := setAll_length l hl.nd
    rw [e] at k
    simp at hle
    omega
  refine ⟨h0, ?_⟩
  unfold RecL.setRec
  rw [if_pos h0]
  unfold RecL.put recOf
  rw [setAll_snoc]
theorem rotate_perm (l : List FieldL) (t : Nat) : l.Perm (l.drop t ++ l.take t) := by
  conv => lhs; rw [← List.take_append_drop t l]
  exact List.perm_append_comm
end Go.Proofs.YtdnjboopaagleaaDoor
