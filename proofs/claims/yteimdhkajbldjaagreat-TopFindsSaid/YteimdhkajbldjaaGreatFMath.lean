/- The names of those that live, and their records; who is found by a field, and with others: without the program. -/
import Derived.Test.YteimdhkajbldjaaGreatSIdsMath
set_option linter.unusedVariables false
set_option linter.unusedSimpArgs false
set_option maxRecDepth 100000
namespace Go.Proofs.YteimdhkajbldjaaGreat

theorem compact_short (zs : List (List UInt8)) : (Lib.compact zs).length ≤ zs.length := by
  unfold Lib.compact Lib.compactUpTo
  rw [List.length_map]
  exact Nat.le_trans (List.length_filter_le _ _) (by simp)
theorem bdata_inj {a b : ByteArray} (h : a.data.toList = b.data.toList) : a = b := by
  obtain ⟨⟨x⟩⟩ := a
  obtain ⟨⟨y⟩⟩ := b
  simp only at h
  rw [h]

theorem ids_ex (l : List VerL) : ∃ ids, IsIds l ids ∧ ids.length ≤ l.length := by
  refine ⟨namesOf ((l.filter (fun v => lives l v.r.id v.r.cats)).map (fun v => v.r.id.data.toList)), namesOf_ids fun s => ?_, ?_⟩
  · rw [List.mem_map]
    constructor
    · rintro ⟨v, hv, e⟩
      have hl := (List.mem_filter.1 hv).2
      have e := bdata_inj e
      subst e
      exact ⟨_, hl⟩
    · rintro ⟨c, hc⟩
      obtain ⟨v, hv, rfl, rfl, _⟩ := lives_mem l hc
      exact ⟨v, List.mem_filter.2 ⟨hv, hc⟩, rfl⟩
  · unfold namesOf
    rw [List.length_map]
    refine Nat.le_trans (compact_short _) ?_
    rw [List.length_mergeSort, List.length_map]
    exact List.length_filter_le _ _

/-- the names of those that live -/
noncomputable def idsV (l : List VerL) : List ByteArray := Classical.choose (ids_ex l)
theorem idsV_is (l : List VerL) : IsIds l (idsV l) := (Classical.choose_spec (ids_ex l)).1
theorem idsV_len (l : List VerL) : (idsV l).length ≤ l.length := (Classical.choose_spec (ids_ex l)).2
theorem IsIds.eqV {l : List VerL} {ids : List ByteArray} (h : IsIds l ids) : ids = idsV l := h.ext (idsV_is l)
theorem mem_idsV {l : List VerL} {id : ByteArray} : id ∈ idsV l ↔ ∃ v, getV l id = some v := (getV_isSome (idsV_is l) id).trans Option.isSome_iff_exists
theorem idsV_nil : idsV [] = [] := by
  have := idsV_len []
  exact List.eq_nil_of_length_eq_zero (Nat.le_zero.1 this)

/-- the record of a name -/
def recV (l : List VerL) (id : ByteArray) : RecL := match getV l id with | some v => v.r | none => RecL.zero
theorem recV_some {l : List VerL} {id : ByteArray} {v : VerL} (h : getV l id = some v) : recV l id = v.r := by unfold recV; rw [h]
theorem recV_id {l : List VerL} {id : ByteArray} (h : id ∈ idsV l) : (recV l id).id = id := by
  obtain ⟨v, hv⟩ := mem_idsV.1 h
  rw [recV_some hv]
  exact (getV_some hv).2.1
theorem recV_ok {l : List VerL} {id : ByteArray} (hs : StOk l) (h : id ∈ idsV l) : (recV l id).Ok := by
  obtain ⟨v, hv⟩ := mem_idsV.1 h
  rw [recV_some hv]
  exact hs.ver v (getV_some hv).1
theorem recV_get {l : List VerL} {id : ByteArray} (hs : stErr l = 0) (h : id ∈ idsV l) : getErr l id = 0 ∧ getR l id = recV l id := by
  obtain ⟨v, hv⟩ := mem_idsV.1 h
  rw [recV_some hv]
  exact get_some hs hv
theorem recV_hist (l : List VerL) (id : ByteArray) : recV (hist l id) id = recV l id := by
  unfold recV
  rw [getV_hist]

/-- the records of all names, in order -/
noncomputable def recs (l : List VerL) : List RecL := (idsV l).map (recV l)
theorem recs_len (l : List VerL) : (recs l).length = (idsV l).length := by unfold recs; rw [List.length_map]
theorem recs_ids (l : List VerL) : (recs l).map (·.id) = idsV l := by
  unfold recs
  rw [List.map_map]
  conv => rhs; rw [← List.map_id (idsV l)]
  exact List.map_congr_left fun id hid => recV_id hid
theorem mem_recs {l : List VerL} {r : RecL} : r ∈ recs l ↔ ∃ v, getV l r.id = some v ∧ v.r = r := by
  unfold recs
  rw [List.mem_map]
  constructor
  · rintro ⟨id, hid, rfl⟩
    obtain ⟨v, hv⟩ := mem_idsV.1 hid
    rw [recV_id hid]
    exact ⟨v, hv, (recV_some hv).symm⟩
  · rintro ⟨v, hv, e⟩
    exact ⟨r.id, mem_idsV.2 ⟨v, hv⟩, by rw [recV_some hv, e]⟩
theorem recs_ok {l : List VerL} (hs : StOk l) : ∀ r ∈ recs l, r.Ok := fun r hr => by
  obtain ⟨id, hid, rfl⟩ := List.mem_map.1 hr
  exact recV_ok hs hid

/-- the names of the records that are chosen -/
noncomputable def picked (l : List VerL) (p : RecL → Bool) : List ByteArray := ((recs l).filter p).map (·.id)
theorem picked_sub (l : List VerL) (p : RecL → Bool) : List.Sublist (picked l p) (idsV l) := by
  rw [← recs_ids]
  exact List.filter_sublist.map _
theorem picked_asc (l : List VerL) (p : RecL → Bool) : Asc (picked l p) := (idsV_is l).asc.sublist (picked_sub l p)
theorem mem_picked {l : List VerL} {p : RecL → Bool} {s : ByteArray} : s ∈ picked l p ↔ ∃ v, getV l s = some v ∧ p v.r = true := by
  unfold picked
  rw [List.mem_map]
  constructor
  · rintro ⟨r, hr, rfl⟩
    obtain ⟨h1, h2⟩ := List.mem_filter.1 hr
    obtain ⟨v, hv, e⟩ := mem_recs.1 h1
    exact ⟨v, hv, by rw [e]; exact h2⟩
  · rintro ⟨v, hv, hp⟩
    have e := (getV_some hv).2.1
    exact ⟨v.r, List.mem_filter.2 ⟨mem_recs.2 ⟨v, by rw [e]; exact hv, rfl⟩, hp⟩, e⟩
theorem picked_of {l : List VerL} {p : RecL → Bool} {ids : List ByteArray} (ha : Asc ids) (hm : ∀ s, s ∈ ids ↔ ∃ v, getV l s = some v ∧ p v.r = true) : ids = picked l p :=
  asc_ext ha (picked_asc l p) fun s => (hm s).trans mem_picked.symm
theorem picked_len (l : List VerL) (p : RecL → Bool) : (picked l p).length ≤ l.length := Nat.le_trans (picked_sub l p).length_le (idsV_len l)

/-! ## P28: By -/
def hasF (f : FieldL) (r : RecL) : Bool := decide (f ∈ r.fs)
theorem hasF_iff {f : FieldL} {r : RecL} : hasF f r = true ↔ f ∈ r.fs := by unfold hasF; rw [decide_eq_true_eq]
noncomputable def byErr (l : List VerL) (f : FieldL) : Int := if stErr l ≠ 0 then stErr l else if isFd f = true then 0 else 3
noncomputable def byL (l : List VerL) (f : FieldL) : List ByteArray := picked l (hasF f)
noncomputable def byR (l : List VerL) (f : FieldL) : List ByteArray := if byErr l f = 0 then byL l f else []
theorem mem_byL {l : List VerL} {f : FieldL} {s : ByteArray} : s ∈ byL l f ↔ ∃ v, getV l s = some v ∧ f ∈ v.r.fs := by
  unfold byL
  rw [mem_picked]
  simp only [hasF_iff]

theorem byL_asc' (l : List VerL) (f : FieldL) : Asc (byL l f) := picked_asc _ _

/-! ## P29: With -/
/-- is it among these? -/
def memS (l : List ByteArray) (s : ByteArray) : Bool := l.any fun x => sEq x s
theorem memS_iff {l : List ByteArray} {s : ByteArray} : memS l s = true ↔ s ∈ l := by
  unfold memS
  rw [List.any_eq_true]
  constructor
  · rintro ⟨x, hx, e⟩
    rw [← sEq_iff.1 e]
    exact hx
  · exact fun h => ⟨s, h, sEq_iff.2 rfl⟩
/-- by these records, and these names: is a name asked for? -/
def wantB (rs : List RecL) (ids : List ByteArray) (s : ByteArray) : Bool := rs.any fun r => memS ids r.id && (sEq s r.id || memS r.rs s)
theorem wantB_iff {rs : List RecL} {ids : List ByteArray} {s : ByteArray} : wantB rs ids s = true ↔ ∃ r ∈ rs, r.id ∈ ids ∧ (s = r.id ∨ s ∈ r.rs) := by
  unfold wantB
  rw [List.any_eq_true]
  simp only [Bool.and_eq_true, Bool.or_eq_true, memS_iff, sEq_iff]
noncomputable def withErr (l : List VerL) (ids : List ByteArray) : Int := if stErr l ≠ 0 then stErr l else if 60 < ids.length then 2 else 0
noncomputable def withL (l : List VerL) (ids : List ByteArray) : List ByteArray := picked l (fun r => wantB (recs l) ids r.id)
noncomputable def withR (l : List VerL) (ids : List ByteArray) : List ByteArray := if withErr l ids = 0 then withL l ids else []
theorem mem_withL {l : List VerL} {ids : List ByteArray} {s : ByteArray} : s ∈ withL l ids ↔ (∃ v, getV l s = some v) ∧ (s ∈ ids ∨ ∃ k v, k ∈ ids ∧ getV l k = some v ∧ s ∈ v.r.rs) := by
  unfold withL
  rw [mem_picked]
  constructor
  · rintro ⟨v, hv, hw⟩
    have e := (getV_some hv).2.1
    rw [e] at hw
    refine ⟨⟨v, hv⟩, ?_⟩
    obtain ⟨r, hr, hi, h⟩ := wantB_iff.1 hw
    rcases h with h | h
    · exact .inl (by rw [h]; exact hi)
    · obtain ⟨u, hu, eu⟩ := mem_recs.1 hr
      exact .inr ⟨r.id, u, hi, hu, by rw [eu]; exact h⟩
  · rintro ⟨⟨v, hv⟩, h⟩
    refine ⟨v, hv, ?_⟩
    have e := (getV_some hv).2.1
    rw [e]
    rcases h with h | ⟨k, u, hk, hu, hs⟩
    · exact wantB_iff.2 ⟨v.r, mem_recs.2 ⟨v, by rw [e]; exact hv, rfl⟩, by rw [e]; exact h, .inl e.symm⟩
    · have eu := (getV_some hu).2.1
      exact wantB_iff.2 ⟨u.r, mem_recs.2 ⟨u, by rw [eu]; exact hu, rfl⟩, by rw [eu]; exact hk, .inr hs⟩
theorem withL_in {l : List VerL} {ids : List ByteArray} {s : ByteArray} (h : s ∈ withL l ids) : s ∈ idsV l := (picked_sub l _).subset h
theorem byL_in {l : List VerL} {f : FieldL} {s : ByteArray} (h : s ∈ byL l f) : s ∈ idsV l := (picked_sub l _).subset h
theorem withL_own {l : List VerL} {ids : List ByteArray} {s : ByteArray} (h1 : s ∈ ids) (h2 : s ∈ idsV l) : s ∈ withL l ids := mem_withL.2 ⟨mem_idsV.1 h2, .inl h1⟩
theorem withL_both {l : List VerL} {a b : List ByteArray} (s : ByteArray) : s ∈ withL l (a ++ b) ↔ s ∈ withL l a ∨ s ∈ withL l b := by
  rw [mem_withL, mem_withL, mem_withL, List.mem_append]
  constructor
  · rintro ⟨h, (h1 | h1) | ⟨k, v, hk, hv, hs⟩⟩
    · exact .inl ⟨h, .inl h1⟩
    · exact .inr ⟨h, .inl h1⟩
    · rcases List.mem_append.1 hk with hk | hk
      · exact .inl ⟨h, .inr ⟨k, v, hk, hv, hs⟩⟩
      · exact .inr ⟨h, .inr ⟨k, v, hk, hv, hs⟩⟩
  · rintro (⟨h, h1 | ⟨k, v, hk, hv, hs⟩⟩ | ⟨h, h1 | ⟨k, v, hk, hv, hs⟩⟩)
    · exact ⟨h, .inl (.inl h1)⟩
    · exact ⟨h, .inr ⟨k, v, List.mem_append.2 (.inl hk), hv, hs⟩⟩
    · exact ⟨h, .inl (.inr h1)⟩
    · exact ⟨h, .inr ⟨k, v, List.mem_append.2 (.inr hk), hv, hs⟩⟩
end Go.Proofs.YteimdhkajbldjaaGreat
