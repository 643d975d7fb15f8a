/- Small stores written out, in memory and without the program: what the laws of find begin with. -/
import Derived.Test.YtodlabohijabnaaDoorFWith
import Derived.Test.YtodlabohijabnaaDoorREq
import Derived.Test.YtodlabohijabnaaDoorSGrid
set_option linter.unusedVariables false
set_option linter.unusedSimpArgs false
set_option maxRecDepth 100000
namespace Go.Proofs.YtodlabohijabnaaDoor
open Go.RowKit Go.Sort Go.Maps

abbrev sA : ByteArray := ⟨#[97]⟩
abbrev sB : ByteArray := ⟨#[98]⟩
abbrev sC : ByteArray := ⟨#[99]⟩
abbrev sK : ByteArray := ⟨#[107]⟩
abbrev sV : ByteArray := ⟨#[118]⟩
theorem nameA : isNm sA = true := by kernel_rfl
theorem nameB : isNm sB = true := by kernel_rfl
theorem nameC : isNm sC = true := by kernel_rfl
theorem nameK : isNm sK = true := by kernel_rfl
theorem valV : isVl sV = true := by kernel_rfl
theorem lAB : sLt sA sB = true := by kernel_rfl
theorem lBC : sLt sB sC = true := by kernel_rfl
theorem lAC : sLt sA sC = true := by kernel_rfl
theorem fdKV : isFd ⟨sK, sV⟩ = true := by unfold isFd; rw [nameK, valV]; rfl

theorem getV_other {l : List VerL} {r : RecL} {id : ByteArray} (h : id ≠ r.id) : getV (l ++ [⟨r, false⟩]) id = getV l id := by
  unfold getV
  rw [List.reverse_append]
  show List.find? _ (⟨r, false⟩ :: l.reverse) = _
  have h1 : getP (l ++ [⟨r, false⟩]) id ⟨r, false⟩ = false := by
    unfold getP
    rw [show sEq r.id id = false from sEq_false.2 fun e => h e.symm]
    rfl
  rw [List.find?_cons, h1]
  refine find_same fun x _ => ?_
  unfold getP
  cases hx : sEq x.r.id id with
  | false => rfl
  | true =>
    have e := sEq_iff.1 hx
    rw [lives_snoc_off (by
      unfold VerL.on
      rw [show sEq r.id x.r.id = false from sEq_false.2 fun k => h (by rw [k]; exact e.symm)]
      rfl)]
theorem st_one {r : RecL} (h : r.Ok) : stErr [⟨r, false⟩] = 0 := stErr_ok.2 ⟨by simp, (StOk.put stOk_nil h (by simp [same_nil]) : StOk ([] ++ [⟨r, false⟩]))⟩
theorem getV_one {r : RecL} {s : ByteArray} {v : VerL} : getV [⟨r, false⟩] s = some v ↔ s = r.id ∧ v = ⟨r, false⟩ := by
  have e : ([⟨r, false⟩] : List VerL) = [] ++ [⟨r, false⟩] := rfl
  rw [e]
  by_cases h : s = r.id
  · subst h
    rw [getV_put]
    exact ⟨fun k => ⟨rfl, (Option.some.inj k).symm⟩, fun k => by rw [k.2]⟩
  · rw [getV_other h]
    exact ⟨fun k => by simp [getV] at k, fun k => absurd k.1 h⟩
theorem by_one {r : RecL} {f : FieldL} (h : f ∈ r.fs) : byL [⟨r, false⟩] f = [r.id] :=
  asc_ext (byL_asc' _ _) (List.pairwise_singleton _ _) fun s => by
    rw [mem_byL, List.mem_singleton]
    constructor
    · rintro ⟨v, hv, _⟩
      exact (getV_one.1 hv).1
    · intro e
      exact ⟨⟨r, false⟩, getV_one.2 ⟨e, rfl⟩, h⟩
theorem with_one {r : RecL} (h : ∀ s ∈ r.rs, s ≠ r.id) : withL [⟨r, false⟩] [r.id] = [r.id] :=
  asc_ext (picked_asc _ _) (List.pairwise_singleton _ _) fun s => by
    show s ∈ withL _ _ ↔ _
    rw [mem_withL, List.mem_singleton]
    constructor
    · rintro ⟨⟨v, hv⟩, _⟩
      exact (getV_one.1 hv).1
    · intro e
      exact ⟨⟨⟨r, false⟩, getV_one.2 ⟨e, rfl⟩⟩, .inl (by simp [e])⟩

/-! ## in memory -/
theorem sl_one (w : World) (t : TypeId) (ids : List ByteArray) : SlS (w.alloc (.cells (ids.map Value.string).toArray t)) (some ⟨w.heap.size, 0, none⟩) ids := fun k s hk => by
  refine ⟨w.heap.size, 0, rfl, ?_⟩
  obtain ⟨hlt, he⟩ := List.getElem?_eq_some_iff.1 hk
  simp [go_sem, hlt, he]
theorem slf_one (w : World) (f : FieldL) : SlF (w.alloc (.cells #[.string f.key, .string f.val] 24)) (some ⟨w.heap.size, 0, none⟩) [f] := fun k g hk => by
  match k, hk with
  | 0, hk =>
    simp only [List.getElem?_cons_zero, Option.some.injEq] at hk
    subst hk
    exact ⟨w.heap.size, 0, rfl, by simp [go_sem], by simp [go_sem]⟩
  | k + 1, hk => simp at hk
theorem vs_one (w : World) (x : PV) (h : x.in_ w) : VsAt (x.box w) (some ⟨w.heap.size, 0, none⟩) 1 [x.v] := by
  refine ⟨[x], rfl, rfl, fun k y hk => ?_⟩
  match k, hk with
  | 0, hk =>
    simp only [List.getElem?_cons_zero, Option.some.injEq] at hk
    subst hk
    exact ⟨h.below (x.box_below w), w.heap.size, 0, rfl, by simp [go_sem], by simp [go_sem], by simp [go_sem], by simp [go_sem], by simp [go_sem]⟩
  | k + 1, hk => simp at hk
theorem vs_two (w : World) (x y : PV) (h : x.in_ w) (hy : y.in_ w) : VsAt (w.alloc (.cells #[.string x.v.r.id, .int .i64 x.v.r.cats, .slice x.p.fa x.v.r.fs.length x.p.fc, .slice x.p.ra x.v.r.rs.length x.p.rc, .bool x.v.gone,
    .string y.v.r.id, .int .i64 y.v.r.cats, .slice y.p.fa y.v.r.fs.length y.p.fc, .slice y.p.ra y.v.r.rs.length y.p.rc, .bool y.v.gone] 34)) (some ⟨w.heap.size, 0, none⟩) 2 [x.v, y.v] := by
  have hb := (Below.refl w.heap.size w).alloc (Nat.le_refl _) (.cells #[.string x.v.r.id, .int .i64 x.v.r.cats, .slice x.p.fa x.v.r.fs.length x.p.fc, .slice x.p.ra x.v.r.rs.length x.p.rc, .bool x.v.gone,
    .string y.v.r.id, .int .i64 y.v.r.cats, .slice y.p.fa y.v.r.fs.length y.p.fc, .slice y.p.ra y.v.r.rs.length y.p.rc, .bool y.v.gone] 34)
  refine ⟨[x, y], rfl, rfl, fun k z hk => ?_⟩
  match k, hk with
  | 0, hk =>
    simp only [List.getElem?_cons_zero, Option.some.injEq] at hk
    subst hk
    exact ⟨h.below hb, w.heap.size, 0, rfl, by simp [go_sem], by simp [go_sem], by simp [go_sem], by simp [go_sem], by simp [go_sem]⟩
  | 1, hk =>
    simp only [List.getElem?_cons_succ, List.getElem?_cons_zero, Option.some.injEq] at hk
    subst hk
    exact ⟨hy.below hb, w.heap.size, 0, rfl, by simp [go_sem], by simp [go_sem], by simp [go_sem], by simp [go_sem], by simp [go_sem]⟩
  | k + 2, hk => simp at hk
theorem OwnS.at_ {B : Nat} {w : World} {A : Option Addr} {k c : Nat} {L : List ByteArray} (h : OwnS B w (.slice A k c) L) (hl : L.length = k) : SlS w A L ∧ k ≤ c ∧ c ≤ maxLen := by
  subst hl
  exact OwnS.sl h
end Go.Proofs.YtodlabohijabnaaDoor
