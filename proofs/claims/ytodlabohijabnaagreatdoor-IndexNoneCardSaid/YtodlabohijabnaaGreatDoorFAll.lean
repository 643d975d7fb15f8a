/- find's functions: slices.Contains at fields, names, By, With; small stores written out. -/
import Derived.Test.YtodlabohijabnaaGreatDoorRNe
import Derived.Test.YtodlabohijabnaaGreatDoorLNamed
import Derived.Test.YtodlabohijabnaaGreatDoorSStrs
import Derived.Test.YtodlabohijabnaaGreatDoorLRecs
import Derived.Test.YtodlabohijabnaaGreatDoorREq
import Derived.Test.YtodlabohijabnaaGreatDoorSGrid
set_option linter.unusedVariables false
set_option linter.unusedSimpArgs false
set_option maxRecDepth 100000
namespace Go.Proofs.YtodlabohijabnaaGreatDoor
open Go.RowKit Go.Sort

set_option maxHeartbeats 1000000 in
set_option maxRecDepth 100000 in
def SomeIdxF (w : World) (e : Ending) (w' : World) : Prop := ∃ n : Nat, e = .returned (.int .i64 n) ∧ Below w.heap.size w w'

end Go.Proofs.YtodlabohijabnaaGreatDoor

namespace Go.Proofs.YtodlabohijabnaaGreatDoor
open Go.RowKit Go.Sort Go.Maps

def NamesTo (ids : List ByteArray) (w : World) (e : Ending) (w' : World) : Prop := ∃ A c, e = .returned (.slice A ids.length c) ∧ OwnS w.heap.size w' (.slice A ids.length c) ids ∧ Below w.heap.size w w'
abbrev rcBox (x : RC) (w : World) : World := w.alloc (.cells #[.string x.r.id, .int .i64 x.r.cats, .slice x.p.fa x.r.fs.length x.p.fc, .slice x.p.ra x.r.rs.length x.p.rc] 44)
theorem rcBox_below (x : RC) (w : World) : Below w.heap.size w (rcBox x w) := (Below.refl _ _).alloc (Nat.le_refl _) _
theorem take_hit {α : Type} {p : α → Bool} {l : List α} {k : Nat} {x : α} (h : l[k]? = some x) (hp : p x = true) : (l.take (k + 1)).filter p = (l.take k).filter p ++ [x] := by
  rw [take_snoc h, List.filter_append, List.filter_cons_of_pos hp, List.filter_nil]
theorem take_miss {α : Type} {p : α → Bool} {l : List α} {k : Nat} {x : α} (h : l[k]? = some x) (hp : p x = false) : (l.take (k + 1)).filter p = (l.take k).filter p := by
  rw [take_snoc h, List.filter_append, List.filter_cons_of_neg (by simp [hp]), List.filter_nil, List.append_nil]
theorem cell_one_at (w : World) (s : ByteArray) (t : TypeId) : ∀ j u, [Value.string s][j]? = some u → (w.alloc (.cells #[.string s] t)).cell? ((⟨w.heap.size, 0, none⟩ : Addr).add j) = some u := fun j u hu => by
  rw [addr_at]
  match j, hu with
  | 0, hu => cases hu; simp [go_sem]
  | j + 1, hu => simp at hu

end Go.Proofs.YtodlabohijabnaaGreatDoor

namespace Go.Proofs.YtodlabohijabnaaGreatDoor
open Go.RowKit Go.Sort Go.Maps

def StrsTo (L : List ByteArray) (er : Int) (w : World) (e : Ending) (w' : World) : Prop := ∃ A k c, e = .returned (.tuple #[.slice A k c, .int .i64 er]) ∧ L.length = k ∧ OwnS w.heap.size w' (.slice A k c) L ∧ Below w.heap.size w w'

end Go.Proofs.YtodlabohijabnaaGreatDoor

namespace Go.Proofs.YtodlabohijabnaaGreatDoor
open Go.RowKit Go.Sort Go.Maps

/-- a map of names to whether they are asked for -/
structure Wants (w : World) (b n : Nat) (g : ByteArray → Bool) : Prop where
  m : ∃ D : DataW Unit, w.ownsMap Tryz.prog 9 (plainElem Tryz.prog 4) b n D ∧ ∀ s : ByteArray, D.atKey (strK s) (.lit (.bool false)) = .lit (.bool (g s))
theorem Wants.below {w w' : World} {b n : Nat} {g : ByteArray → Bool} (h : Wants w b n g) (hb : Below w.heap.size w w') : Wants w' b n g := by
  obtain ⟨D, h1, k1⟩ := h.m
  exact ⟨D, h1.kept (grown_of_below hb) (by simp), k1⟩
theorem Wants.congr {w : World} {b n : Nat} {g g' : ByteArray → Bool} (h : Wants w b n g) (e : ∀ s, g s = g' s) : Wants w b n g' := by
  have : g = g' := funext e
  rw [← this]
  exact h
theorem Wants.lt {w : World} {b n : Nat} {g : ByteArray → Bool} (h : Wants w b n g) : b < w.heap.size := by
  obtain ⟨D, h1, _⟩ := h.m
  exact h1.lt
theorem wants_made (w : World) : Wants (w.alloc (.map #[] 0)) w.heap.size 0 (fun _ => false) := ⟨⟨.map [], World.ownsMap_made w _ _ _, fun s => rfl⟩⟩
theorem Wants.not_cell {w : World} {b n k o : Nat} {g : ByteArray → Bool} {v : Value} (h : Wants w b n g) (hc : w.cell? ⟨k, o, none⟩ = some v) : k ≠ b := fun e => by
  obtain ⟨D, ⟨es, clock, hb, _⟩, _⟩ := h.m
  subst e
  simp [World.cell?, hb] at hc
theorem SlS.mapped {w w' : World} {a : Option Addr} {ids : List ByteArray} {b n : Nat} {g : ByteArray → Bool} (h : SlS w a ids) (hw : Wants w b n g) (hg : w.grownBy w' (some b)) : SlS w' a ids := fun k s hk => by
  obtain ⟨b', off, e, hc⟩ := h k s hk
  exact ⟨b', off, e, (cell_grown hg (cell_lt hc) (hw.not_cell hc)).trans hc⟩

theorem wantB_snoc (l : List RecL) (r : RecL) (ids : List ByteArray) (s : ByteArray) : wantB (l ++ [r]) ids s = (wantB l ids s || (memS ids r.id && (sEq s r.id || memS r.rs s))) := by
  unfold wantB
  rw [List.any_append]
  simp
theorem memS_snoc (l : List ByteArray) (x s : ByteArray) : memS (l ++ [x]) s = (memS l s || sEq s x) := by
  unfold memS
  rw [List.any_append]
  simp
  rw [Bool.eq_iff_iff]
  simp only [Bool.or_eq_true, sEq_iff]
  exact ⟨fun h => h.imp id Eq.symm, fun h => h.imp id Eq.symm⟩
theorem memS_nil (s : ByteArray) : memS [] s = false := rfl

end Go.Proofs.YtodlabohijabnaaGreatDoor

namespace Go.Proofs.YtodlabohijabnaaGreatDoor
open Go.RowKit Go.Sort Go.Maps

abbrev sA : ByteArray := ⟨#[97]⟩
abbrev sB : ByteArray := ⟨#[98]⟩
abbrev sC : ByteArray := ⟨#[99]⟩
abbrev sK : ByteArray := ⟨#[107]⟩
abbrev sV : ByteArray := ⟨#[118]⟩
theorem nameA : isNm sA = true := by kernel_rfl
theorem nameB : isNm sB = true := by kernel_rfl
theorem nameC : isNm sC = true := by kernel_rfl
theorem nameK : isNm sK = true := by kernel_rfl
theorem valV : isVl sV = true := by kernel_rfl
theorem lAB : sLt sA sB = true := by kernel_rfl
theorem lBC : sLt sB sC = true := by kernel_rfl
theorem lAC : sLt sA sC = true := by kernel_rfl
theorem fdKV : isFd ⟨sK, sV⟩ = true := by unfold isFd; rw [nameK, valV]; rfl

theorem getV_other {l : List VerL} {r : RecL} {id : ByteArray} (h : id ≠ r.id) : getV (l ++ [⟨r, false⟩]) id = getV l id := by
  unfold getV
  rw [List.reverse_append]
  show List.find? _ (⟨r, false⟩ :: l.reverse) = _
  have h1 : getP (l ++ [⟨r, false⟩]) id ⟨r, false⟩ = false := by
    unfold getP
    rw [show sEq r.id id = false from sEq_false.2 fun e => h e.symm]
    rfl
  rw [List.find?_cons, h1]
  refine find_same fun x _ => ?_
  unfold getP
  cases hx : sEq x.r.id id with
  | false => rfl
  | true =>
    have e := sEq_iff.1 hx
    rw [lives_snoc_off (by
      unfold VerL.on
      rw [show sEq r.id x.r.id = false from sEq_false.2 fun k => h (by rw [k]; exact e.symm)]
      rfl)]
theorem st_one {r : RecL} (h : r.Ok) : stErr [⟨r, false⟩] = 0 := stErr_ok.2 ⟨by simp, (StOk.put stOk_nil h (by simp [same_nil]) : StOk ([] ++ [⟨r, false⟩]))⟩
theorem getV_one {r : RecL} {s : ByteArray} {v : VerL} : getV [⟨r, false⟩] s = some v ↔ s = r.id ∧ v = ⟨r, false⟩ := by
  have e : ([⟨r, false⟩] : List VerL) = [] ++ [⟨r, false⟩] := rfl
  rw [e]
  by_cases h : s = r.id
  · subst h
    rw [getV_put]
    exact ⟨fun k => ⟨rfl, (Option.some.inj k).symm⟩, fun k => by rw [k.2]⟩
  · rw [getV_other h]
    exact ⟨fun k => by simp [getV] at k, fun k => absurd k.1 h⟩
theorem by_one {r : RecL} {f : FieldL} (h : f ∈ r.fs) : byL [⟨r, false⟩] f = [r.id] :=
  asc_ext (byL_asc' _ _) (List.pairwise_singleton _ _) fun s => by
    rw [mem_byL, List.mem_singleton]
    constructor
    · rintro ⟨v, hv, _⟩
      exact (getV_one.1 hv).1
    · intro e
      exact ⟨⟨r, false⟩, getV_one.2 ⟨e, rfl⟩, h⟩
theorem with_one {r : RecL} (h : ∀ s ∈ r.rs, s ≠ r.id) : withL [⟨r, false⟩] [r.id] = [r.id] :=
  asc_ext (picked_asc _ _) (List.pairwise_singleton _ _) fun s => by
    show s ∈ withL _ _ ↔ _
    rw [mem_withL, List.mem_singleton]
    constructor
    · rintro ⟨⟨v, hv⟩, _⟩
      exact (getV_one.1 hv).1
    · intro e
      exact ⟨⟨⟨r, false⟩, getV_one.2 ⟨e, rfl⟩⟩, .inl (by simp [e])⟩

/-! ## in memory -/
theorem sl_one (w : World) (t : TypeId) (ids : List ByteArray) : SlS (w.alloc (.cells (ids.map Value.string).toArray t)) (some ⟨w.heap.size, 0, none⟩) ids := fun k s hk => by
  refine ⟨w.heap.size, 0, rfl, ?_⟩
  obtain ⟨hlt, he⟩ := List.getElem?_eq_some_iff.1 hk
  simp [go_sem, hlt, he]
theorem slf_one (w : World) (f : FieldL) : SlF (w.alloc (.cells #[.string f.key, .string f.val] 33)) (some ⟨w.heap.size, 0, none⟩) [f] := fun k g hk => by
  match k, hk with
  | 0, hk =>
    simp only [List.getElem?_cons_zero, Option.some.injEq] at hk
    subst hk
    exact ⟨w.heap.size, 0, rfl, by simp [go_sem], by simp [go_sem]⟩
  | k + 1, hk => simp at hk
theorem vs_one (w : World) (x : PV) (h : x.in_ w) : VsAt (x.box w) (some ⟨w.heap.size, 0, none⟩) 1 [x.v] := by
  refine ⟨[x], rfl, rfl, fun k y hk => ?_⟩
  match k, hk with
  | 0, hk =>
    simp only [List.getElem?_cons_zero, Option.some.injEq] at hk
    subst hk
    exact ⟨h.below (x.box_below w), w.heap.size, 0, rfl, by simp [go_sem], by simp [go_sem], by simp [go_sem], by simp [go_sem], by simp [go_sem]⟩
  | k + 1, hk => simp at hk
theorem vs_two (w : World) (x y : PV) (h : x.in_ w) (hy : y.in_ w) : VsAt (w.alloc (.cells #[.string x.v.r.id, .int .i64 x.v.r.cats, .slice x.p.fa x.v.r.fs.length x.p.fc, .slice x.p.ra x.v.r.rs.length x.p.rc, .bool x.v.gone,
    .string y.v.r.id, .int .i64 y.v.r.cats, .slice y.p.fa y.v.r.fs.length y.p.fc, .slice y.p.ra y.v.r.rs.length y.p.rc, .bool y.v.gone] 60)) (some ⟨w.heap.size, 0, none⟩) 2 [x.v, y.v] := by
  have hb := (Below.refl w.heap.size w).alloc (Nat.le_refl _) (.cells #[.string x.v.r.id, .int .i64 x.v.r.cats, .slice x.p.fa x.v.r.fs.length x.p.fc, .slice x.p.ra x.v.r.rs.length x.p.rc, .bool x.v.gone,
    .string y.v.r.id, .int .i64 y.v.r.cats, .slice y.p.fa y.v.r.fs.length y.p.fc, .slice y.p.ra y.v.r.rs.length y.p.rc, .bool y.v.gone] 60)
  refine ⟨[x, y], rfl, rfl, fun k z hk => ?_⟩
  match k, hk with
  | 0, hk =>
    simp only [List.getElem?_cons_zero, Option.some.injEq] at hk
    subst hk
    exact ⟨h.below hb, w.heap.size, 0, rfl, by simp [go_sem], by simp [go_sem], by simp [go_sem], by simp [go_sem], by simp [go_sem]⟩
  | 1, hk =>
    simp only [List.getElem?_cons_succ, List.getElem?_cons_zero, Option.some.injEq] at hk
    subst hk
    exact ⟨hy.below hb, w.heap.size, 0, rfl, by simp [go_sem], by simp [go_sem], by simp [go_sem], by simp [go_sem], by simp [go_sem]⟩
  | k + 2, hk => simp at hk
theorem OwnS.at_ {B : Nat} {w : World} {A : Option Addr} {k c : Nat} {L : List ByteArray} (h : OwnS B w (.slice A k c) L) (hl : L.length = k) : SlS w A L ∧ k ≤ c ∧ c ≤ maxLen := by
  subst hl
  exact OwnS.sl h
end Go.Proofs.YtodlabohijabnaaGreatDoor
