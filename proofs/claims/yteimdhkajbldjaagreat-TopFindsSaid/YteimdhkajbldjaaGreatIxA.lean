/- An index, as it answers and as it lies in memory: the lists in order, its map, By, Count, Keys, maps.EqualFunc, maps.DeleteFunc. -/
import Derived.Test.YteimdhkajbldjaaGreatFMath
import Derived.Test.YteimdhkajbldjaaGreatNMath
import Derived.Test.YteimdhkajbldjaaGreatRClone
import Derived.Deep.LoopGhost
import Derived.Maps.AppendAt
import Derived.Test.YteimdhkajbldjaaGreatROwn
import Derived.Lib.AppendZerosOnto
import Derived.Lib.Overlaps
import Derived.Laws.Externs
import Derived.Laws.NewBlocks
import Derived.Test.YteimdhkajbldjaaGreatFSort
import Derived.Test.YteimdhkajbldjaaGreatShelf3
import Derived.Shelf.Slices.Delete
import Derived.Test.YteimdhkajbldjaaGreatProg
import Derived.Maps.RangeWalk
import Derived.ChangeMaps3
import Derived.Test.YteimdhkajbldjaaGreatLNamed
import Derived.DeepKeys5
import Derived.ChangeKeysEq
import Derived.Test.YteimdhkajbldjaaGreatFAll
import Derived.Deep.QuietTactic
import Derived.BigQuiet
import Derived.Laws.IdiomRangeMap
import Derived.Maps.Ext
import Derived.Test.YteimdhkajbldjaaGreatREq
import Derived.Maps.OwnSet
set_option linter.unusedVariables false
set_option linter.unusedSimpArgs false
set_option maxRecDepth 100000
namespace Go.Proofs.YteimdhkajbldjaaGreat

/-- what is said: of each field the names -/
abbrev SaysX : Type := FieldL → List ByteArray
/-- just these fields have a name -/
structure Lists (X : SaysX) (fs : List FieldL) : Prop where
  nodup : fs.Nodup
  mem : ∀ f, f ∈ fs ↔ X f ≠ []
theorem perm_of_mem : ∀ {l m : List FieldL}, l.Nodup → m.Nodup → (∀ f, f ∈ l ↔ f ∈ m) → l.Perm m
  | [], m, _, _, h => by
    have : m = [] := List.eq_nil_iff_forall_not_mem.2 fun f hf => by have := (h f).2 hf; simp at this
    rw [this]
  | a :: l, m, hl, hm, h => by
    have ha : a ∈ m := (h a).1 (by simp)
    obtain ⟨h1, h2⟩ := List.nodup_cons.1 hl
    have hp := List.perm_cons_erase ha
    refine (List.Perm.cons a (perm_of_mem h2 (hm.erase a) fun f => ?_)).trans hp.symm
    rw [hm.mem_erase_iff]
    constructor
    · intro hf
      exact ⟨fun e => h1 (e ▸ hf), (h f).1 (by simp [hf])⟩
    · rintro ⟨hne, hf⟩
      rcases List.mem_cons.1 ((h f).2 hf) with e | e
      · exact absurd e hne
      · exact e
theorem Lists.perm {X : SaysX} {fs gs : List FieldL} (h : Lists X fs) (k : Lists X gs) : fs.Perm gs := perm_of_mem h.nodup k.nodup fun f => (h.mem f).trans (k.mem f).symm
/-- how many pairs of these fields and a name there are -/
def countOf (X : SaysX) (fs : List FieldL) : Nat := (fs.map fun f => (X f).length).sum
theorem countOf_perm {X : SaysX} {fs gs : List FieldL} (h : fs.Perm gs) : countOf X fs = countOf X gs := (h.map _).sum_nat
theorem Lists.count {X : SaysX} {fs gs : List FieldL} (h : Lists X fs) (k : Lists X gs) : countOf X fs = countOf X gs := countOf_perm (h.perm k)
theorem countOf_nil (X : SaysX) : countOf X [] = 0 := rfl
theorem countOf_snoc (X : SaysX) (fs : List FieldL) (f : FieldL) : countOf X (fs ++ [f]) = countOf X fs + (X f).length := by
  unfold countOf
  rw [List.map_append, List.sum_append]
  simp
open Classical in
noncomputable def total (X : SaysX) : Nat := if h : ∃ fs, Lists X fs then countOf X (Classical.choose h) else 0
theorem Lists.total {X : SaysX} {fs : List FieldL} (h : Lists X fs) : total X = countOf X fs := by
  have hx : ∃ fs, Lists X fs := ⟨fs, h⟩
  unfold Go.Proofs.YteimdhkajbldjaaGreat.total
  rw [dif_pos hx]
  exact (Classical.choose_spec hx).count h
/-- the keys of all fields that a name has -/
structure IsKeys (X : SaysX) (ks : List ByteArray) : Prop where
  asc : Asc ks
  mem : ∀ s, s ∈ ks ↔ ∃ f, X f ≠ [] ∧ f.key = s
theorem IsKeys.ext {X : SaysX} {a b : List ByteArray} (ha : IsKeys X a) (hb : IsKeys X b) : a = b := asc_ext ha.asc hb.asc fun s => (ha.mem s).trans (hb.mem s).symm

/-- sets of strings as sorted lists: what was collected -/
theorem namesOf_mem (ss : List (List UInt8)) (s : ByteArray) : s ∈ namesOf ss ↔ s.data.toList ∈ ss := by
  have tr : ∀ a b c : List UInt8, decide (a ≤ b) = true → decide (b ≤ c) = true → decide (a ≤ c) = true := fun a b c h1 h2 => by simp only [decide_eq_true_eq] at *; exact List.le_trans h1 h2
  have ttl : ∀ a b : List UInt8, (decide (a ≤ b) || decide (b ≤ a)) = true := fun a b => by simp only [Bool.or_eq_true, decide_eq_true_eq]; exact List.le_total a b
  have hs : (ss.mergeSort fun x y => decide (x ≤ y)).Pairwise (fun a b => a ≤ b) := (List.pairwise_mergeSort tr ttl ss).imp fun h => by simpa using h
  obtain ⟨h1, h2⟩ := compact_upTo hs _ (Nat.le_refl _)
  have hm : ∀ x, x ∈ Lib.compact (ss.mergeSort fun x y => decide (x ≤ y)) ↔ x ∈ ss := fun x => by
    refine (h2 x).trans ⟨?_, fun hx => ?_⟩
    · rintro ⟨j, hj, _, rfl⟩
      exact List.mem_mergeSort.1 (List.getElem_mem hj)
    · obtain ⟨j, hj, e⟩ := List.getElem_of_mem (List.mem_mergeSort.2 hx)
      exact ⟨j, hj, hj, e⟩
  unfold namesOf
  rw [List.mem_map]
  constructor
  · rintro ⟨x, hx, rfl⟩
    have := (hm x).1 hx
    simpa using this
  · intro hx
    exact ⟨_, (hm _).2 hx, by simp⟩
theorem namesOf_asc (ss : List (List UInt8)) : Asc (namesOf ss) := by
  have tr : ∀ a b c : List UInt8, decide (a ≤ b) = true → decide (b ≤ c) = true → decide (a ≤ c) = true := fun a b c h1 h2 => by simp only [decide_eq_true_eq] at *; exact List.le_trans h1 h2
  have ttl : ∀ a b : List UInt8, (decide (a ≤ b) || decide (b ≤ a)) = true := fun a b => by simp only [Bool.or_eq_true, decide_eq_true_eq]; exact List.le_total a b
  have hs : (ss.mergeSort fun x y => decide (x ≤ y)).Pairwise (fun a b => a ≤ b) := (List.pairwise_mergeSort tr ttl ss).imp fun h => by simpa using h
  obtain ⟨h1, h2⟩ := compact_upTo hs _ (Nat.le_refl _)
  unfold namesOf Asc
  refine List.pairwise_map.2 (List.Pairwise.imp ?_ h1)
  rintro a b ⟨hab, hne⟩
  have hba : sLt ⟨b.toArray⟩ ⟨a.toArray⟩ = false := le_iff.1 (by simpa using hab)
  rcases sLt_tri ⟨a.toArray⟩ ⟨b.toArray⟩ with k | k | k
  · exact k
  · exact absurd (by simpa using k) hne
  · rw [hba] at k; cases k
theorem Lists.keys {X : SaysX} {fs : List FieldL} (h : Lists X fs) : IsKeys X (namesOf (fs.map fun f => f.key.data.toList)) := by
  refine ⟨namesOf_asc _, fun s => ?_⟩
  rw [namesOf_mem, List.mem_map]
  constructor
  · rintro ⟨f, hf, e⟩
    exact ⟨f, (h.mem f).1 hf, bdata_inj e⟩
  · rintro ⟨f, hf, rfl⟩
    exact ⟨f, (h.mem f).2 hf, rfl⟩

/-- what is said when nothing is said of a name any more -/
def dropX (X : SaysX) (id : ByteArray) : SaysX := fun f => offN (X f) id
/-- what is said when of a name, of which nothing is said, it is said that it has these fields -/
def addX (X : SaysX) (fs : List FieldL) (id : ByteArray) : SaysX := fun f => if f ∈ fs then insN (X f) id else X f
/-- P32 -/
def noteX (X : SaysX) (fs : List FieldL) (id : ByteArray) : SaysX := addX (dropX X id) fs id
/-- P31 -/
noncomputable def newX (l : List VerL) : SaysX := byL l
theorem addX_nil (X : SaysX) (id : ByteArray) : addX X [] id = X := by
  funext f
  unfold addX
  rw [if_neg (by simp)]
theorem addX_snoc {X : SaysX} {fs : List FieldL} {g : FieldL} {id : ByteArray} (h : g ∉ fs) : addX X (fs ++ [g]) id = fun f => if f = g then insN (addX X fs id f) id else addX X fs id f := by
  funext f
  unfold addX
  by_cases e : f = g
  · subst e
    rw [if_pos (by simp), if_pos rfl, if_neg h]
  · rw [if_neg e]
    simp [e]
structure Nice (X : SaysX) : Prop where
  asc : ∀ f, Asc (X f)
  fin : ∃ fs, Lists X fs
theorem mem_noteX {X : SaysX} {fs : List FieldL} {id s : ByteArray} {f : FieldL} : s ∈ noteX X fs id f ↔ (s ≠ id ∧ s ∈ X f) ∨ (s = id ∧ f ∈ fs) := by
  unfold noteX addX dropX
  split
  · rename_i hf
    rw [mem_insN, mem_offN]
    constructor
    · rintro (h | h)
      · exact .inr ⟨h, hf⟩
      · exact .inl ⟨h.2, h.1⟩
    · rintro (h | h)
      · exact .inr ⟨h.2, h.1⟩
      · exact .inl h.1
  · rename_i hf
    rw [mem_offN]
    constructor
    · rintro ⟨h1, h2⟩
      exact .inl ⟨h2, h1⟩
    · rintro (h | h)
      · exact ⟨h.2, h.1⟩
      · exact absurd h.2 hf
theorem noteX_asc {X : SaysX} (h : ∀ f, Asc (X f)) (fs : List FieldL) (id : ByteArray) : ∀ f, Asc (noteX X fs id f) := fun f => by
  unfold noteX addX dropX
  split
  · refine insN_asc (offN_asc (h f)) ?_
    rw [mem_offN]
    exact fun k => k.2 rfl
  · exact offN_asc (h f)
/-- sorted lists with the same members are one -/
theorem says_ext {X Y : SaysX} (hX : ∀ f, Asc (X f)) (hY : ∀ f, Asc (Y f)) (h : ∀ f s, s ∈ X f ↔ s ∈ Y f) : X = Y := funext fun f => asc_ext (hX f) (hY f) (h f)

/-! ## the store's own index -/
theorem byL_asc (l : List VerL) (f : FieldL) : Asc (byL l f) := picked_asc _ _
def dedupF : List FieldL → List FieldL
  | [] => []
  | f :: r => if f ∈ dedupF r then dedupF r else f :: dedupF r
theorem mem_dedupF : ∀ {l : List FieldL} {f : FieldL}, f ∈ dedupF l ↔ f ∈ l
  | [], f => Iff.rfl
  | a :: r, f => by
    unfold dedupF
    split
    · rename_i h
      rw [mem_dedupF, List.mem_cons]
      exact ⟨.inr, fun k => k.elim (fun e => by rw [e]; exact mem_dedupF.1 h) id⟩
    · rw [List.mem_cons, List.mem_cons, mem_dedupF]
theorem nodup_dedupF : ∀ (l : List FieldL), (dedupF l).Nodup
  | [] => List.nodup_nil
  | a :: r => by
    unfold dedupF
    split
    · exact nodup_dedupF r
    · rename_i h
      exact List.nodup_cons.2 ⟨h, nodup_dedupF r⟩
theorem lists_ex (ls : List FieldL) (X : SaysX) (h : ∀ f, X f ≠ [] → f ∈ ls) : ∃ fs, Lists X fs := by
  refine ⟨dedupF (ls.filter fun f => decide (X f ≠ [])), ?_, fun f => ?_⟩
  · exact nodup_dedupF _
  · rw [mem_dedupF, List.mem_filter, decide_eq_true_eq]
    exact ⟨fun k => k.2, fun k => ⟨h f k, k⟩⟩
/-- what New says of its first records -/
noncomputable def preX (rs : List RecL) : SaysX := fun f => (rs.filter (hasF f)).map (·.id)
theorem preX_all (l : List VerL) : preX (recs l) = newX l := rfl
theorem preX_nil : preX [] = fun _ => [] := rfl
theorem preX_snoc {rs : List RecL} {r : RecL} (h : ∀ s ∈ rs, sLt s.id r.id = true) : preX (rs ++ [r]) = addX (preX rs) r.fs r.id := by
  funext f
  unfold preX addX
  rw [List.filter_append, List.map_append]
  have hall : ∀ s ∈ (rs.filter (hasF f)).map (·.id), sLt s r.id = true := fun s hs => by
    obtain ⟨u, hu, rfl⟩ := List.mem_map.1 hs
    exact h u (List.mem_filter.1 hu).1
  have hins : ∀ m : List ByteArray, (∀ s ∈ m, sLt s r.id = true) → insN m r.id = m ++ [r.id] := fun m => by
    induction m with
    | nil => intro _; rfl
    | cons a m ih =>
      intro hm
      unfold insN
      rw [if_pos (hm a (by simp)), ih fun s hs => hm s (by simp [hs])]
      rfl
  by_cases hf : f ∈ r.fs
  · rw [if_pos hf, List.filter_cons_of_pos (hasF_iff.2 hf), List.filter_nil, hins _ hall]
    rfl
  · rw [if_neg hf, List.filter_cons_of_neg (by rw [hasF_iff]; exact hf), List.filter_nil]
    simp
theorem preX_fin (rs : List RecL) : ∃ fs, Lists (preX rs) fs := lists_ex (rs.flatMap (·.fs)) _ fun f hf => by
  obtain ⟨s, hs⟩ := List.exists_mem_of_ne_nil _ hf
  obtain ⟨r, hr, _⟩ := List.mem_map.1 hs
  obtain ⟨h1, h2⟩ := List.mem_filter.1 hr
  exact List.mem_flatMap.2 ⟨r, h1, hasF_iff.1 h2⟩
theorem newX_nice (l : List VerL) : Nice (newX l) := ⟨byL_asc l, preX_fin (recs l)⟩
theorem noteX_nice {X : SaysX} (h : Nice X) (fs : List FieldL) (id : ByteArray) : Nice (noteX X fs id) := ⟨noteX_asc h.asc fs id, by
  obtain ⟨gs, hg⟩ := h.fin
  refine lists_ex (gs ++ fs) _ fun f hf => ?_
  obtain ⟨s, hs⟩ := List.exists_mem_of_ne_nil _ hf
  rw [List.mem_append]
  rcases mem_noteX.1 hs with h1 | h1
  · exact .inl ((hg.mem f).2 fun e => by rw [e] at h1; cases h1.2)
  · exact .inr h1.2⟩
/-- P34: the fields of the record of a name: none, if there is none -/
def fsOf (l : List VerL) (id : ByteArray) : List FieldL := (recV l id).fs
theorem fsOf_none {l : List VerL} {id : ByteArray} (h : getV l id = none) : fsOf l id = [] := by
  unfold fsOf recV
  rw [h]
  rfl
theorem fsOf_some {l : List VerL} {id : ByteArray} {v : VerL} (h : getV l id = some v) : fsOf l id = v.r.fs := by
  unfold fsOf
  rw [recV_some h]
/-- noted of a store in which all others' records are as in this one, it says what New says -/
theorem note_new {l m : List VerL} {id : ByteArray} (h : ∀ s, s ≠ id → getV l s = getV m s) : noteX (newX l) (fsOf m id) id = newX m := by
  refine says_ext (noteX_asc (byL_asc l) _ _) (byL_asc m) fun f s => ?_
  rw [mem_noteX]
  show _ ↔ s ∈ byL m f
  rw [mem_byL]
  constructor
  · rintro (⟨hne, h1⟩ | ⟨rfl, h1⟩)
    · obtain ⟨v, hv, hf⟩ := mem_byL.1 h1
      exact ⟨v, by rw [← h s hne]; exact hv, hf⟩
    · cases hg : getV m s with
      | none => rw [fsOf_none hg] at h1; cases h1
      | some v => exact ⟨v, rfl, by rw [fsOf_some hg] at h1; exact h1⟩
  · rintro ⟨v, hv, hf⟩
    by_cases e : s = id
    · subst e
      exact .inr ⟨rfl, by rw [fsOf_some hv]; exact hf⟩
    · exact .inl ⟨e, mem_byL.2 ⟨v, by rw [h s e]; exact hv, hf⟩⟩
end Go.Proofs.YteimdhkajbldjaaGreat

namespace Go.Proofs.YteimdhkajbldjaaGreat
open Go.RowKit Go.Sort

theorem nanC_is (x : ByteArray) (w : World) : Calls Tryz.prog 140 #[.string x] w fun e w' => e = .returned (.bool false) ∧ w' = w := by
  have e1 : (x.toList == x.toList) = true := sEq_iff.2 rfl
  go_enter Tryz.func140, Tryz.ntmps140
  go_wp2_with fail
  go_ret
  exact ⟨rfl, rfl⟩
theorem nanB_is (x : ByteArray) (w : World) : Calls Tryz.prog 119 #[.string x] w fun e w' => e = .returned (.bool false) ∧ w' = w := by
  have e1 : (x.toList == x.toList) = true := sEq_iff.2 rfl
  go_enter Tryz.func119, Tryz.ntmps119
  go_wp2_with fail
  go_ret
  exact ⟨rfl, rfl⟩
theorem lessC_is {b : Bool} (x y : ByteArray) (w : World) (hb : sLt x y = b) : Calls Tryz.prog 118 #[.string x, .string y] w fun e w' => e = .returned (.bool b) ∧ w' = w := by
  have h1 : Op.bytesLess x.toList y.toList = b := hb
  clear hb
  go_enter Tryz.func118, Tryz.ntmps118
  go_wp2_with (go_at_call 140; refine (nanC_is _ _).mono ?_; rintro e w' ⟨rfl, rfl⟩)
  go_ret
  exact ⟨rfl, rfl⟩

set_option maxHeartbeats 2000000 in
theorem search_is {m I : Nat} {t : Bool} (a : Option Addr) (ids : List ByteArray) (c : Nat) (s : ByteArray) (w : World) (hs : SlS w a ids) (hl : ids.length = m) (hm : m ≤ 1000000) (ha : Asc ids) (hI : idxN ids s = I) (ht : s ∈ ids ↔ t = true) :
    Calls Tryz.prog 82 #[.slice a m c, .string s] w fun e w' => e = .returned (.tuple #[.int .i64 I, .bool t]) ∧ Below w.heap.size w w' := by
  have HS := Lib.hid hs
  have HL := Lib.hid hl
  have HIX := Lib.hid (show ∀ j x, ids[j]? = some x → (sLt x s = true ↔ j < I) from fun j x hx => by rw [← hI]; exact idxN_spec s ha j x hx)
  have HT := Lib.hid (show ids[I]? = some s ↔ t = true by rw [← hI, ← idxN_there ha]; exact ht)
  have hIm : I ≤ m := by rw [← hI, ← hl]; exact idxN_le _ _
  clear hs hl ha hI ht
  go_enter Tryz.func82, Tryz.ntmps82
  go_wp2_with fail
  go_loopg [7, 8] m (fun kx s5 s6 wr => ∃ lo hi : Nat, s5 = .int .i64 lo ∧ s6 = .int .i64 hi ∧ lo ≤ I ∧ I ≤ hi ∧ hi ≤ m ∧ hi - lo ≤ kx ∧ Hid (Below w.heap.size w wr))
  case atStart => exact ⟨0, m, rfl, rfl, Nat.zero_le _, hIm, Nat.le_refl _, by omega, Below.refl _ _⟩
  case round =>
    obtain ⟨lo, hi, rfl, rfl, hlo, hhi, hin, hg, hB⟩ := hrel
    by_cases hlt : lo < hi
    · obtain ⟨q, hq⟩ : ∃ q : Nat, q = (lo + hi) / 2 := ⟨_, rfl⟩
      have hq1 : ((lo : Int) + (hi : Int)) / 2 = (q : Int) := by omega
      have hqm : q < m := by omega
      obtain ⟨x, hx⟩ : ∃ x, ids[q]? = some x := ⟨_, List.getElem?_eq_getElem (by rw [HL.out]; exact hqm)⟩
      obtain ⟨b, off, rfl, hc⟩ := (HS.out.below hB.out) q x hx
      have hxs := HIX.out q x hx
      have i1 : (0 : Int) ≤ (q : Int) := by omega
      have i2 : (q : Int) < (m : Int) := by omega
      cases hls : sLt x s with
      | true =>
        have HQ : Hid (q < I) := hxs.1 hls
        have HLS := Lib.hid hls
        have HQL := Lib.hid hq
        clear hxs hx hls hq
        go_wp2_with (go_at_call 118; refine (lessC_is _ _ _ HLS.out).mono ?_; rintro e w' ⟨rfl, rfl⟩)
        go_roundg (hi - (q + 1))
        case measure => have := HQL.out; omega
        case rel => exact ⟨q + 1, hi, by go_num, rfl, HQ.out, hhi, hin, Nat.le_refl _, hB.out⟩
      | false =>
        have HQ : Hid (¬ q < I) := fun k => by have := hxs.2 k; rw [hls] at this; cases this
        have HLS := Lib.hid hls
        have HQL := Lib.hid hq
        clear hxs hx hls hq
        go_wp2_with (go_at_call 118; refine (lessC_is _ _ _ HLS.out).mono ?_; rintro e w' ⟨rfl, rfl⟩)
        go_roundg (q - lo)
        case measure => have := HQL.out; omega
        case rel => exact ⟨lo, q, rfl, rfl, hlo, by have := HQ.out; omega, by omega, Nat.le_refl _, hB.out⟩
    · obtain rfl : lo = I := by omega
      by_cases hIl : lo < m
      · obtain ⟨x, hx⟩ : ∃ x, ids[lo]? = some x := ⟨_, List.getElem?_eq_getElem (by rw [HL.out]; exact hIl)⟩
        obtain ⟨b, off, rfl, hc⟩ := (HS.out.below hB.out) lo x hx
        have i1 : (0 : Int) ≤ (lo : Int) := by omega
        have i2 : (lo : Int) < (m : Int) := by omega
        have i3 : decide ((lo : Int) < (m : Int)) = true := by simpa using hIl
        have hxt : x = s ↔ t = true := by rw [← HT.out, hx]; exact ⟨fun e => by rw [e], fun e => Option.some.inj e⟩
        cases t with
        | true =>
          have e1 : (x.toList == s.toList) = true := sEq_iff.2 (hxt.2 rfl)
          clear hxt hx HT
          go_wp2_with fail
          go_ret2
          exact ⟨rfl, hB.out⟩
        | false =>
          have e1 : (x.toList == s.toList) = false := sEq_false.2 fun e => by have := hxt.1 e; cases this
          clear hxt hx HT
          go_wp2_with (go_at_call 119; refine (nanB_is _ _).mono ?_; rintro e w' ⟨rfl, rfl⟩)
          go_ret2
          exact ⟨rfl, hB.out⟩
      · have i3 : decide ((lo : Int) < (m : Int)) = false := by simpa using hIl
        have htf : t = false := by
          cases t with
          | false => rfl
          | true =>
            have h1 := HT.out.2 rfl
            have := (List.getElem?_eq_some_iff.1 h1).1
            rw [HL.out] at this
            omega
        subst htf
        clear HT
        go_wp2_with fail
        go_ret2
        exact ⟨rfl, hB.out⟩

end Go.Proofs.YteimdhkajbldjaaGreat

namespace Go.Proofs.YteimdhkajbldjaaGreat
open Go.RowKit Go.Sort

/-- the strings with f put in at i -/
def insS (fs : List ByteArray) (i : Nat) (f : ByteArray) : List ByteArray := fs.take i ++ f :: fs.drop i
theorem insS_len {fs : List ByteArray} {i : Nat} {f : ByteArray} (h : i ≤ fs.length) : (insS fs i f).length = fs.length + 1 := by unfold insS; simp; omega

theorem cellsS_app (a b : List ByteArray) : cellsS (a ++ b) = cellsS a ++ cellsS b := by unfold cellsS; rw [List.map_append]
theorem cellsS_cons (f : ByteArray) (r : List ByteArray) : cellsS (f :: r) = .string f :: cellsS r := rfl
theorem cellsS_take (fs : List ByteArray) (i : Nat) : cellsS (fs.take i) = (cellsS fs).take i := by unfold cellsS; rw [List.map_take]
theorem cellsS_drop (fs : List ByteArray) (i : Nat) : cellsS (fs.drop i) = (cellsS fs).drop i := by unfold cellsS; rw [List.map_drop]

/-- .. and but for the row that came in nothing else has turned -/
def InsToS (B : Nat) (A : Option Addr) (fs : List ByteArray) (w : World) (e : Ending) (w' : World) : Prop :=
  ∃ A' c, e = .returned (.slice A' fs.length c) ∧ OwnS B w' (.slice A' fs.length c) fs ∧ Below B w w' ∧ (∀ b, b < w.heap.size → A ≠ some ⟨b, 0, none⟩ → w'.heap[b]? = w.heap[b]?) ∧ (A'.map (·.block) = A.map (·.block) ∨ ∀ j, A'.map (·.block) = some j → w.heap.size ≤ j)
theorem ob (A : Option Addr) (k c : Nat) : (Value.slice A k c).ownBlock = A.map (·.block) := by cases A <;> rfl
theorem ob_of {A A' : Option Addr} {k c k' c' s : Nat} (h : (Value.slice A' k' c').ownBlock = (Value.slice A k c).ownBlock ∨ (Value.slice A' k' c').ownBlock = some s) : A'.map (·.block) = A.map (·.block) ∨ ∀ j, A'.map (·.block) = some j → s ≤ j := by
  rw [ob, ob] at h
  rcases h with h | h
  · exact .inl h
  · exact .inr fun j hj => by rw [hj] at h; cases h; exact Nat.le_refl _

set_option maxHeartbeats 2000000 in
/-- at the end -/
theorem ins_endS (B : Nat) (A : Option Addr) (fs : List ByteArray) (c vb vc : Nat) (f : ByteArray) (w : World) (hown : OwnS B w (.slice A fs.length c) fs) (hB : B ≤ w.heap.size) (hn : fs.length ≤ 100000)
    (h1 : w.cell? ⟨vb, 0, none⟩ = some (.string f)) :
    Calls Tryz.prog 116 #[.slice A fs.length c, .int .i64 fs.length, .slice (some ⟨vb, 0, none⟩) 1 vc] w (InsToS B A (fs ++ [f]) w) := by
  obtain ⟨i0, hi, hz0, hz1, hz2⟩ := info_parts Tryz.infoStr
  have hl : (fs ++ [f]).length = fs.length + 1 := by simp
  have hx : cellsS (fs ++ [f]) = cellsS fs ++ cellsS [f] := cellsS_app _ _
  have hnews : ∀ j u, (cellsS [f])[j]? = some u → w.cell? ((⟨vb, 0, none⟩ : Addr).add j) = some u := by
    intro j u hj
    rw [addr_at]
    match j, hj with
    | 0, hj => cases hj; exact h1
  have HN := Lib.hid hnews
  have HO := Lib.hid hown
  have HL := Lib.hid hl
  have HX := Lib.hid hx
  obtain ⟨n, hn'⟩ : ∃ n, n = fs.length := ⟨_, rfl⟩
  have HNN := Lib.hid hn'
  rw [← hn'] at hn ⊢
  have hown2 : w.ownsRow B 9 1 (.slice A n c) n (cellsS fs) := by rw [hn']; exact hown
  have HO2 := Lib.hid hown2
  have hnc : n ≤ c := by rw [hn']; exact hown.sl.2.1
  have hc63 : c ≤ maxLen := hown.sl.2.2
  unfold maxLen at hc63
  clear hnews hown hl hx hn' hown2 h1
  cases A with
  | none =>
    have h0 : n = 0 := by
      rcases HO2.out.2 with ⟨_, h⟩ | ⟨g, cap, cur, e, _⟩
      · exact h
      · cases e
    subst h0
    go_enter Tryz.func116, Tryz.ntmps116
    go_wp2_with (at_builtin; refine wpList_append_own_at _ rfl _ _ 33 rfl B 9 i0 _ 1 16 Tryz.underlying33 hi hz0 hz1 hz2 rfl (by decide) _ _ _ rfl HO2.out ⟨vb, 0, none⟩ 1 vc (cellsS [f]) rfl rfl HN.out (cellsS_one [f]) ?c3 ?c4 hB ?_)
    case c3 => unfold maxLen; omega
    case c4 => omega
    intro v' w1 hown' hgrow hnv hat
    have hnx : Below B w w1 := ⟨hgrow.os, hgrow.tape, hgrow.output, hgrow.size, fun i hi => hgrow.block i (by omega) (fun e => by simp [Value.ownBlock] at e)⟩
    have hoth : Hid (∀ b, b < w.heap.size → (none : Option Addr) ≠ some ⟨b, 0, none⟩ → w1.heap[b]? = w.heap[b]?) := fun b hb _ => hgrow.block b hb (fun e => by simp [Value.ownBlock] at e)
    have ho : OwnS B w1 v' (fs ++ [f]) := by
      unfold OwnS
      rw [HX.out, HL.out, ← HNN.out]
      exact hown'
    obtain ⟨A', c', hv⟩ := ho.form
    have HOO := Lib.hid ho
    have HAT := Lib.hid hat
    clear hnv hgrow hown' ho hat
    subst hv
    go_wp2_with fail
    go_ret
    exact ⟨A', c', rfl, HOO.out, hnx, hoth.out, ob_of HAT.out⟩
  | some ad =>
    obtain ⟨g, rfl⟩ : ∃ g, ad = ⟨g, 0, none⟩ := by
      rcases HO2.out.2 with ⟨e, _⟩ | ⟨g, cap, cur, e, _⟩
      · cases e
      · injection e with e1
        injection e1 with e1
        exact ⟨g, e1⟩
    have hbg : B ≤ g := (World.ownsRow.lt HO2.out g rfl).1
    go_enter Tryz.func116, Tryz.ntmps116
    go_wp2_with (at_builtin; refine wpList_append_own_at _ rfl _ _ 33 rfl B 9 i0 _ 1 16 Tryz.underlying33 hi hz0 hz1 hz2 rfl (by decide) _ _ _ rfl HO2.out ⟨vb, 0, none⟩ 1 vc (cellsS [f]) rfl rfl HN.out (cellsS_one [f]) ?c3 ?c4 hB ?_)
    case c3 => unfold maxLen; omega
    case c4 => omega
    all_goals
      intro v' w1 hown' hgrow hnv hat
      have hnx : Below B w w1 := ⟨hgrow.os, hgrow.tape, hgrow.output, hgrow.size, fun i hi => hgrow.block i (by omega) (fun e => by simp [Value.ownBlock] at e; omega)⟩
      have hoth : Hid (∀ b, b < w.heap.size → some (⟨g, 0, none⟩ : Addr) ≠ some ⟨b, 0, none⟩ → w1.heap[b]? = w.heap[b]?) := fun b hb hne => hgrow.block b hb (fun e => hne (by simp [Value.ownBlock] at e; rw [e]))
      have ho : OwnS B w1 v' (fs ++ [f]) := by
        unfold OwnS
        rw [HX.out, HL.out, ← HNN.out]
        exact hown'
      obtain ⟨A', c', hv⟩ := ho.form
      have HOO := Lib.hid ho
      have HAT := Lib.hid hat
      clear hnv hgrow hown' ho hat
      subst hv
      go_wp2_with fail
      go_ret
      exact ⟨A', c', rfl, HOO.out, hnx, hoth.out, ob_of HAT.out⟩

/-- the row behind the two copies: first what stood from i on is moved, then the field is laid -/
theorem splice_roomS (cur xs : List Value) (a : Value) (i n : Nat) (hi : i ≤ n) (hx : xs.length = n) (hc : cur.take (n) = xs) (hl : (n + 1) ≤ cur.length) :
    (splice (splice cur ((i + 1)) (xs.drop (i))) (i) [a]).take ((n + 1)) = xs.take (i) ++ a :: xs.drop (i) := by
  have l1 : (cur.take ((i + 1))).length = (i + 1) := by rw [List.length_take]; omega
  have l2 : (xs.take (i)).length = i := by rw [List.length_take]; omega
  have l3 : (xs.drop (i)).length = (n - i) := by rw [List.length_drop]; omega
  have e1 : (cur.take ((i + 1))).take (i) = xs.take (i) := by rw [List.take_take, ← hc, List.take_take]; congr 1; omega
  unfold splice
  generalize hR : cur.drop ((i + 1) + (xs.drop (i)).length) = R
  have e2 : (cur.take ((i + 1)) ++ (xs.drop (i) ++ R)).take (i) = xs.take (i) := by
    rw [List.take_append_of_le_length (by omega), e1]
  have e3 : (cur.take ((i + 1)) ++ (xs.drop (i) ++ R)).drop (i + [a].length) = xs.drop (i) ++ R := by
    rw [List.drop_append_of_le_length (by rw [l1]; show i + 1 ≤ _; omega), List.drop_of_length_le (by rw [l1]; show _ ≤ i + 1; omega), List.nil_append]
  rw [e2, e3]
  have e4 : xs.take (i) ++ ([a] ++ (xs.drop (i) ++ R)) = (xs.take (i) ++ a :: xs.drop (i)) ++ R := by simp
  rw [e4, List.take_append_of_le_length (by simp; omega), List.take_of_length_le (by simp; omega)]

/-- the row of a new array: first the field is laid, then what stood from i on -/
theorem splice_growS (row xs : List Value) (a : Value) (i n : Nat) (hi : i ≤ n) (hx : xs.length = n) (hc : row.take (i) = xs.take (i)) (hl : (n + 1) ≤ row.length) :
    (splice (splice row (i) [a]) ((i + 1)) (xs.drop (i))).take ((n + 1)) = xs.take (i) ++ a :: xs.drop (i) := by
  unfold splice
  have e1 : List.take ((i + 1)) (List.take (i) row ++ ([a] ++ List.drop (i + [a].length) row)) = xs.take (i) ++ [a] := by
    rw [hc, List.take_append, List.take_of_length_le (by simp; omega), List.take_append]
    have : (List.take (i) xs).length = i := by simp; omega
    rw [this, show (i + 1) - i = 1 by omega]
    rfl
  rw [e1, ← List.append_assoc, List.take_append, List.take_of_length_le (by simp; omega)]
  have : (xs.take (i) ++ [a] ++ xs.drop (i)).length = (n + 1) := by simp; omega
  rw [this, Nat.sub_self, List.take_zero, List.append_nil, List.append_assoc]
  rfl

set_option maxHeartbeats 4000000 in
set_option maxRecDepth 100000 in
/-- in the midst, there is room -/
theorem ins_roomS (B g : Nat) (fs : List ByteArray) (c vb vc i : Nat) (f : ByteArray) (w : World) (hown : OwnS B w (.slice (some ⟨g, 0, none⟩) fs.length c) fs) (hn : fs.length ≤ 100000)
    (hv : w.heap[vb]? = some (.cells #[.string f] 9 (0, 0))) (hvg : vb ≠ g) (hi : i < fs.length) (hroom : fs.length + 1 ≤ c) :
    Calls Tryz.prog 116 #[.slice (some ⟨g, 0, none⟩) fs.length c, .int .i64 i, .slice (some ⟨vb, 0, none⟩) 1 vc] w (InsToS B (some ⟨g, 0, none⟩) (insS fs i f) w) := by
  obtain ⟨cur, hlo, hg, h1, h2, h3, h4⟩ : ∃ cur, B ≤ g ∧ w.heap[g]? = some (.cells cur 9 (0, 0)) ∧ fs.length ≤ c ∧ c ≤ maxLen ∧ cur.size = c * 1 ∧ cur.toList.take (fs.length * 1) = cellsS fs := by
    rcases hown.2 with ⟨e, _⟩ | ⟨g', cap, cur, e, hlo, hg, h1, h2, h3, h4⟩
    · cases e
    · injection e with e1 e2 e3
      injection e1 with e1
      injection e1 with e1
      subst e1 e3
      exact ⟨cur, hlo, hg, h1, h2, h3, h4⟩
  rw [Nat.mul_one] at h3 h4
  have hsz : (Tryz.prog.info? 9).map (·.size) = some 1 := by
    obtain ⟨i0, hi0, _, h, _⟩ := info_parts Tryz.infoStr
    rw [hi0]; simp [h]
  have hv1 : w.cell? ⟨vb, 0, none⟩ = some (.string f) := by simp [World.cell?, hv]
  have hsa : w.shape? vb = some (9, 1) := by simp [World.shape?, hv]
  have hsb : w.shape? g = some (9, c) := by simp [World.shape?, hg, h3]
  have hfa : w.frozen? ⟨vb, 0, none⟩ = false := by simp [World.frozen?, hv]
  have hfe : w.frozen? ⟨vb, 1, none⟩ = false := by simp [World.frozen?, hv]
  have hov : ∀ lb cb, (callFunc 138 #[.slice (some ⟨vb, 0, none⟩) 1 vc, .slice (some ⟨g, (i + 1), none⟩) lb cb]).run Tryz.prog w = .ok (.value (.bool false)) w := fun lb cb => by
    rw [run_callFunc_extern Tryz.func138 (by kernel_rfl) (by kernel_rfl) (by kernel_rfl) (e := Extern.SlicesOverlaps.overlaps #[33, 33] #[4]) (by kernel_rfl),
      Lib.run_overlaps_apart w 33 4 9 Tryz.underlying33 1 (by intro w; exact Tryz.sizeOf9 w) ⟨vb, 0, none⟩ ⟨g, (i + 1), none⟩ 1 vc lb cb hvg _ _ _ _ hsa hsb (by omega) hfa hfe]
    rfl
  obtain ⟨n, hn'⟩ : ∃ n, n = fs.length := ⟨_, rfl⟩
  have hxl : (cellsS fs).length = n := by rw [cellsS_len, hn', Nat.mul_one]
  have hlen : (insS fs i f).length = n + 1 := by rw [insS_len (by omega), hn']
  rw [← hn'] at hn hi hroom h1 h4 ⊢
  have hcl : (n + 1) ≤ cur.toList.length := by rw [Array.length_toList, h3]; omega
  have hrow := splice_roomS cur.toList (cellsS fs) (.string f) i n (by omega) hxl h4 hcl
  have hsrc1 : ∀ j u, ((cellsS fs).drop (i))[j]? = some u → w.cell? ((⟨g, i, none⟩ : Addr).add j) = some u := fun j u hj => by
    rw [addr_off]
    rw [List.getElem?_drop, ← h4, List.getElem?_take] at hj
    split at hj
    · simp only [World.cell?, hg]
      simpa using hj
    · cases hj
  have hd : ((cellsS fs).drop (i)).length = (n - i) := by rw [List.length_drop, hxl]
  have hone : ∀ u ∈ (cellsS fs).drop (i), u.oneCell' = true := fun u hu => cellsS_one fs u (List.mem_of_mem_drop hu)
  have hins : cellsS (insS fs i f) = (cellsS fs).take (i) ++ .string f :: (cellsS fs).drop (i) := by
    unfold insS
    rw [cellsS_app, cellsS_cons, cellsS_take, cellsS_drop]
  have hg' : w.heap[g]? = some (.cells cur.toList.toArray 9 (0, 0)) := by simpa using hg
  have hcm := h2
  unfold maxLen at hcm
  have hz2 : ¬ ((i : Int) = (n : Int)) := by omega
  have hz3 : ¬ ((c : Int) < (n : Int) + 1) := by omega
  have hw1 : IntKind.i64.wrap ((i : Int) + 1) = (i : Int) + 1 := by rw [IntKind.wrap_i64]; omega
  have hb1 : (0 : Int) ≤ (i : Int) + 1 := by omega
  have hb0 : (0 : Int) ≤ (i : Int) := by omega
  have htn : ((i : Int) + 1).toNat = i + 1 := by omega
  have hb2 : ¬ (c = i + 1) := by omega
  have hb3 : (i : Int) + 1 ≤ (n : Int) + 1 := by omega
  have hb5 : (i : Int) ≤ (n : Int) + 1 := by omega
  have hb6 : i ≤ n := by omega
  have hb4 : ¬ (c = i) := by omega
  have HS1 := Lib.hid hsrc1; have HG := Lib.hid hg'; have HR := Lib.hid hrow; have HD := Lib.hid hd; have HO1 := Lib.hid hone; have HI := Lib.hid hins; have HL := Lib.hid hlen; have HNN := Lib.hid hn'; have HC := Lib.hid hcl; have H3 := Lib.hid h3; have HV1 := Lib.hid hv1; have HV := Lib.hid hv
  generalize hX : (cellsS fs).drop (i) = X at HS1 HD HO1 HR HI
  clear hsrc1 hg' hrow hd hone hins hlen hn' hcl h3 hown h4 hg hxl hv1 hX hsa hsb hfa hfe hv
  go_enter Tryz.func116, Tryz.ntmps116
  go_wp2_with (simp only [hov])
  go_region_law (refine step_copy_rowN rfl _ _ 33 33 rfl 9 1 Tryz.underlying33 hsz g ((i + 1)) (n + 1 - (i + 1)) (c - (i + 1)) ⟨g, i, none⟩ (n + 1 - i) (c - i) (by simp [Act.eval, Act.put]) (by simp [Act.eval, Act.put]) cur.toList 9 HG.out X (by rw [HD.out]; simp only [Nat.min_def]; split <;> omega) HS1.out (by rw [HD.out]; have := HC.out; omega) HO1.out B w ((Below.refl _ _).drew) hlo ?_; intro w2 HG2 hB2 ho2)
  have hv3 : w2.heap[vb]? = some (.cells #[.string f] 9 (0, 0)) := (ho2 vb hvg).trans HV.out
  have hk1 : w2.cell? ⟨vb, 0, none⟩ = some (.string f) := by simp [World.cell?, hv3]
  have HV3 := Lib.hid hv3
  have HK1 := Lib.hid hk1
  have HO2 := Lib.hid ho2
  have hnews : ∀ j u, ([.string f] : List Value)[j]? = some u → w2.cell? ((⟨vb, 0, none⟩ : Addr).add j) = some u := by
    intro j u hj
    rw [addr_at]
    match j, hj with
    | 0, hj => cases hj; exact HK1.out
  have HN := Lib.hid hnews
  clear hv3 hk1 ho2 hnews
  go_wp2_with (with_reducible refine wpList_copy_rowN rfl (.tmp 80) (.tmp 81) 33 33 rfl 9 1 Tryz.underlying33 hsz g (i) (n + 1 - i) (c - i) ⟨vb, 0, none⟩ 1 vc rfl rfl (splice cur.toList ((i + 1)) X) 9 HG2.out [.string f] ?c1 HN.out ?c2 ?c3 B w hB2 hlo ?_)
  case c1 => simp only [Nat.min_def]; split <;> (simp; try omega)
  case c2 =>
    have := length_splice cur.toList ((i + 1)) X (by rw [HD.out]; have := HC.out; omega)
    rw [this]
    have := HC.out
    simp
    simp at this
    omega
  case c3 =>
    intro u hu
    rcases List.mem_cons.1 hu with rfl | hu
    · rfl
    · cases hu
  intro w3 HG3 hB3 ho3
  have HO3 := Lib.hid ho3
  clear ho3
  go_wp2_with fail
  go_ret
  have e1 : (splice (splice cur.toList ((i + 1)) X) (i) [.string f]).length = cur.toList.length := by
    have e2 := length_splice cur.toList ((i + 1)) X (by rw [HD.out]; have := HC.out; omega)
    rw [length_splice _ _ _ (by rw [e2]; have := HC.out; show i + 1 ≤ _; omega), e2]
  refine ⟨some ⟨g, 0, none⟩, c, by rw [HL.out]; rfl, ?_, hB3, fun b hb hne => ((HO3.out b (fun e => hne (by rw [e]))).trans (HO2.out b (fun e => hne (by rw [e])))), .inl rfl⟩
  refine ⟨cellsS_len _, .inr ⟨g, c, (splice (splice cur.toList ((i + 1)) X) (i) [.string f]).toArray, rfl, hlo, HG3.out, by rw [HL.out]; exact hroom, h2, ?_, ?_⟩⟩
  · rw [Nat.mul_one, List.size_toArray, e1, Array.length_toList, H3.out]
  · rw [Nat.mul_one, HL.out, List.toList_toArray, HR.out, HI.out]

set_option maxHeartbeats 4000000 in
set_option maxRecDepth 100000 in
/-- in the midst, there is no room -/
theorem ins_growS (B g : Nat) (fs : List ByteArray) (c vb vc i : Nat) (f : ByteArray) (w : World) (hown : OwnS B w (.slice (some ⟨g, 0, none⟩) fs.length c) fs) (hn : fs.length ≤ 100000) (hB : B ≤ w.heap.size)
    (hv : w.heap[vb]? = some (.cells #[.string f] 9 (0, 0))) (hi : i < fs.length) (hroom : c < fs.length + 1) :
    Calls Tryz.prog 116 #[.slice (some ⟨g, 0, none⟩) fs.length c, .int .i64 i, .slice (some ⟨vb, 0, none⟩) 1 vc] w (InsToS B (some ⟨g, 0, none⟩) (insS fs i f) w) := by
  obtain ⟨i0, hi0, hz0, hz1, hz2⟩ := info_parts Tryz.infoStr
  have hsz : (Tryz.prog.info? 9).map (·.size) = some 1 := by rw [hi0]; simp [hz1]
  have hcells := hown.sl.1.cells
  have hcn : c = fs.length := by have := hown.sl.2.1; omega
  subst hcn
  obtain ⟨n, hn'⟩ : ∃ n, n = fs.length := ⟨_, rfl⟩
  have hxl : (cellsS fs).length = n := by rw [cellsS_len, hn', Nat.mul_one]
  have hlen : (insS fs i f).length = n + 1 := by rw [insS_len (by omega), hn']
  rw [← hn'] at hn hi hroom ⊢
  have hgw : g < w.heap.size := (World.ownsRow.lt hown g rfl).2
  have hvw : vb < w.heap.size := by
    rcases Nat.lt_or_ge vb w.heap.size with h | h
    · exact h
    · rw [Array.getElem?_eq_none h] at hv; cases hv
  have hold : (Builtin.firstCells i0.size i (.slice (some ⟨g, 0, none⟩) i n)).run Tryz.prog w.drew = .ok ((cellsS fs).take (i)).toArray w.drew := by
    rw [hz1]
    exact run_firstCells_some w.drew 1 i ⟨g, 0, none⟩ i n ((cellsS fs).take (i)) (by rw [List.length_take]; omega) (fun j v hj => by
      rw [List.getElem?_take] at hj
      split at hj
      · exact hcells j v hj
      · cases hj)
  have hkk : (n : Int) + 1 - (i : Int) = ((n + 1 - i : Nat) : Int) := by omega
  have hik : i + (n + 1 - i) = n + 1 := by omega
  obtain ⟨G, hG⟩ : ∃ G, G = grownCap w (n + 1) n 9 := ⟨_, rfl⟩
  obtain ⟨ROW, hROW⟩ : ∃ ROW : Array Value, ROW = ((cellsS fs).take (i)).toArray ++ Builtin.zeroCells (Value.string ⟨#[]⟩).cells (n + 1 - i) ++ Builtin.zeroCells (Value.string ⟨#[]⟩).cells (G - (n + 1)) := ⟨_, rfl⟩
  obtain ⟨W1, hW1⟩ : ∃ W1, W1 = w.drew.alloc (.cells ROW 9) := ⟨_, rfl⟩
  have hrz : ∀ ty, (Builtin.append_ #[33, 3] ty #[.slice (some ⟨g, 0, none⟩) i n, .int .i64 ((n : Int) + 1 - (i : Int))]).run Tryz.prog w = .ok (.slice (some ⟨w.heap.size, 0, none⟩) (n + 1) G) W1 := fun ty => by
    have h := Lib.run_append_grow_zeros w 33 3 ty 9 i0 _ .i64 .i64 Tryz.underlying33 Tryz.underlying3 hi0 hz0 (some ⟨g, 0, none⟩) i n ((cellsS fs).take (i)) hold (n + 1 - i) (by omega) (by omega) (by omega) (by omega) (by rw [hz2]; omega) (by rw [hz2, hik]; exact growslice_fits (by omega) (by omega))
    rw [hik, ← hG, ← hROW, ← hW1] at h
    rw [hkk]
    exact h
  have hGn : n + 1 ≤ G := by rw [hG]; exact grownCap_ge w _ _ _
  have hGm : G ≤ maxLen := by rw [hG]; exact grownCap_le_maxLen w (n + 1) n _ (by unfold maxLen; omega)
  have hRl : ROW.size = G := by
    rw [hROW]
    have z : (Value.string ⟨#[]⟩).cells.size = 1 := rfl
    simp only [Array.size_append, List.size_toArray, size_zeroCells, z, List.length_take, hxl]
    omega
  have hRt : ROW.toList.take (i) = (cellsS fs).take (i) := by
    rw [hROW, Array.toList_append, Array.toList_append, List.append_assoc, List.toList_toArray, List.take_append_of_le_length (by rw [List.length_take]; omega), List.take_take, Nat.min_self]
  have HG1 : Hid (W1.heap[w.heap.size]? = some (.cells ROW.toList.toArray 9 (0, 0))) := by
    show W1.heap[w.heap.size]? = _
    rw [hW1, Array.toArray_toList]
    exact heap_alloc_new w.drew _
  have hbW : Below w.heap.size w W1 := by rw [hW1]; exact ((Below.refl _ _).drew).alloc (Nat.le_refl _) _
  have hd : ((cellsS fs).drop (i)).length = (n - i) := by rw [List.length_drop, hxl]
  have hone : ∀ u ∈ (cellsS fs).drop (i), u.oneCell' = true := fun u hu => cellsS_one fs u (List.mem_of_mem_drop hu)
  have hins : cellsS (insS fs i f) = (cellsS fs).take (i) ++ .string f :: (cellsS fs).drop (i) := by
    unfold insS
    rw [cellsS_app, cellsS_cons, cellsS_take, cellsS_drop]
  have hcl : (n + 1) ≤ ROW.toList.length := by rw [Array.length_toList, hRl]; omega
  have hrow := splice_growS ROW.toList (cellsS fs) (.string f) i n (by omega) hxl hRt hcl
  have hv1 : W1.heap[vb]? = some (.cells #[.string f] 9 (0, 0)) := (hbW.block vb hvw).trans hv
  have hk1 : W1.cell? ⟨vb, 0, none⟩ = some (.string f) := by simp [World.cell?, hv1]
  have hnews : ∀ j u, ([.string f] : List Value)[j]? = some u → W1.cell? ((⟨vb, 0, none⟩ : Addr).add j) = some u := by
    intro j u hj
    rw [addr_at]
    match j, hj with
    | 0, hj => cases hj; exact hk1
  have hsrc1 : ∀ j u, ((cellsS fs).drop (i))[j]? = some u → W1.cell? ((⟨g, i, none⟩ : Addr).add j) = some u := fun j u hj => by
    rw [addr_off]
    rw [List.getElem?_drop] at hj
    have := hcells _ u hj
    rw [addr_at] at this
    rw [hbW.cell (p := ⟨g, i + j, none⟩) hgw]
    exact this
  have hGi : ¬ (G = i) := by omega
  have hGim : ¬ (G = i + 1) := by omega
  have hGm63 := hGm
  unfold maxLen at hGm63
  have hni : ¬ (n = i) := by omega
  have hz2' : ¬ ((i : Int) = (n : Int)) := by omega
  have hz3 : (n : Int) < (n : Int) + 1 := by omega
  have hw1 : IntKind.i64.wrap ((i : Int) + 1) = (i : Int) + 1 := by rw [IntKind.wrap_i64]; omega
  have hb1 : (0 : Int) ≤ (i : Int) + 1 := by omega
  have hb0 : (0 : Int) ≤ (i : Int) := by omega
  have htn : ((i : Int) + 1).toNat = i + 1 := by omega
  have hb3 : (i : Int) + 1 ≤ (n : Int) + 1 := by omega
  have hb5 : (i : Int) ≤ (n : Int) + 1 := by omega
  have hb6 : i ≤ n := by omega
  have hb7 : (i : Int) ≤ (n : Int) := by omega
  have hgN : w.heap.size ≠ g := by omega
  have HS1 := Lib.hid hsrc1; have HR := Lib.hid hrow; have HD := Lib.hid hd; have HO1 := Lib.hid hone; have HI := Lib.hid hins; have HL := Lib.hid hlen; have HNN := Lib.hid hn'; have HC := Lib.hid hcl; have HN := Lib.hid hnews; have HRl := Lib.hid hRl; have HBW := Lib.hid hbW
  generalize hX : (cellsS fs).drop (i) = X at HS1 HD HO1 HR HI
  clear hsrc1 hrow hd hone hins hlen hn' hcl hX hnews hkk hik hold hROW hG hRl hRt hW1 hbW hv1 hk1 hcells hxl hv hown hz0 hz1 hz2 hi0
  go_enter Tryz.func116, Tryz.ntmps116
  go_wp2_with (first
    | (at_builtin; refine Lib.wpList_append_run _ rfl _ _ _ _ rfl _ _ rfl rfl _ _ (hrz _) ?_)
    | (with_reducible refine wpList_copy_rowN rfl (.tmp 43) (.tmp 44) 33 33 rfl 9 1 Tryz.underlying33 hsz w.heap.size (i) (n + 1 - i) (G - i) ⟨vb, 0, none⟩ 1 vc rfl rfl ROW.toList 9 HG1.out [.string f] ?c1 HN.out ?c2 ?c3 B w ?c4 hB ?_))
  case c1 => simp only [Nat.min_def]; split <;> (simp; try omega)
  case c2 =>
    have := HC.out
    simp
    simp at this
    omega
  case c3 =>
    intro u hu
    rcases List.mem_cons.1 hu with rfl | hu
    · rfl
    · cases hu
  case c4 => exact HBW.out.mono hB
  intro w2 HG2 hB2 ho2
  have hs2 : ∀ j u, X[j]? = some u → w2.cell? ((⟨g, i, none⟩ : Addr).add j) = some u := fun j u hj => by
    have := HS1.out j u hj
    rw [addr_off] at this ⊢
    rw [World.cell?_of_block (w := W1) (ho2 g (Ne.symm hgN))]
    exact this
  have HS2 := Lib.hid hs2
  have HO2 := Lib.hid ho2
  clear hs2 ho2
  go_wp2_with fail
  go_region_law (refine step_copy_rowN rfl _ _ 33 33 rfl 9 1 Tryz.underlying33 hsz w.heap.size ((i + 1)) (n + 1 - (i + 1)) (G - (i + 1)) ⟨g, i, none⟩ (n - i) (n - i) (by simp [Act.eval, Act.put]) (by simp [Act.eval, Act.put]) (splice ROW.toList (i) [.string f]) 9 HG2.out X (by rw [HD.out]; simp only [Nat.min_def]; split <;> omega) HS2.out (by rw [HD.out, length_splice _ _ _ (by have := HC.out; show i + 1 ≤ _; omega)]; have := HC.out; omega) HO1.out B w (hB2.drew) hB ?_; intro w3 HG3 hB3 ho3)
  have HO3 := Lib.hid ho3
  clear ho3
  go_wp2_with fail
  go_ret
  have e1 : (splice (splice ROW.toList (i) [.string f]) ((i + 1)) X).length = ROW.toList.length := by
    have e2 := length_splice ROW.toList (i) [.string f] (by have := HC.out; show i + 1 ≤ _; omega)
    rw [length_splice _ _ _ (by rw [e2, HD.out]; have := HC.out; omega), e2]
  refine ⟨some ⟨w.heap.size, 0, none⟩, G, by rw [HL.out]; rfl, ?_, hB3, fun b hb _ => ((HO3.out b (by omega)).trans ((HO2.out b (by omega)).trans (HBW.out.block b hb))), .inr fun j hj => by cases hj; exact Nat.le_refl _⟩
  refine ⟨cellsS_len _, .inr ⟨w.heap.size, G, (splice (splice ROW.toList (i) [.string f]) ((i + 1)) X).toArray, rfl, hB, HG3.out, by rw [HL.out]; exact hGn, hGm, ?_, ?_⟩⟩
  · rw [Nat.mul_one, List.size_toArray, e1, Array.length_toList, HRl.out]
  · rw [Nat.mul_one, HL.out, List.toList_toArray, HR.out, HI.out]

/-- slices.Insert of one field -/
theorem ins_anyS (B : Nat) (A : Option Addr) (fs : List ByteArray) (c vb vc i : Nat) (f : ByteArray) (w : World) (hown : OwnS B w (.slice A fs.length c) fs) (hB : B ≤ w.heap.size) (hn : fs.length ≤ 100000)
    (hv : w.heap[vb]? = some (.cells #[.string f] 9 (0, 0))) (hvg : ∀ g, A = some ⟨g, 0, none⟩ → vb ≠ g) (hi : i ≤ fs.length) :
    Calls Tryz.prog 116 #[.slice A fs.length c, .int .i64 i, .slice (some ⟨vb, 0, none⟩) 1 vc] w (InsToS B A (insS fs i f) w) := by
  by_cases he : i = fs.length
  · subst he
    have e : insS fs fs.length f = fs ++ [f] := by unfold insS; rw [List.take_length, List.drop_length]
    rw [e]
    exact ins_endS B A fs c vb vc f w hown hB hn (by simp [World.cell?, hv])
  · obtain ⟨g, rfl⟩ : ∃ g, A = some ⟨g, 0, none⟩ := by
      rcases hown.2 with ⟨e, h0⟩ | ⟨g, cap, cur, e, _⟩
      · omega
      · injection e with e1
        exact ⟨g, e1⟩
    by_cases hr : fs.length + 1 ≤ c
    · exact ins_roomS B g fs c vb vc i f w hown hn hv (hvg g rfl) (by omega) hr
    · exact ins_growS B g fs c vb vc i f w hown hn hB hv (by omega) (by omega)
end Go.Proofs.YteimdhkajbldjaaGreat

namespace Go.Proofs.YteimdhkajbldjaaGreat
open Go.RowKit Go.Shelf Go.Sort

/-- the names without the i-th -/
def delS (l : List ByteArray) (i : Nat) : List ByteArray := l.take i ++ l.drop (i + 1)
theorem delS_len {l : List ByteArray} {i : Nat} (h : i < l.length) : (delS l i).length = l.length - 1 := by
  unfold delS
  rw [List.length_append, List.length_take, List.length_drop]
  omega
def DelTo (B : Nat) (A : Option Addr) (c : Nat) (l : List ByteArray) (w : World) (e : Ending) (w' : World) : Prop :=
  e = .returned (.slice A l.length c) ∧ OwnS B w' (.slice A l.length c) l ∧ Below B w w' ∧ ∀ b, b < w.heap.size → A ≠ some ⟨b, 0, none⟩ → w'.heap[b]? = w.heap[b]?

theorem del_isS {B k : Nat} (A : Option Addr) (c i : Nat) (l : List ByteArray) (w : World) (ho : OwnS B w (.slice A k c) l) (hl : l.length = k) (hk : k ≤ 100000) (hi : i < k) (hB : B ≤ w.heap.size) :
    Calls Tryz.prog 120 #[.slice A k c, .int .i64 (i : Int), .int .i64 ((i + 1 : Nat) : Int)] w (DelTo B A c (delS l i) w) := by
  subst hl
  rcases ho.2 with ⟨e1, h0⟩ | ⟨g, c', cur, e1, hbase, hgb, r1, r2, r3, r4⟩
  · omega
  · injection e1 with ea ek ec
    subst ea ec
    obtain ⟨zs, hzs⟩ : ∃ zs, (l.map fun s => s.data.toList) = zs := ⟨_, rfl⟩
    have hzl : zs.length = l.length := by rw [← hzs, List.length_map]
    have hH : Holds encStr w g 0 zs.toArray := by
      rw [← hzs]
      exact holds_of_block hgb (by rw [map_enc]; simpa [cellsS] using r4)
    have hd := Any.slices_Delete_string Tryz.lays24 g 0 c i (i + 1) zs w hH (by rw [hzl]; exact r1) (by unfold maxLen at r2; omega) (by omega) (by rw [hzl]; omega)
    rw [hzl, show i + 1 - i = 1 by omega] at hd
    have hdl := delS_len hi
    unfold DelTo
    rw [hdl]
    refine hd.mono fun e w' ⟨he, q, hw⟩ => ?_
    have htl : zs.length = (zs.take i ++ zs.drop (i + 1) ++ List.replicate 1 []).length := by
      rw [List.length_append, List.length_append, List.length_take, List.length_drop, List.length_replicate, hzl]
      omega
    have hrow4 := ownsRow_sorted (w := w) (n := q) (os := #[]) (ss := zs) (ts := zs.take i ++ zs.drop (i + 1) ++ List.replicate 1 []) (e := 9) (base := B) (cap := c) htl.symm hbase hgb (by rw [hzl]; exact r1) r2 r3
    have hg4 : w.grownBy (grow (putRow encStr (Sort.ahead w q) g 0 (zs.take i ++ zs.drop (i + 1) ++ List.replicate 1 []).toArray) #[]) (some g) := grownBy_sorted _
    rw [grow_empty, ← hw] at hrow4 hg4
    refine ⟨he, ?_, (Below.refl B w).grown hg4 hB (fun j hj => by cases hj; exact hbase), fun b hb hne => hg4.block b hb fun e => hne (by cases e; rfl)⟩
    have hcut : ((zs.take i ++ zs.drop (i + 1) ++ List.replicate 1 []).map encStr).take (l.length - 1) = cellsS (delS l i) := by
      rw [List.map_append, List.take_left' (by rw [List.length_map, List.length_append, List.length_take, List.length_drop, hzl]; omega)]
      unfold cellsS delS
      rw [List.map_append, List.map_append, List.map_take, List.map_drop, List.map_take, List.map_drop, ← hzs, map_enc]
    unfold OwnS
    rw [hdl, ← hcut]
    rcases hrow4.2 with ⟨e1, _⟩ | ⟨g', cap', cur', e1, hb', hh', k1, k2, k3, k4⟩
    · cases e1
    · injection e1 with ea _ ec
      injection ea with ea
      injection ea with ea
      subst ea ec
      refine ⟨by rw [List.length_take, hrow4.1, hzl]; omega, .inr ⟨g, c, cur', rfl, hb', hh', by omega, k2, k3, ?_⟩⟩
      rw [← k4, List.take_take, Nat.mul_one, hzl, Nat.mul_one]
      congr 1
      omega
end Go.Proofs.YteimdhkajbldjaaGreat

namespace Go.Proofs.YteimdhkajbldjaaGreat
open Go.ChangeMaps Go.MapKept Go.WideShapes
open Go.WideElems (Fit rd rg pl rd_key rd_val rg_of rd_mk other_key)
open Go.Maps (Keyed)

theorem ranges_put {H : Type} {P : Program} {k t e : TypeId} {R : Value → Option (DataW H × List MemPlace)} {w : World} {b r n cnt : Nat} {D : DataW H} {left : Lit → Bool} (h : w.ranges P k R b r n D left cnt) (K : Keyed P k)
    (ht : P.underlying t = some (.map k e)) (hn : n < maxLen) {key val : Value} {kl : Lit} {d z : DataW H} {ps : List MemPlace} (hkey : keyOf P k key = some kl) (hv : R val = some (d, ps)) (hat : D.atKey kl z ≠ z) :
    ∃ w', (Instr.mapUpdate t (.map (some b)) key val).run P w = .ok () w' ∧ w'.ranges P k R b r n (D.put kl d) left cnt ∧ w.grownBy w' (some b) := by
  have hne := h.ne
  obtain ⟨es, clock, since, seen, c0, hb, F, hs, hD, hr, hold, hcnt, hl1, hl2, hsc, hsk⟩ := h
  have hroom := Nat.lt_of_le_of_lt hs hn
  obtain ⟨es', clock', hrun', F', hput, _, _, _⟩ := Maps.fit_store (R' := R) K ht hb F hroom (fun _ _ _ _ hz => hz) hkey hv
  rcases K.find w hkey es.toList F.keys with ⟨h1, h2⟩ | ⟨j, e0, h1, h2, h3⟩
  · exfalso
    apply hat
    rw [hD]
    refine (atKey_sorted (es.toList.map (rg P k R)) (Maps.fit_rising K F) kl (K.key hkey)).1 (fun p hp he => ?_) _
    obtain ⟨x, hx, rfl⟩ := List.mem_map.1 hp
    obtain ⟨y, hy⟩ := F.reads x hx
    rw [rg_of hy] at he
    exact h2 x hx (K.inj (he ▸ rd_key hy) hkey)
  · have hj : es[j]? = some e0 := by simpa using h2
    have hjl : j < es.toList.length := (List.getElem?_eq_some_iff.1 h2).1
    have hrun : (Instr.mapUpdate t (.map (some b)) key val).run P w = .ok () (setBlock w b (.map (es.modify j (fun e' => { e' with key := key, val := val })) clock)) := by
      simp [Instr.mapUpdate, run_underlying ht, MapKept.run_getObj_map hb, K.check w false hkey, h1, hj, h3, K.stays w hkey, MapKept.run_setObj_map _ hb, Result.andThen, setBlock]
    have hw : setBlock w b (.map es' clock') = setBlock w b (.map (es.modify j (fun e' => { e' with key := key, val := val })) clock) := by
      have := hrun'.symm.trans hrun
      injection this
    have hobj : (Obj.map es' clock') = .map (es.modify j (fun e' => { e' with key := key, val := val })) clock := by
      have h4 := congrArg (fun W : World => W.heap[b]?) hw
      simp only [heap_setBlock_same hb] at h4
      exact Option.some.inj h4
    injection hobj with he hc
    have hlist : es'.toList = es.toList.set j { e0 with key := key, val := val } := by rw [he, Array.toList_modify, modify_eq_set _ _ _ _ h2]
    have hrg0 : (rg P k R e0).1 = kl := by
      obtain ⟨y, hy⟩ := F.reads e0 (List.mem_of_getElem? h2)
      have h5 := rd_key hy
      rw [h3, hkey] at h5
      rw [rg_of hy]
      exact (Option.some.inj h5).symm
    have hrg1 : (rg P k R { e0 with key := key, val := val }).1 = kl := by rw [rg_of (rd_mk hkey hv)]
    have who : ∀ x ∈ es'.toList, ∃ y ∈ es.toList, y.born = x.born ∧ (rg P k R y).1 = (rg P k R x).1 := fun x hx => by
      rw [hlist] at hx
      obtain ⟨i, hi, ex⟩ := List.getElem_of_mem hx
      rw [List.getElem_set] at ex
      split at ex
      · subst ex
        exact ⟨e0, List.mem_of_getElem? h2, rfl, hrg0.trans hrg1.symm⟩
      · have hi' : i < es.toList.length := by simpa using hi
        exact ⟨x, ex ▸ List.getElem_mem hi', rfl, rfl⟩
    have back : ∀ y ∈ es.toList, ∃ x ∈ es'.toList, (rg P k R x).1 = (rg P k R y).1 := fun y hy => by
      obtain ⟨i, hi, ey⟩ := List.getElem_of_mem hy
      rw [hlist]
      by_cases hij : j = i
      · subst hij
        have : y = e0 := by
          rw [List.getElem?_eq_getElem hi, ey] at h2
          exact Option.some.inj h2
        subst this
        exact ⟨_, List.mem_iff_getElem.2 ⟨j, by simpa using hi, by simp⟩, hrg1.trans hrg0.symm⟩
      · refine ⟨y, List.mem_iff_getElem.2 ⟨i, by simpa using hi, ?_⟩, rfl⟩
        rw [List.getElem_set, if_neg hij]
        exact ey
    have hborn : es'.toList.map (·.born) = es.toList.map (·.born) := by
      rw [hlist, List.map_set]
      refine List.ext_getElem (by simp) fun i h5 h6 => ?_
      rw [List.getElem_set]
      split
      · rename_i hij
        subst hij
        rw [List.getElem_map]
        rw [List.getElem?_eq_getElem hjl] at h2
        rw [Option.some.inj h2]
      · rfl
    have hleft : ∀ a : Array MapEntry, (leftOf a seen).size = ((a.toList.map (·.born)).filter fun q => !seen.contains q).length := fun a => by
      unfold leftOf
      rw [← Array.length_toList, Array.toList_filter, List.filter_map, List.length_map]
      rfl
    have hr2 : (setBlock w b (.map es' clock')).heap[r]? = some (.mapIter (some b) since seen c0) := (heap_setBlock_other hb _ hne).trans hr
    refine ⟨_, hrun', ⟨es', clock', since, seen, c0, heap_setBlock_same hb _, F', ?_, ?_, hr2, fun x hx => ?_, ?_, fun x hx => ?_, fun kl0 hkl => ?_, hsc, by rw [hc]; exact hsk⟩, ⟨rfl, rfl, rfl, by simp [setBlock], fun i _ hi => heap_setBlock_other hb _ (fun e => hi (by rw [e]))⟩⟩
    · have : es'.size = es.size := by rw [← Array.length_toList, hlist, List.length_set, Array.length_toList]
      omega
    · rw [hD, DataW.put_eq, hput]
    · obtain ⟨y, hy, h5, _⟩ := who x hx
      rw [← h5]
      exact hold y hy
    · rw [hleft, hborn, ← hleft]
      exact hcnt
    · obtain ⟨y, hy, h5, h6⟩ := who x hx
      rw [← h5, ← h6]
      exact hl1 y hy
    · obtain ⟨y, hy, h5⟩ := hl2 kl0 hkl
      obtain ⟨x, hx, h6⟩ := back y hy
      exact ⟨x, hx, h6.trans h5⟩
end Go.Proofs.YteimdhkajbldjaaGreat

namespace Go.Proofs.YteimdhkajbldjaaGreat
open Go.RowKit Go.Sort Go.Maps

theorem lawFd : Keyed Tryz.prog 37 := Keyed.of_law (deep_law_gate laidOutAll (of_decide_eq_true (by kernel_rfl)) (of_decide_eq_true (by kernel_rfl)) (by kernel_rfl) (by kernel_rfl))
theorem keyTypeFd : Tryz.prog.keyType 37 = true := by kernel_rfl
theorem cellsFd : Tryz.prog.cellsOf 37 = 2 := by kernel_rfl
theorem fd_lits (d : Nat) (f : FieldL) (hf : f.short) : Tryz.prog.keyLits (d + 1 + 1) 37 [.string f.key, .string f.val] = some [.string f.key.data.toList, .string f.val.data.toList] := by
  unfold Program.keyLits
  rw [Tryz.underlying37]
  have h1 := str_lits d f.key hf.1
  have h2 := str_lits d f.val hf.2
  simp [cellsFd, cellsStr1, h1, h2]
theorem fd_key (f : FieldL) (hf : f.short) : ∃ k, keyOf Tryz.prog 37 f.v = some k := by
  obtain ⟨d, hd⟩ : ∃ d, Tryz.prog.types.size + 1 = d + 1 + 1 := ⟨Tryz.prog.types.size - 1, by have : 1 ≤ Tryz.prog.types.size := of_decide_eq_true (by kernel_rfl); omega⟩
  have h := fd_lits d f hf
  rw [← hd] at h
  refine ⟨.string (keyBytes [.string f.key.data.toList, .string f.val.data.toList]), ?_⟩
  unfold keyOf
  rw [Tryz.underlying37]
  have hfm : Value.formed Tryz.prog 37 f.v = true := by
    simp [Value.formed, Tryz.underlying37, cellsFd, FieldL.v]
  simp only [keyTypeFd, hfm, Bool.and_self, if_true]
  show Option.map _ (Tryz.prog.keyLits _ _ [.string f.key, .string f.val]) = _
  rw [h]
  rfl
/-- a key of that kind is a field -/
theorem fd_inv {v : Value} {k : Lit} (h : keyOf Tryz.prog 37 v = some k) : ∃ f : FieldL, v = f.v := by
  unfold keyOf at h
  rw [Tryz.underlying37] at h
  simp only [keyTypeFd, Bool.true_and] at h
  split at h
  · rename_i hf
    rw [Option.map_eq_some_iff] at h
    obtain ⟨ls, hl, _⟩ := h
    cases v with
    | agg cs =>
      unfold Program.keyLits at hl
      rw [Tryz.underlying37] at hl
      simp only [Value.formed, Tryz.underlying37, cellsFd, beq_iff_eq] at hf
      obtain ⟨l⟩ := cs
      match l, hf with
      | [a, b], _ =>
        simp only [Value.cells] at hl
        simp [cellsFd, cellsStr1, List.mapM_cons, bind, Option.bind_eq_some_iff] at hl
        obtain ⟨y, hy, _, ⟨z, hz, _⟩, _⟩ := hl
        obtain ⟨s, e1, _⟩ := keyLits_string' Tryz.underlying9 hy
        obtain ⟨n, e2, _⟩ := keyLits_string' Tryz.underlying9 hz
        cases e1
        cases e2
        exact ⟨⟨s, n⟩, rfl⟩
    | _ => simp [Value.formed, Tryz.underlying37] at hf
  · cases h
theorem fd_inj {f g : FieldL} {k : Lit} (hf : keyOf Tryz.prog 37 f.v = some k) (hg : keyOf Tryz.prog 37 g.v = some k) : f = g := by
  have := lawFd.inj hf hg
  simp only [FieldL.v, Value.agg.injEq, Array.mk.injEq, List.cons.injEq, Value.string.injEq, and_true] at this
  obtain ⟨a, b⟩ := f
  obtain ⟨c, d⟩ := g
  simp only at this
  rw [this.1, this.2]

abbrev mIdx (w : World) (b n : Nat) (D : DataW Value) := w.ownsMap Tryz.prog 37 rawE b n D
/-- the slices in a map of fields to names: V f is what stands at f, X f the names that it holds, H f whether there is an entry -/
structure IRows (B : Nat) (w : World) (X : SaysX) (H : FieldL → Bool) (V : FieldL → Value) : Prop where
  row : ∀ f, OwnS B w (V f) (X f)
  ap : ∀ f g, f ≠ g → (V f).ownBlock = none ∨ (V f).ownBlock ≠ (V g).ownBlock
  off : ∀ f, H f = false → X f = []
/-- what a reading of the map says -/
def Reads (D : DataW Value) (H : FieldL → Bool) (V : FieldL → Value) : Prop := ∀ (f : FieldL) (k : Lit), keyOf Tryz.prog 37 f.v = some k → D.atKey k (.held nilS) = .held (V f) ∧ Maps.has D k = H f
structure IMap (w : World) (B b n : Nat) (X : SaysX) (H : FieldL → Bool) (V : FieldL → Value) : Prop where
  m : ∃ D, mIdx w b n D ∧ Reads D H V
  rows : IRows B w X H V
  lt : b < B
theorem IRows.below {B : Nat} {w w' : World} {X : SaysX} {H : FieldL → Bool} {V : FieldL → Value} (h : IRows B w X H V) (hb : Below w.heap.size w w') : IRows B w' X H V := ⟨fun f => (h.row f).below hb, h.ap, h.off⟩
theorem IMap.below {w w' : World} {B b n : Nat} {X : SaysX} {H : FieldL → Bool} {V : FieldL → Value} (h : IMap w B b n X H V) (hb : Below w.heap.size w w') : IMap w' B b n X H V := by
  obtain ⟨D, h1, k1⟩ := h.m
  exact ⟨⟨D, h1.kept (grown_of_below hb) (by simp), k1⟩, h.rows.below hb, h.lt⟩
theorem IMap.mlt {w : World} {B b n : Nat} {X : SaysX} {H : FieldL → Bool} {V : FieldL → Value} (h : IMap w B b n X H V) : b < w.heap.size := by
  obtain ⟨D, h1, _⟩ := h.m
  exact h1.lt
theorem imap_made (w : World) : IMap (w.alloc (.map #[] 0)) (w.heap.size + 1) w.heap.size 0 (fun _ => []) (fun _ => false) (fun _ => nilS) :=
  ⟨⟨.map [], World.ownsMap_made w _ _ _, fun f k _ => ⟨rfl, rfl⟩⟩, ⟨fun f => World.ownsRow_nil _ _ _ _, fun f g _ => .inl rfl, fun f _ => rfl⟩, by omega⟩
theorem zeroStrs (w : World) : (zeroValue 33).run Tryz.prog w = .ok nilS w := by kernel_rfl
theorem IMap.look {w : World} {B b n : Nat} {X : SaysX} {H : FieldL → Bool} {V : FieldL → Value} (h : IMap w B b n X H V) {f : FieldL} (hf : f.short) :
    (Instr.lookup 126 (.map (some b)) f.v false).run Tryz.prog w = .ok (V f) w := by
  obtain ⟨D, h1, k1⟩ := h.m
  obtain ⟨k, hk⟩ := fd_key f hf
  obtain ⟨v, ps, hrun, hv⟩ := h1.lookup lawFd Tryz.underlying126 (zeroStrs w) (zd := .held nilS) (zp := []) rfl hk
  rw [(k1 f k hk).1] at hv
  have e : v = V f := by
    have := congrArg (fun o => o.map Prod.fst) hv
    simp [rawE] at this
    exact this
  rw [e] at hrun
  exact hrun
/-- one value more -/
def putV (V : FieldL → Value) (f : FieldL) (v : Value) : FieldL → Value := fun g => if g = f then v else V g
def putX (X : SaysX) (f : FieldL) (l : List ByteArray) : SaysX := fun g => if g = f then l else X g
def putH (H : FieldL → Bool) (f : FieldL) : FieldL → Bool := fun g => if g = f then true else H g
theorem Reads.put {w : World} {b n : Nat} {D : DataW Value} {H : FieldL → Bool} {V : FieldL → Value} (h : Reads D H V) (hm : mIdx w b n D) {f : FieldL} {k : Lit} (hk : keyOf Tryz.prog 37 f.v = some k) (v : Value) : Reads (D.put k (.held v)) (putH H f) (putV V f v) := fun g kg hg => by
  unfold putH putV
  by_cases e : g = f
  · subst e
    rw [if_pos rfl, if_pos rfl]
    rw [hk] at hg
    cases hg
    exact ⟨atKey_put_same hm.isMap (lawFd.key hk) _ _, has_put_same hm.isMap (lawFd.key hk) _⟩
  · have hne : kg ≠ k := fun ek => e (fd_inj hg (by rw [ek]; exact hk))
    rw [if_neg e, if_neg e, atKey_put_other hne, has_put_other hne]
    exact h g kg hg
/-- the slices when that at f has become v', which holds l: w5 is the world in which v' was made, w6 that in which it stands in the map -/
theorem IRows.put {B b : Nat} {w w5 w6 : World} {X : SaysX} {H : FieldL → Bool} {V : FieldL → Value} (h : IRows B w X H V) (hlt : b < B) (f : FieldL) {v' : Value} {l : List ByteArray} (hrow : OwnS B w5 v' l) (hg : w.grownBy w5 (V f).ownBlock)
    (hloc : (V f).ownBlock = v'.ownBlock ∨ ∀ g, v'.ownBlock = some g → w.heap.size ≤ g) (hg6 : w5.grownBy w6 (some b)) : IRows B w6 (putX X f l) (putH H f) (putV V f v') := by
  have hVb : ∀ g, (V g).ownBlock = none ∨ (V g).ownBlock ≠ some b := fun g => by
    cases hv : (V g).ownBlock with
    | none => exact .inl rfl
    | some k => exact .inr fun e => by have := (World.ownsRow.lt (h.row g) k hv).1; cases e; omega
  have hv'b : v'.ownBlock = none ∨ v'.ownBlock ≠ some b := by
    cases hv : v'.ownBlock with
    | none => exact .inl rfl
    | some k => exact .inr fun e => by have := (World.ownsRow.lt hrow k hv).1; cases e; omega
  have hnew : ∀ j, j ≠ f → (V j).ownBlock = none ∨ (V j).ownBlock ≠ v'.ownBlock := fun j hj => by
    rcases hloc with e | e
    · rw [← e]; exact h.ap j _ hj
    · cases hv : (V j).ownBlock with
      | none => exact .inl rfl
      | some k => exact .inr fun e2 => by have h7 := (World.ownsRow.lt (h.row j) k hv).2; have h8 := e k e2.symm; omega
  refine ⟨fun g => ?_, fun i j hij => ?_, fun g hg => ?_⟩
  · unfold putX putV
    by_cases e : g = f
    · rw [if_pos e, if_pos e]
      exact World.ownsRow.kept hrow hg6 hv'b
    · rw [if_neg e, if_neg e]
      exact World.ownsRow.kept (World.ownsRow.kept (h.row g) hg (h.ap g _ e)) hg6 (hVb g)
  · unfold putV
    by_cases e1 : i = f
    · rw [if_pos e1]
      by_cases e2 : j = f
      · exact absurd (e1.trans e2.symm) hij
      · rw [if_neg e2]
        rcases hnew j e2 with e | e
        · cases hv : v'.ownBlock with
          | none => exact .inl rfl
          | some k => exact .inr (by rw [e]; simp)
        · exact .inr e.symm
    · rw [if_neg e1]
      by_cases e2 : j = f
      · rw [if_pos e2]
        exact hnew i e1
      · rw [if_neg e2]
        exact h.ap i j hij
  · unfold putX
    unfold putH at hg
    by_cases e : g = f
    · rw [if_pos e] at hg
      cases hg
    · rw [if_neg e] at hg ⊢
      exact h.off g hg
/-- m[f] = v' -/
theorem IMap.store {w w5 : World} {B b n : Nat} {X : SaysX} {H : FieldL → Bool} {V : FieldL → Value} (h : IMap w B b n X H V) (hn : n < maxLen) {f : FieldL} (hf : f.short) {v' : Value} {l : List ByteArray} (hrow : OwnS B w5 v' l) (hg : w.grownBy w5 (V f).ownBlock)
    (hloc : (V f).ownBlock = v'.ownBlock ∨ ∀ g, v'.ownBlock = some g → w.heap.size ≤ g) :
    ∃ w6, (Instr.mapUpdate 126 (.map (some b)) f.v v').run Tryz.prog w5 = .ok () w6 ∧ Hid (IMap w6 B b (n + 1) (putX X f l) (putH H f) (putV V f v')) ∧ Hid (w5.grownBy w6 (some b)) := by
  obtain ⟨D, h1, k1⟩ := h.m
  obtain ⟨k, hk⟩ := fd_key f hf
  have hVb : some b ≠ (V f).ownBlock := fun e => by
    have := (World.ownsRow.lt (h.rows.row f) b e.symm).1
    have := h.lt
    omega
  have hb5 : mIdx w5 b n D := h1.kept hg hVb
  obtain ⟨w6, hrun, ho, hg6⟩ := hb5.update lawFd Tryz.underlying126 hn (key := f.v) (val := v') (d := .held v') (ps := []) hk rfl
  exact ⟨w6, hrun, ⟨⟨_, ho, k1.put hb5 hk v'⟩, h.rows.put h.lt f hrow hg hloc hg6, h.lt⟩, hg6⟩
end Go.Proofs.YteimdhkajbldjaaGreat

namespace Go.Proofs.YteimdhkajbldjaaGreat
open Go.RowKit Go.Sort Go.Maps

/-- block p is an index that says X; all that is its own lies from block S on; its map has at most M entries -/
inductive Idx (w : World) (S p M : Nat) (X : SaysX) : Prop
  | bare (c0 : w.cell? ⟨p, 0, none⟩ = some (.map none)) (f0 : w.frozen? ⟨p, 0, none⟩ = false) (hp : S ≤ p) (h : ∀ f, X f = [])
  | full (c0 : ∃ b, w.cell? ⟨p, 0, none⟩ = some (.map (some b)) ∧ w.frozen? ⟨p, 0, none⟩ = false ∧ S ≤ p ∧ p < b ∧ ∃ B n H V, n ≤ M ∧ IMap w B b n X H V ∧ ∀ f, H f = true → X f ≠ [] ∧ isFd f = true)

theorem Idx.below {w w' : World} {S p M : Nat} {X : SaysX} (h : Idx w S p M X) (hb : Below w.heap.size w w') : Idx w' S p M X := by
  obtain ⟨hc, hf⟩ := bcell hb
  cases h with
  | bare c0 f0 hp h => exact .bare ((hc _ _ (cell_lt c0)).trans c0) ((hf _ _ (cell_lt c0)).trans f0) hp h
  | full h =>
    obtain ⟨b, c0, f0, h1, h2, B, n, H, V, h3, h4, h5⟩ := h
    exact .full ⟨b, (hc _ _ (cell_lt c0)).trans c0, (hf _ _ (cell_lt c0)).trans f0, h1, h2, B, n, H, V, h3, h4.below hb, h5⟩

theorem look_nil (w : World) {f : FieldL} (hf : f.short) : (Instr.lookup 126 (.map none) f.v false).run Tryz.prog w = .ok nilS w := by
  obtain ⟨k, hk⟩ := fd_key f hf
  have hz := zeroStrs w
  have hc := lawFd.check w true hk
  have hfn : (Instr.findKey 37 f.v []).run Tryz.prog w = .ok none w := by
    rcases lawFd.find w hk [] (fun e h => by cases h) with ⟨h, _⟩ | ⟨j, e, _, h, _⟩
    · exact h
    · simp at h
  simp [Instr.lookup, run_underlying Tryz.underlying126, hz, hc, hfn, Result.andThen]

/-- what is looked up: in whatever world in which the heap is as it is here -/
theorem Idx.look {w : World} {S p M : Nat} {X : SaysX} (h : Idx w S p M X) {f : FieldL} (hf : f.short) :
    ∃ m A k c, w.cell? ⟨p, 0, none⟩ = some (.map m) ∧ Hid ((X f).length = k) ∧ Hid (SlS w A (X f)) ∧ Hid (k ≤ maxLen) ∧ ∀ d, (Instr.lookup 126 (.map m) f.v false).run Tryz.prog (w.drewN d) = .ok (.slice A k c) (w.drewN d) := by
  cases h with
  | bare c0 f0 hp h =>
    refine ⟨none, none, 0, 0, c0, by rw [h f]; rfl, by rw [h f]; exact SlS.nil _ _, Nat.zero_le _, fun d => look_nil _ hf⟩
  | full h =>
    obtain ⟨b, c0, f0, h1, h2, B, n, H, V, h3, h4, h5⟩ := h
    obtain ⟨A, c, hv⟩ := (h4.rows.row f).form
    have ho := h4.rows.row f
    rw [hv] at ho
    obtain ⟨k1, k2, k3⟩ := OwnS.sl ho
    refine ⟨some b, A, _, c, c0, rfl, k1, Nat.le_trans k2 k3, fun d => ?_⟩
    have h6 := (h4.below (below_drewN (Below.refl _ _) d)).look hf
    rw [hv] at h6
    exact h6

def byX (X : SaysX) (f : FieldL) : List ByteArray := if isFd f = true then X f else []
def byE (f : FieldL) : Int := if isFd f = true then 0 else 3
theorem vl_max {s : ByteArray} (h : isVl s = true) : s.size ≤ maxLen := by
  unfold isVl at h
  simp only [Bool.and_eq_true, decide_eq_true_eq] at h
  exact Nat.le_trans h.1 (by unfold maxLen; omega)
theorem short_fd {f : FieldL} (h : isFd f = true) : f.short := by
  unfold isFd at h
  rw [Bool.and_eq_true] at h
  exact ⟨nm_max h.1, vl_max h.2⟩

set_option maxHeartbeats 2000000 in
theorem idxBy_is {S p M : Nat} {X : SaysX} {L : List ByteArray} {er : Int} (f : FieldL) (w : World) (h : Idx w S p M X) (hlen : (X f).length ≤ 1000000) (hL : byX X f = L) (he : byE f = er) :
    Calls Tryz.prog 39 #[.pointer (some ⟨p, 0, none⟩), f.v] w (StrsTo L er w) := by
  have hA : Below w.heap.size w (w.alloc (.cells #[.string f.key, .string f.val] 37)) := (Below.refl _ _).alloc (Nat.le_refl _) _
  have HA := Lib.hid hA
  obtain ⟨tk, htk⟩ : ∃ tk, isNm f.key = tk := ⟨_, rfl⟩
  obtain ⟨tv, htv⟩ : ∃ tv, isVl f.val = tv := ⟨_, rfl⟩
  have HK := Lib.hid htk
  have HV := Lib.hid htv
  have HI := Lib.hid h
  have HE := Lib.hid he
  have HL := Lib.hid hL
  have HLN := Lib.hid hlen
  clear h hlen hL he htk htv hA
  go_enter Tryz.func39, Tryz.ntmps39
  go_wp2_with fail
  refine (id_is f.key _ HK.out).mono ?_
  rintro e w2 ⟨rfl, hb2⟩
  have k0 : w2.cell? ⟨w.heap.size, 0, none⟩ = some (.string f.key) := (hb2.cell (p := ⟨w.heap.size, 0, none⟩) (by simp)).trans (by simp [go_sem])
  have k1 : w2.cell? ⟨w.heap.size, 1, none⟩ = some (.string f.val) := (hb2.cell (p := ⟨w.heap.size, 1, none⟩) (by simp)).trans (by simp [go_sem])
  have HB2 := Lib.hid (HA.out.trans (hb2.mono HA.out.size))
  clear hb2
  cases tk with
  | false =>
    have hf : isFd f = false := by unfold isFd; rw [HK.out]; rfl
    have hl0 : L = [] := by rw [← HL.out]; unfold byX; rw [hf]; rfl
    have he3 : er = 3 := by rw [← HE.out]; unfold byE; rw [hf]; rfl
    subst hl0 he3
    clear hf
    go_wp2_with fail
    go_ret2
    exact ⟨none, 0, 0, rfl, rfl, World.ownsRow_nil _ _ _ _, HB2.out⟩
  | true =>
    go_wp2_with fail
    refine (value_is f.val _ HV.out).mono ?_
    rintro e w3 ⟨rfl, hb3⟩
    have r0 := (hb3.cell (p := ⟨w.heap.size, 0, none⟩) (cell_lt k0)).trans k0
    have r1 := (hb3.cell (p := ⟨w.heap.size, 1, none⟩) (cell_lt k0)).trans k1
    have HB3 := Lib.hid (HB2.out.trans (hb3.mono HB2.out.size))
    clear hb3 k0 k1
    cases tv with
    | false =>
      have hf : isFd f = false := by unfold isFd; rw [HV.out]; simp
      have hl0 : L = [] := by rw [← HL.out]; unfold byX; rw [hf]; rfl
      have he3 : er = 3 := by rw [← HE.out]; unfold byE; rw [hf]; rfl
      subst hl0 he3
      clear hf
      go_wp2_with fail
      go_ret2
      exact ⟨none, 0, 0, rfl, rfl, World.ownsRow_nil _ _ _ _, HB3.out⟩
    | true =>
      have hf : isFd f = true := by unfold isFd; rw [HK.out, HV.out]; rfl
      have hl0 : X f = L := by rw [← HL.out]; unfold byX; rw [if_pos hf]
      have he3 : er = 0 := by rw [← HE.out]; unfold byE; rw [if_pos hf]
      subst he3
      obtain ⟨m, A, k, c, c0, HK2, HS2, HM2, hlook⟩ := (HI.out.below HB3.out).look (short_fd hf)
      rw [hl0] at HK2 HS2 HLN
      have hk2 := HK2.out
      subst hk2
      have l0 : (Instr.lookup 126 (.map m) (.agg #[.string f.key, .string f.val]) false).run Tryz.prog w3.drew = .ok (.slice A L.length c) w3.drew := hlook 1
      have HCL := Lib.hid (cloneS_any A L c w3.drew (show SlS w3.drew A L from HS2.out) HLN.out)
      clear hf hl0 hlook
      go_wp2_with fail
      go_region_with (go_at_call 37; refine HCL.out.mono ?_; rintro e w' ⟨A', c', rfl, ho', hb'⟩)
      all_goals
        have ho2 : OwnS w.heap.size w' (.slice A' L.length c') L := own_low ho' HB3.out.size
        have hbz : Below w.heap.size w w' := HB3.out.trans (((Below.refl w3.heap.size w3).drew.trans hb').mono HB3.out.size)
        have HO := Lib.hid ho2
        have HBZ := Lib.hid hbz
        clear ho' hb' ho2 hbz
        go_wp2_with fail
        go_ret2
        exact ⟨A', L.length, c', rfl, rfl, HO.out, HBZ.out⟩
end Go.Proofs.YteimdhkajbldjaaGreat

namespace Go.Proofs.YteimdhkajbldjaaGreat
open Go.RowKit Go.Sort Go.Maps

theorem raw_inv (v : Value) (y : DataW Value × List MemPlace) (h : rawE v = some y) : y = (.held v, []) := by
  unfold rawE at h
  exact (Option.some.inj h).symm

/-- the fields that a range has met: each once, and none that is still to come -/
structure Met (H : FieldL → Bool) (left : Lit → Bool) (fs : List FieldL) : Prop where
  nodup : fs.Nodup
  sound : ∀ f ∈ fs, H f = true ∧ ∃ k, keyOf Tryz.prog 37 f.v = some k ∧ left k = false
  full : ∀ f k, keyOf Tryz.prog 37 f.v = some k → H f = true → left k = true ∨ f ∈ fs
theorem Met.start {D : DataW Value} {H : FieldL → Bool} {V : FieldL → Value} (h : Reads D H V) : Met H (Maps.has D) [] :=
  ⟨List.nodup_nil, fun f hf => (by cases hf), fun f k hk hH => .inl (by rw [(h f k hk).2]; exact hH)⟩
theorem Met.step {H : FieldL → Bool} {left : Lit → Bool} {fs : List FieldL} {f : FieldL} {k : Lit} (h : Met H left fs) (hk : keyOf Tryz.prog 37 f.v = some k) (hl : left k = true) (hH : H f = true) :
    Met H (fun z => left z && !z.sameKey k) (fs ++ [f]) := by
  have hnot : f ∉ fs := fun hf => by
    obtain ⟨_, k', hk', h2⟩ := h.sound f hf
    rw [hk] at hk'
    cases hk'
    rw [hl] at h2
    cases h2
  refine ⟨List.nodup_append.2 ⟨h.nodup, List.nodup_cons.2 ⟨by simp, List.nodup_nil⟩, fun a ha b hb => ?_⟩, fun g hg => ?_, fun g kg hkg hHg => ?_⟩
  · rw [List.mem_singleton] at hb
    subst hb
    exact fun e => hnot (e ▸ ha)
  · rcases List.mem_append.1 hg with hg | hg
    · obtain ⟨h1, k', h2, h3⟩ := h.sound g hg
      exact ⟨h1, k', h2, by simp [h3]⟩
    · rw [List.mem_singleton] at hg
      subst hg
      exact ⟨hH, k, hk, by simp [WideAt.sameKey_self (lawFd.key hk)]⟩
  · rcases h.full g kg hkg hHg with h1 | h1
    · by_cases e : g = f
      · exact .inr (by simp [e])
      · refine .inl ?_
        have hne : kg.sameKey k = false := Maps.sameKey_ne fun ek => e (fd_inj hkg (by rw [ek]; exact hk))
        simp [h1, hne]
    · exact .inr (by simp [h1])

theorem countOf_cons (X : SaysX) (f : FieldL) (fs : List FieldL) : countOf X (f :: fs) = (X f).length + countOf X fs := by
  unfold countOf
  rw [List.map_cons, List.sum_cons]
theorem countOf_le {X : SaysX} : ∀ {fs gs : List FieldL}, fs.Nodup → (∀ f ∈ fs, f ∈ gs) → countOf X fs ≤ countOf X gs
  | [], gs, _, _ => by rw [countOf_nil]; exact Nat.zero_le _
  | a :: r, gs, hn, hs => by
    obtain ⟨h1, h2⟩ := List.nodup_cons.1 hn
    have hp := List.perm_cons_erase (hs a (by simp))
    rw [countOf_perm hp, countOf_cons, countOf_cons]
    have := countOf_le (X := X) (gs := gs.erase a) h2 fun f hf => (List.mem_erase_of_ne (fun e => h1 (by rw [← e]; exact hf))).2 (hs f (by simp [hf]))
    omega

end Go.Proofs.YteimdhkajbldjaaGreat

namespace Go.Proofs.YteimdhkajbldjaaGreat
open Go.RowKit Go.Sort Go.Maps

theorem len_le {fs gs : List FieldL} (h : fs.Nodup) (hs : ∀ f ∈ fs, f ∈ gs) : fs.length ≤ gs.length := by
  have e : ∀ l : List FieldL, countOf (fun _ => [⟨#[]⟩]) l = l.length := fun l => by
    induction l with
    | nil => rfl
    | cons a r ih =>
      rw [countOf_cons, ih, List.length_cons]
      show 1 + r.length = r.length + 1
      omega
  rw [← e fs, ← e gs]
  exact countOf_le h hs
def KeysTo (X : SaysX) (w : World) (e : Ending) (w' : World) : Prop := ∃ A k c ks, e = .returned (.slice A k c) ∧ IsKeys X ks ∧ Hid (ks.length = k) ∧ Hid (SlS w' A ks) ∧ Hid (k ≤ maxLen) ∧ Hid (Below w.heap.size w w')
theorem idxkeys_of {X : SaysX} {fs : List FieldL} (h : Lists X fs) : IsKeys X (sortedN (fs.map (·.key))) := by
  have := h.keys
  rw [sortedN_eq, List.map_map]
  exact this

set_option maxHeartbeats 4000000 in
theorem idxKeys_is {S p M : Nat} {X : SaysX} {gs : List FieldL} (w : World) (h : Idx w S p M X) (hgs : Lists X gs) (hlen : gs.length ≤ 50000) :
    Calls Tryz.prog 40 #[.pointer (some ⟨p, 0, none⟩)] w (KeysTo X w) := by
  cases h with
  | bare c0 f0 hp h =>
    have hl : Lists X [] := ⟨List.nodup_nil, fun f => by simp [h f]⟩
    have HL := Lib.hid hl
    have e1 := run_range_nilMap (P := Tryz.prog) w _ _ _ Tryz.underlying126
    have e2 := fun ty => run_next_nilMap (P := Tryz.prog) w ty 0 0 #[]
    have HSC := Lib.hid (sortComp_is (B := w.heap.size) none 0 [] (w.alloc (.mapIter none 0 #[] 0)) (World.ownsRow_nil _ _ _ _) rfl (Nat.zero_le _) (by simp))
    have HA := Lib.hid (show Below w.heap.size w (w.alloc (.mapIter none 0 #[] 0)) from (Below.refl _ _).alloc (Nat.le_refl _) _)
    clear f0 hp h hl hgs hlen
    go_enter Tryz.func40, Tryz.ntmps40
    go_wp2_with fail
    go_loopw [3] (fun v wr => v = nilS ∧ wr = w.alloc (.mapIter none 0 #[] 0)) (fun _ _ => 0)
    case atStart => exact ⟨rfl, rfl⟩
    case round =>
      obtain ⟨rfl, rfl⟩ := hrel
      go_wp2_with fail
      (with_reducible refine HSC.out.mono ?_)
      rintro e w1 ⟨rfl, HB1, HCP⟩
      go_wp2_with fail
      (with_reducible refine HCP.out.mono ?_)
      rintro e w2 ⟨A, k, c, rfl, HK, HS, HM, HB2⟩
      go_wp2_with fail
      go_ret
      exact ⟨A, k, c, _, rfl, idxkeys_of HL.out, HK.out, HS.out, HM.out, HA.out.trans (HB1.out.trans HB2.out)⟩
  | full h =>
    obtain ⟨b, c0, f0, h1, h2, B, n, H, V, h3, h4, h5⟩ := h
    obtain ⟨D, hown, hrd⟩ := h4.m
    have HRD := Lib.hid hrd
    have HROW := Lib.hid h4.rows
    have H5 := Lib.hid h5
    have HGS := Lib.hid hgs
    obtain ⟨i0, hi, hz0, hz1, hz2⟩ := info_parts Tryz.infoStr
    clear hrd h4 h5 hgs f0
    go_enter Tryz.func40, Tryz.ntmps40
    go_wp2_with (at_range; refine wpList_range_own _ rfl _ 126 rfl 37 33 lawFd Tryz.underlying126 rawE b n D rfl hown ?_; intro w2 hrg0 hg0 hs0)
    go_frame
    have hB2 : Below w.heap.size w w2 := (Below.refl _ _).grown hg0 (Nat.le_refl _) (fun j hj => by cases hj)
    have HB2 := Lib.hid hB2
    have hlb := hown.lt
    obtain ⟨rr, hr⟩ : ∃ rr, rr = w.heap.size := ⟨_, rfl⟩
    rw [← hr] at hrg0 hs0 hlb ⊢
    have HRR := Lib.hid hr
    clear hg0 hB2 hr
    go_loopw [3] (fun v wq => ∃ (left : Lit → Bool) (cnt : Nat) (fs : List FieldL), OwnS (rr + 1) wq v (fs.map (·.key)) ∧ wq.ranges Tryz.prog 37 rawE b rr n D left cnt ∧ Hid (Met H left fs) ∧ Hid (Below w.heap.size w wq) ∧ rr + 1 ≤ wq.heap.size) (fun _ wq => wq.rangeLeft b rr)
    case atStart => exact ⟨_, _, [], World.ownsRow_nil _ _ _ _, hrg0, Met.start HRD.out, HB2.out, by omega⟩
    case round =>
      clear hrg0 HB2 hs0
      obtain ⟨left, cnt, fs, hos, hrg, HM, HB, hrs⟩ := hrel
      have hfl : fs.length ≤ 50000 := Nat.le_trans (len_le HM.out.nodup fun g hg => (HGS.out.mem g).2 (H5.out g (HM.out.sound g hg).1).1) hlen
      obtain ⟨q, hq⟩ : ∃ q, fs.map (·.key) = q := ⟨_, rfl⟩
      have hql : q.length ≤ 50000 := by rw [← hq, List.length_map]; exact hfl
      rw [hq] at hos
      obtain ⟨Aq, cq, rfl⟩ := hos.form
      have HQ := Lib.hid hq
      have HOS := Lib.hid hos
      clear hos hq
      go_wp2_with (at_next; refine wpList_next_ranges _ rfl _ rfl 37 lawFd rawE (fun f : FieldL => f.v) (fun v : Value => v) (fun key kl hk => by obtain ⟨f, e⟩ := fd_inv hk; exact ⟨f, e⟩) (fun v y hv => ⟨v, rfl⟩) b rr n _ _ _ rfl hrg ?_ ?_)
      · intro _ hl0
        have hl : Lists X fs := by
          refine ⟨HM.out.nodup, fun f => ⟨fun hf => (H5.out f (HM.out.sound f hf).1).1, fun hX => ?_⟩⟩
          have hH : H f = true := by
            cases hh : H f with
            | true => rfl
            | false => exact absurd (HROW.out.off f hh) hX
          obtain ⟨k, hk⟩ := fd_key f (short_fd (H5.out f hH).2)
          rcases HM.out.full f k hk hH with h6 | h6
          · rw [hl0 k] at h6
            cases h6
          · exact h6
        have hks := idxkeys_of hl
        rw [HQ.out] at hks
        have HKS := Lib.hid hks
        obtain ⟨l, hll⟩ : ∃ l, q.length = l := ⟨_, rfl⟩
        have hos2 := HOS.out
        rw [hll] at hos2 hql ⊢
        have HSC := Lib.hid (sortComp_is Aq cq q wr hos2 hll (by omega) hrs)
        have hrr2 : w.heap.size ≤ rr + 1 := by rw [HRR.out]; omega
        clear hl hks hl0 hrg HM hos2 hll
        go_wp2_with fail
        (with_reducible refine HSC.out.mono ?_)
        rintro e w4 ⟨rfl, HB4, HCP⟩
        go_wp2_with fail
        (with_reducible refine HCP.out.mono ?_)
        rintro e w5 ⟨A, k, c, rfl, HK, HSS, HMM, HB5⟩
        go_wp2_with fail
        go_ret
        exact ⟨A, k, c, _, rfl, HKS.out, HK.out, HSS.out, HMM.out, HB.out.trans ((HB4.out.trans HB5.out).mono hrr2)⟩
      · intro f c kl y ps w3 cnt' hkey hlk hv hat hrg3 hlt3 hg3 hs3 hent
        have hy : y = .held c := (Prod.mk.inj (raw_inv c (y, ps) hv)).1
        have hat2 : ∀ z, D.atKey kl z = .held c := fun z => by rw [hat z, hy]
        obtain ⟨r1, r2⟩ := HRD.out f kl hkey
        have hH : H f = true := by rw [← r2]; exact has_true_of_atKey hat2
        have HST := Lib.hid (HM.out.step hkey hlk hH)
        have hb3 : Below w.heap.size w w3 := HB.out.grown hg3 HB.out.size (fun j hj => by cases hj; rw [HRR.out]; exact Nat.le_refl _)
        have hrow3 : OwnS (rr + 1) w3 (.slice Aq q.length cq) q := World.ownsRow.kept HOS.out hg3 (by
          cases hv : (Value.slice Aq q.length cq).ownBlock with
          | none => exact .inl rfl
          | some k => exact .inr fun e => by have := (World.ownsRow.lt HOS.out k hv).1; cases e; omega)
        obtain ⟨W4, hW4⟩ : ∃ W4, W4 = (w3.alloc (.cells #[.string f.key, .string f.val] 37)).alloc (.cells #[.string f.key] 9) := ⟨_, rfl⟩
        have hb34 : Below w3.heap.size w3 W4 := by rw [hW4]; exact ((Below.refl _ _).alloc (Nat.le_refl _) _).alloc (by simp) _
        have HR1 := Lib.hid (show W4.ownsRow (rr + 1) 9 1 (.slice Aq q.length cq) q.length (cellsS q) from hrow3.below hb34)
        have hne := cell_one_at (w3.alloc (.cells #[.string f.key, .string f.val] 37)) f.key 9
        rw [World.size_alloc, ← hW4] at hne
        have HNE := Lib.hid hne
        have HB4 := Lib.hid (hb3.trans (hb34.mono hb3.size))
        have hrg4 : W4.ranges Tryz.prog 37 rawE b rr n D (fun z => left z && !z.sameKey kl) cnt' := by rw [hW4]; exact (hrg3.alloc _).alloc _
        have HRG4 := Lib.hid hrg4
        have hsz2 : rr + 1 ≤ W4.heap.size := by have := hb34.size; omega
        have HRG := Lib.hid hrg
        have HLT := Lib.hid hlt3
        have HQW := Lib.hid hrg3.left_eq
        rw [hW4] at HR1 HNE hsz2
        have HW4 := Lib.hid hW4
        clear hy hat2 r1 r2 hH hrg hrg3 hkey hlk hv hat hg3 hs3 hlt3 hb3 hrow3 hb34 hne hrg4 hW4
        go_wp2_with (at_builtin; refine wpList_append_own _ rfl _ _ 33 rfl (rr + 1) 9 i0 _ 1 16 Tryz.underlying33 hi hz0 hz1 hz2 rfl (by decide) (.slice Aq q.length cq) q.length (cellsS q) rfl HR1.out ⟨w3.heap.size + 1, 0, none⟩ 1 1 [.string f.key] rfl rfl HNE.out (by simp [Value.oneCell']) (by unfold maxLen; omega) (by omega) hsz2 ?_; intro v' w5 hown' hgrow hnv)
        rw [← HW4.out] at hgrow HR1
        have hr5 : OwnS (rr + 1) w5 v' (q ++ [f.key]) := by
          unfold OwnS cellsS
          rw [List.map_append, List.length_append]
          exact hown'
        have hlow : ∀ j, (Value.slice Aq q.length cq).ownBlock = some j → rr + 1 ≤ j := fun j hj => (World.ownsRow.lt HR1.out j hj).1
        have hB5 : Below w.heap.size w w5 := HB4.out.grown hgrow HB4.out.size (fun j hj => by have := hlow j hj; have := HRR.out; omega)
        have hrg5 : w5.ranges Tryz.prog 37 rawE b rr n D (fun z => left z && !z.sameKey kl) cnt' := HRG4.out.kept hgrow (fun e => by have := hlow b e.symm; omega) (fun e => by have := hlow rr e.symm; omega)
        have hs5 : rr + 1 ≤ w5.heap.size := by have := hgrow.size; rw [HW4.out] at this; omega
        have HR5 := Lib.hid hr5
        have HB5 := Lib.hid hB5
        have HRG5 := Lib.hid hrg5
        clear hown' hgrow hnv hr5 hlow hB5 hrg5
        go_wp2_with fail
        go_roundw
        case rel => exact ⟨_, cnt', fs ++ [f], by rw [List.map_append, HQ.out]; exact HR5.out, HRG5.out, HST.out, HB5.out, hs5⟩
        case measure => rw [HRG5.out.left_eq, HRG.out.left_eq]; exact HLT.out
end Go.Proofs.YteimdhkajbldjaaGreat

namespace Go.Proofs.YteimdhkajbldjaaGreat
open Go.RowKit Go.Sort Go.Maps Go.WideShapes
open Go.WideElems (Fit rg rd_key rg_of)

theorem has_field {w : World} {b n : Nat} {D : DataW Value} (h : mIdx w b n D) {k : Lit} (hh : has D k = true) : ∃ f : FieldL, keyOf Tryz.prog 37 f.v = some k := by
  obtain ⟨es, clock, hb, F, hs, rfl⟩ := h
  rw [has_eq, List.any_eq_true] at hh
  obtain ⟨p, hp, hk⟩ := hh
  have hp2 := (sorted_perm (es.toList.map (rg Tryz.prog 37 rawE))).subset hp
  obtain ⟨x, hx, rfl⟩ := List.mem_map.1 hp2
  obtain ⟨y, hy⟩ := F.reads x hx
  have h1 := rd_key hy
  rw [rg_of hy] at hk
  have h2 := WideAt.sameKey_eq hk
  rw [h2] at h1
  obtain ⟨f, hf⟩ := fd_inv h1
  exact ⟨f, by rw [← hf]; exact h1⟩

theorem size_same {D D' : DataW Value} (h1 : Canon D) (h2 : Canon D') (hh : ∀ k, has D k = has D' k) : size D = size D' := by
  obtain ⟨es, rfl, s1, k1⟩ := h1
  obtain ⟨es', rfl, s2, k2⟩ := h2
  rw [size_eq, size_eq]
  have mem : ∀ (l : List (Lit × DataW Value)) (k : Lit), (∀ p ∈ l, WideAt.IsKeyLit p.1) → ((k, ()) ∈ l.map (fun p => (p.1, ())) ↔ (WideAt.IsKeyLit k ∧ has (.map l) k = true)) := fun l k hl => by
    rw [has_eq, List.any_eq_true, List.mem_map]
    constructor
    · rintro ⟨p, hp, e⟩
      have e1 : p.1 = k := (Prod.mk.inj e).1
      exact ⟨e1 ▸ hl p hp, p, hp, by rw [e1]; exact WideAt.sameKey_self (e1 ▸ hl p hp)⟩
    · rintro ⟨_, p, hp, hk⟩
      exact ⟨p, hp, by rw [WideAt.sameKey_eq hk]⟩
  have : es.map (fun p => (p.1, (DataW.held (H := Value) (.bool true)))) = es'.map (fun p => (p.1, (DataW.held (H := Value) (.bool true)))) := by
    refine eq_of_mem_rising (List.pairwise_map.2 s1) (List.pairwise_map.2 s2) fun p => ?_
    have e3 : ∀ l : List (Lit × DataW Value), (p ∈ l.map (fun q => (q.1, (DataW.held (H := Value) (.bool true)))) ↔ ((p.1, ()) ∈ l.map (fun q => (q.1, ())) ∧ p.2 = DataW.held (.bool true))) := fun l => by
      simp only [List.mem_map]
      constructor
      · rintro ⟨q, hq, rfl⟩
        exact ⟨⟨q, hq, rfl⟩, rfl⟩
      · rintro ⟨⟨q, hq, e⟩, e2⟩
        refine ⟨q, hq, ?_⟩
        rw [(Prod.mk.inj e).1, ← e2]
    rw [e3, e3, mem es p.1 k1, mem es' p.1 k2, hh]
  have := congrArg List.length this
  simpa using this
/-- two maps with entries of the same fields have as many -/
theorem imap_size {w w' : World} {b n b' n' : Nat} {D D' : DataW Value} {H H' : FieldL → Bool} {V V' : FieldL → Value} (h : mIdx w b n D) (h' : mIdx w' b' n' D') (r : Reads D H V) (r' : Reads D' H' V') (hh : ∀ f, H f = H' f) : size D = size D' :=
  size_same (h.canon lawFd) (h'.canon lawFd) fun k => by
    cases e : has D k with
    | true =>
      obtain ⟨f, hf⟩ := has_field h e
      rw [(r f k hf).2] at e
      rw [(r' f k hf).2, ← hh f, e]
    | false =>
      cases e' : has D' k with
      | false => rfl
      | true =>
        obtain ⟨f, hf⟩ := has_field h' e'
        rw [(r f k hf).2] at e
        rw [(r' f k hf).2, ← hh f, e] at e'
        cases e'
theorem imap_size0 {w : World} {b n : Nat} {D : DataW Value} {H : FieldL → Bool} {V : FieldL → Value} (h : mIdx w b n D) (r : Reads D H V) (hh : ∀ f, H f = false) : size D = 0 := by
  have := size_same (h.canon lawFd) canon_empty fun k => by
    cases e : has D k with
    | true =>
      obtain ⟨f, hf⟩ := has_field h e
      rw [(r f k hf).2, hh f] at e
      cases e
    | false => rfl
  rw [this]
  rfl
end Go.Proofs.YteimdhkajbldjaaGreat

namespace Go.Proofs.YteimdhkajbldjaaGreat
open Go.RowKit Go.Sort Go.Maps

theorem IMap.look_ok {w : World} {B b n : Nat} {X : SaysX} {H : FieldL → Bool} {V : FieldL → Value} (h : IMap w B b n X H V) {f : FieldL} (hf : f.short) (hH : H f = true) :
    (Instr.lookup 126 (.map (some b)) (.agg #[.string f.key, .string f.val]) true).run Tryz.prog w = .ok (.tuple #[V f, .bool true]) w := by
  obtain ⟨D, h1, k1⟩ := h.m
  obtain ⟨k, hk⟩ := fd_key f hf
  obtain ⟨v, ps, hrun, hv⟩ := h1.look_ok lawFd Tryz.underlying126 (zeroStrs w) (zd := .held nilS) (zp := []) rfl hk
  rw [(k1 f k hk).1] at hv
  rw [(k1 f k hk).2, hH] at hrun
  have e : v = V f := by
    have := congrArg (fun o => o.map Prod.fst) hv
    simp [rawE] at this
    exact this
  rw [e] at hrun
  exact hrun

set_option maxHeartbeats 4000000 in
theorem eqFunc_some {B b n B' b' n' : Nat} {X : SaysX} {H H' : FieldL → Bool} {V V' : FieldL → Value} (w : World) (h : IMap w B b n X H V) (h' : IMap w B' b' n' X H' V') (hf : ∀ f, H f = true → X f ≠ [] ∧ isFd f = true) (hf' : ∀ f, H' f = true → X f ≠ [] ∧ isFd f = true)
    (hlen : ∀ f, (X f).length ≤ 1000000) :
    Calls Tryz.prog 89 #[.map (some b), .map (some b'), .func (.func 35) #[] #[]] w fun e w' => e = .returned (.bool true) ∧ Below w.heap.size w w' := by
  have hHH : ∀ f, H f = H' f := fun f => by
    cases e : H f with
    | true =>
      cases e' : H' f with
      | true => rfl
      | false => exact absurd (h'.rows.off f e') (hf f e).1
    | false =>
      cases e' : H' f with
      | false => rfl
      | true => exact absurd (h.rows.off f e) (hf' f e').1
  obtain ⟨D, hown, hrd⟩ := h.m
  obtain ⟨D', hown', hrd'⟩ := h'.m
  have hsz := imap_size hown hown' hrd hrd' hHH
  have l1 := fun ty => hown.len Tryz.underlying126 ty
  have l2 := fun ty => hown'.len Tryz.underlying126 ty
  rw [← hsz] at l2
  have HRD := Lib.hid hrd
  have HH := Lib.hid h
  have HH' := Lib.hid h'
  have HF := Lib.hid hf
  have HE := Lib.hid hHH
  have HLN := Lib.hid hlen
  clear hsz hrd hrd' h h' hf hf' hHH hlen hown'
  go_enter Tryz.func89, Tryz.ntmps89
  go_wp2_with (at_range; refine wpList_range_own _ rfl _ 126 rfl 37 33 lawFd Tryz.underlying126 rawE b n D rfl hown ?_; intro w2 hrg0 hg0 hs0)
  go_frame
  have hB2 : Below w.heap.size w w2 := (Below.refl _ _).grown hg0 (Nat.le_refl _) (fun j hj => by cases hj)
  have HB2 := Lib.hid hB2
  have hlb := hown.lt
  obtain ⟨rr, hr⟩ : ∃ rr, rr = w.heap.size := ⟨_, rfl⟩
  rw [← hr] at hrg0 hs0 ⊢
  have HRR := Lib.hid hr
  clear hg0 hB2 hr l1 l2 hown
  go_loopw [] (fun wq => ∃ (left : Lit → Bool) (cnt : Nat), wq.ranges Tryz.prog 37 rawE b rr n D left cnt ∧ Hid (Below w.heap.size w wq)) (fun wq => wq.rangeLeft b rr)
  case atStart => exact ⟨_, _, hrg0, HB2.out⟩
  case round =>
    clear hrg0 HB2 hs0
    obtain ⟨left, cnt, hrg, HB⟩ := hrel
    go_wp2_with (at_next; refine wpList_next_ranges _ rfl _ rfl 37 lawFd rawE (fun f : FieldL => f.v) (fun v : Value => v) (fun key kl hk => by obtain ⟨f, e⟩ := fd_inv hk; exact ⟨f, e⟩) (fun v y hv => ⟨v, rfl⟩) b rr n _ _ _ rfl hrg ?_ ?_)
    · intro _ hl0
      clear hl0 hrg
      go_wp2_with fail
      go_ret
      exact ⟨rfl, HB.out⟩
    · intro f c kl y ps w3 cnt' hkey hlk hv hat hrg3 hlt3 hg3 hs3 hent
      have hy : y = .held c := (Prod.mk.inj (raw_inv c (y, ps) hv)).1
      have hat2 : ∀ z, D.atKey kl z = .held c := fun z => by rw [hat z, hy]
      obtain ⟨r1, r2⟩ := HRD.out f kl hkey
      have hcV : c = V f := by
        have := (hat2 (.held nilS)).symm.trans r1
        injection this
      have hH : H f = true := by rw [← r2]; exact has_true_of_atKey hat2
      have hsf := short_fd (HF.out f hH).2
      have hb3 : Below w.heap.size w w3 := HB.out.grown hg3 HB.out.size (fun j hj => by cases hj; rw [HRR.out]; exact Nat.le_refl _)
      obtain ⟨A, cc, hVf⟩ := (HH.out.rows.row f).form
      obtain ⟨A', cc', hVf'⟩ := (HH'.out.rows.row f).form
      have hro := HH.out.rows.row f
      have hro' := HH'.out.rows.row f
      rw [hVf] at hro
      rw [hVf'] at hro'
      obtain ⟨W4, hW4⟩ : ∃ W4, W4 = w3.alloc (.cells #[.string f.key, .string f.val] 37) := ⟨_, rfl⟩
      have hb4 : Below w.heap.size w W4 := by rw [hW4]; exact hb3.alloc hb3.size _
      have hlk2 := (HH'.out.below hb4).look_ok hsf (by rw [← HE.out f]; exact hH)
      rw [hVf', hW4] at hlk2
      obtain ⟨s1, s2, s3⟩ := OwnS.sl hro
      obtain ⟨s1', _, s3'⟩ := OwnS.sl hro'
      have hEQ := eqS_is (b := true) A A' (X f) (X f) cc cc' W4 (s1.below hb4) (s1'.below hb4) (Nat.le_trans s2 s3) (Nat.le_trans s2 s3) (by simp)
      rw [hW4] at hEQ
      have hrg4 : W4.ranges Tryz.prog 37 rawE b rr n D (fun z => left z && !z.sameKey kl) cnt' := by rw [hW4]; exact hrg3.alloc _
      rw [hcV, hVf] at hent ⊢
      obtain ⟨l, hl⟩ : ∃ l, (X f).length = l := ⟨_, rfl⟩
      rw [hl] at hent hEQ hlk2 ⊢
      have HEQ := Lib.hid hEQ
      have HRG := Lib.hid hrg
      have HRG4 := Lib.hid hrg4
      have HB4 := Lib.hid hb4
      have HLT := Lib.hid hlt3
      have hrw : rr < W4.heap.size := by have := hrg4.lt; exact this
      rw [hW4] at HRG4 HB4 hrw
      clear hy hat2 r1 r2 hcV hH hsf hb3 hVf hVf' hro hro' hW4 hb4 s1 s2 s3 s1' s3' hEQ hl hrg hrg3 hrg4 hkey hlk hv hat hg3 hs3 hlt3
      go_wp2_with fail
      (with_reducible refine HEQ.out.mono ?_)
      rintro e w5 ⟨rfl, hb5⟩
      have hrg5 := HRG4.out.kept (row := none) (grown_of_below hb5) (by simp) (by simp)
      have hb := HB4.out.trans (hb5.mono HB4.out.size)
      have HRG5 := Lib.hid hrg5
      have HB5 := Lib.hid hb
      clear hb hrg5 hb5
      go_wp2_with fail
      go_roundw
      case rel => exact ⟨_, cnt', HRG5.out, HB5.out⟩
      case measure => rw [HRG5.out.left_eq, HRG.out.left_eq]; exact HLT.out

theorem len_nil (w : World) (ty : TypeId) : (Builtin.len_ #[126] ty #[.map none]).run Tryz.prog w = .ok (.int .i64 0) w := by
  simp [Builtin.len_, run_underlying Tryz.underlying126]
  rfl

set_option maxHeartbeats 1000000 in
theorem eqFunc_none (w : World) (m' : Option Nat) (hl : ∀ ty, (Builtin.len_ #[126] ty #[.map m']).run Tryz.prog w = .ok (.int .i64 0) w) :
    Calls Tryz.prog 89 #[.map none, .map m', .func (.func 35) #[] #[]] w fun e w' => e = .returned (.bool true) ∧ Below w.heap.size w w' := by
  have l1 := len_nil w
  have e1 := run_range_nilMap (P := Tryz.prog) w _ _ _ Tryz.underlying126
  have e2 := fun ty => run_next_nilMap (P := Tryz.prog) w ty 0 0 #[]
  go_enter Tryz.func89, Tryz.ntmps89
  go_wp2_with fail
  go_rounds 1
  go_ret
  exact ⟨rfl, (Below.refl _ _).alloc (Nat.le_refl _) _⟩

set_option maxHeartbeats 2000000 in
theorem eqFunc_empty {B b n : Nat} {X : SaysX} {H : FieldL → Bool} {V : FieldL → Value} (w : World) (h : IMap w B b n X H V) (hH : ∀ f, H f = false) :
    Calls Tryz.prog 89 #[.map (some b), .map none, .func (.func 35) #[] #[]] w fun e w' => e = .returned (.bool true) ∧ Below w.heap.size w w' := by
  obtain ⟨D, hown, hrd⟩ := h.m
  have l2 := len_nil w
  have l1 := fun ty => hown.len Tryz.underlying126 ty
  rw [imap_size0 hown hrd hH] at l1
  have l1' : ∀ ty, (Builtin.len_ #[126] ty #[.map (some b)]).run Tryz.prog w = .ok (.int .i64 0) w := l1
  have HRD := Lib.hid hrd
  have HH := Lib.hid hH
  clear hrd h hH l1
  go_enter Tryz.func89, Tryz.ntmps89
  go_wp2_with (at_range; refine wpList_range_own _ rfl _ 126 rfl 37 33 lawFd Tryz.underlying126 rawE b n D rfl hown ?_; intro w2 hrg0 hg0 hs0)
  go_frame
  have hB2 : Below w.heap.size w w2 := (Below.refl _ _).grown hg0 (Nat.le_refl _) (fun j hj => by cases hj)
  have HB2 := Lib.hid hB2
  obtain ⟨rr, hr⟩ : ∃ rr, rr = w.heap.size := ⟨_, rfl⟩
  rw [← hr] at hrg0 hs0 ⊢
  clear hg0 hB2 hr l1' l2 hown
  go_loopw [] (fun wq => ∃ (left : Lit → Bool) (cnt : Nat), wq.ranges Tryz.prog 37 rawE b rr n D left cnt ∧ Hid (Below w.heap.size w wq)) (fun wq => wq.rangeLeft b rr)
  case atStart => exact ⟨_, _, hrg0, HB2.out⟩
  case round =>
    clear hrg0 HB2 hs0
    obtain ⟨left, cnt, hrg, HB⟩ := hrel
    go_wp2_with (at_next; refine wpList_next_ranges _ rfl _ rfl 37 lawFd rawE (fun f : FieldL => f.v) (fun v : Value => v) (fun key kl hk => by obtain ⟨f, e⟩ := fd_inv hk; exact ⟨f, e⟩) (fun v y hv => ⟨v, rfl⟩) b rr n _ _ _ rfl hrg ?_ ?_)
    · intro _ hl0
      clear hl0 hrg
      go_wp2_with fail
      go_ret
      exact ⟨rfl, HB.out⟩
    · intro f c kl y ps w3 cnt' hkey hlk hv hat hrg3 hlt3 hg3 hs3 hent
      exfalso
      have r2 := (HRD.out f kl hkey).2
      rw [HH.out f, has_true_of_atKey hat] at r2
      cases r2

/-- two indexes that say the same: their maps are equal -/
theorem idxEq_is {S p M S' p' M' : Nat} {X : SaysX} {w : World} (h : Idx w S p M X) (h' : Idx w S' p' M' X) (hlen : ∀ f, (X f).length ≤ 1000000) :
    ∃ m m', w.cell? ⟨p, 0, none⟩ = some (.map m) ∧ w.cell? ⟨p', 0, none⟩ = some (.map m') ∧
      Calls Tryz.prog 89 #[.map m, .map m', .func (.func 35) #[] #[]] w fun e w' => e = .returned (.bool true) ∧ Below w.heap.size w w' := by
  cases h with
  | bare c0 f0 hp hX =>
    cases h' with
    | bare c0' f0' hp' hX' => exact ⟨none, none, c0, c0', eqFunc_none w none (len_nil w)⟩
    | full h' =>
      obtain ⟨b, c0', f0', h1, h2, B, n, H, V, h3, h4, h5⟩ := h'
      have hH : ∀ f, H f = false := fun f => by
        cases e : H f with
        | false => rfl
        | true => exact absurd (hX f) (h5 f e).1
      obtain ⟨D, hown, hrd⟩ := h4.m
      have l1 := fun ty => hown.len Tryz.underlying126 ty
      rw [imap_size0 hown hrd hH] at l1
      exact ⟨none, some b, c0, c0', eqFunc_none w (some b) l1⟩
  | full h =>
    obtain ⟨b, c0, f0, h1, h2, B, n, H, V, h3, h4, h5⟩ := h
    cases h' with
    | bare c0' f0' hp' hX' =>
      have hH : ∀ f, H f = false := fun f => by
        cases e : H f with
        | false => rfl
        | true => exact absurd (hX' f) (h5 f e).1
      exact ⟨some b, none, c0, c0', eqFunc_empty w h4 hH⟩
    | full h' =>
      obtain ⟨b', c0', f0', h1', h2', B', n', H', V', h3', h4', h5'⟩ := h'
      exact ⟨some b, some b', c0, c0', eqFunc_some w h4 h4' h5 h5' hlen⟩
end Go.Proofs.YteimdhkajbldjaaGreat

namespace Go.Proofs.YteimdhkajbldjaaGreat
open Go.RowKit Go.Sort Go.Maps

theorem noName_is {t : Bool} (f : FieldL) (A : Option Addr) (k c : Nat) (w : World) (ht : decide (k = 0) = t) :
    Calls Tryz.prog 121 #[f.v, .slice A k c] w fun e w' => e = .returned (.bool t) ∧ Below w.heap.size w w' := by
  have hb := (Below.refl w.heap.size w).alloc (Nat.le_refl _) (.cells #[.string f.key, .string f.val] 37)
  have HB := Lib.hid hb
  clear hb
  by_cases hk : k = 0
  · subst hk
    obtain rfl : t = true := by rw [← ht]; rfl
    clear ht
    go_enter Tryz.func121, Tryz.ntmps121
    go_wp2_with fail
    go_ret
    exact ⟨by simp, HB.out⟩
  · obtain rfl : t = false := by rw [← ht]; simp [hk]
    have hk2 : ¬ (k : Int) = 0 := by omega
    clear ht
    go_enter Tryz.func121, Tryz.ntmps121
    go_wp2_with fail
    go_ret
    exact ⟨by simp [hk], HB.out⟩

def cutV (V : FieldL → Value) (f : FieldL) : FieldL → Value := fun g => if g = f then nilS else V g
def cutH (H : FieldL → Bool) (f : FieldL) : FieldL → Bool := fun g => if g = f then false else H g
theorem Reads.cut {D : DataW Value} {H : FieldL → Bool} {V : FieldL → Value} (h : Reads D H V) {f : FieldL} {k : Lit} (hk : keyOf Tryz.prog 37 f.v = some k) : Reads (D.del k) (cutH H f) (cutV V f) := fun g kg hg => by
  unfold cutH cutV
  by_cases e : g = f
  · subst e
    rw [if_pos rfl, if_pos rfl]
    rw [hk] at hg
    cases hg
    exact ⟨atKey_del_same _, has_del_same⟩
  · have hne : kg ≠ k := fun ek => e (fd_inj hg (by rw [ek]; exact hk))
    rw [if_neg e, if_neg e, atKey_del_other hne, has_del_other hne]
    exact h g kg hg
theorem IRows.cut {B b : Nat} {w w' : World} {X : SaysX} {H : FieldL → Bool} {V : FieldL → Value} (h : IRows B w X H V) (hlt : b < B) {f : FieldL} (hX : X f = []) (hg : w.grownBy w' (some b)) : IRows B w' X (cutH H f) (cutV V f) := by
  have hVb : ∀ g, (V g).ownBlock = none ∨ (V g).ownBlock ≠ some b := fun g => by
    cases hv : (V g).ownBlock with
    | none => exact .inl rfl
    | some k => exact .inr fun e => by have := (World.ownsRow.lt (h.row g) k hv).1; cases e; omega
  refine ⟨fun g => ?_, fun i j hij => ?_, fun g hg2 => ?_⟩
  · unfold cutV
    by_cases e : g = f
    · rw [if_pos e, e, hX]
      exact World.ownsRow_nil _ _ _ _
    · rw [if_neg e]
      exact World.ownsRow.kept (h.row g) hg (hVb g)
  · unfold cutV
    by_cases e1 : i = f
    · rw [if_pos e1]
      exact .inl rfl
    · rw [if_neg e1]
      by_cases e2 : j = f
      · rw [if_pos e2]
        cases hv : (V i).ownBlock with
        | none => exact .inl rfl
        | some k => exact .inr (by simp [Value.ownBlock])
      · rw [if_neg e2]
        exact h.ap i j hij
  · unfold cutH at hg2
    by_cases e : g = f
    · rw [e]
      exact hX
    · rw [if_neg e] at hg2
      exact h.off g hg2
theorem IRows.grown {B b : Nat} {w w' : World} {X : SaysX} {H : FieldL → Bool} {V : FieldL → Value} (h : IRows B w X H V) (hlt : b < B) (hg : w.grownBy w' (some b)) : IRows B w' X H V :=
  ⟨fun g => World.ownsRow.kept (h.row g) hg (by
    cases hv : (V g).ownBlock with
    | none => exact .inl rfl
    | some k => exact .inr fun e => by have := (World.ownsRow.lt (h.row g) k hv).1; cases e; omega), h.ap, h.off⟩

/-- where a range that cuts stands -/
structure CutTo (X : SaysX) (H H2 : FieldL → Bool) (left : Lit → Bool) : Prop where
  old : ∀ f, H2 f = true → H f = true
  rest : ∀ f k, keyOf Tryz.prog 37 f.v = some k → H2 f = true → left k = true ∨ X f ≠ []

set_option maxHeartbeats 4000000 in
theorem deleteFunc_is {B b n : Nat} {X : SaysX} {H : FieldL → Bool} {V : FieldL → Value} (w : World) (h : IMap w B b n X H V) (hfd : ∀ f, H f = true → isFd f = true) :
    Calls Tryz.prog 122 #[.map (some b), .func (.func 121) #[] #[]] w
      fun e w' => e = .returned (.tuple #[]) ∧ w.grownBy w' (some b) ∧ ∃ H' V', IMap w' B b n X H' V' ∧ (∀ f j, (V' f).ownBlock = some j → (V f).ownBlock = some j) ∧ ∀ f, H' f = true → X f ≠ [] ∧ isFd f = true := by
  obtain ⟨D, hown, hrd⟩ := h.m
  have hlt := h.lt
  have HRD := Lib.hid hrd
  have HROW := Lib.hid h.rows
  have HFD := Lib.hid hfd
  clear hrd h hfd
  go_enter Tryz.func122, Tryz.ntmps122
  go_wp2_with (at_range; refine wpList_range_own _ rfl _ 126 rfl 37 33 lawFd Tryz.underlying126 rawE b n D rfl hown ?_; intro w2 hrg0 hg0 hs0)
  go_frame
  have hg2 : w.grownBy w2 (some b) := ⟨hg0.os, hg0.tape, hg0.output, hg0.size, fun i hi _ => hg0.block i hi (by simp)⟩
  have HG2 := Lib.hid hg2
  have HR2 := Lib.hid (HROW.out.grown hlt hg2)
  have hlb := hown.lt
  obtain ⟨rr, hr⟩ : ∃ rr, rr = w.heap.size := ⟨_, rfl⟩
  rw [← hr] at hrg0 hs0 hlb ⊢
  have HRR := Lib.hid hr
  clear hg0 hg2 hr hown
  go_loopw [] (fun wq => ∃ (left : Lit → Bool) (cnt : Nat) (D2 : DataW Value) (H2 : FieldL → Bool) (V2 : FieldL → Value), wq.ranges Tryz.prog 37 rawE b rr n D2 left cnt ∧ Hid (Reads D2 H2 V2) ∧ Hid (IRows B wq X H2 V2) ∧ Hid (CutTo X H H2 left) ∧ Hid (∀ f j, (V2 f).ownBlock = some j → (V f).ownBlock = some j) ∧ Hid (w.grownBy wq (some b))) (fun wq => wq.rangeLeft b rr)
  case atStart => exact ⟨_, _, _, H, V, hrg0, HRD.out, HR2.out, ⟨fun f hf => hf, fun f k hk hf => .inl (by rw [(HRD.out f k hk).2]; exact hf)⟩, fun f j hj => hj, HG2.out⟩
  case round =>
    clear hrg0 HG2 HR2 hs0
    obtain ⟨left, cnt, D2, H2, V2, hrg, HRD2, HROW2, HCT, HLO, HG⟩ := hrel
    go_wp2_with (at_next; refine wpList_next_ranges _ rfl _ rfl 37 lawFd rawE (fun f : FieldL => f.v) (fun v : Value => v) (fun key kl hk => by obtain ⟨f, e⟩ := fd_inv hk; exact ⟨f, e⟩) (fun v y hv => ⟨v, rfl⟩) b rr n _ _ _ rfl hrg ?_ ?_)
    · intro _ hl0
      have hend : ∀ f, H2 f = true → X f ≠ [] ∧ isFd f = true := fun f hf => by
        have hfd := HFD.out f (HCT.out.old f hf)
        obtain ⟨k, hk⟩ := fd_key f (short_fd hfd)
        rcases HCT.out.rest f k hk hf with h6 | h6
        · rw [hl0 k] at h6
          cases h6
        · exact ⟨h6, hfd⟩
      have HEND := Lib.hid hend
      have HOWN := Lib.hid hrg.owns
      clear hl0 hrg hend
      go_wp2_with fail
      go_end0
      exact ⟨rfl, HG.out, H2, V2, ⟨⟨D2, HOWN.out, HRD2.out⟩, HROW2.out, hlt⟩, HLO.out, HEND.out⟩
    · intro f c kl y ps w3 cnt' hkey hlk hv hat hrg3 hlt3 hg3 hs3 hent
      have hy : y = .held c := (Prod.mk.inj (raw_inv c (y, ps) hv)).1
      have hat2 : ∀ z, D2.atKey kl z = .held c := fun z => by rw [hat z, hy]
      obtain ⟨r1, r2⟩ := HRD2.out f kl hkey
      have hcV : c = V2 f := by
        have := (hat2 (.held nilS)).symm.trans r1
        injection this
      obtain ⟨A, cc, hVf⟩ := (HROW2.out.row f).form
      have hgr3 : w.grownBy w3 (some b) := HG.out.andThen hg3 (fun j hj => by cases hj; exact .inl (by rw [HRR.out]; exact Nat.le_refl _))
      have hrow3 : IRows B w3 X H2 V2 := ⟨fun g => World.ownsRow.kept (HROW2.out.row g) hg3 (by
        cases hv : (V2 g).ownBlock with
        | none => exact .inl rfl
        | some k => exact .inr fun e => by have h1 := (World.ownsRow.lt (HROW.out.row g) k (HLO.out g k hv)).2; have h2 := HRR.out; cases e; omega), HROW2.out.ap, HROW2.out.off⟩
      obtain ⟨W4, hW4⟩ : ∃ W4, W4 = w3.alloc (.cells #[.string f.key, .string f.val] 37) := ⟨_, rfl⟩
      have hb4 : Below w3.heap.size w3 W4 := by rw [hW4]; exact (Below.refl _ _).alloc (Nat.le_refl _) _
      have hrg4 : W4.ranges Tryz.prog 37 rawE b rr n D2 (fun z => left z && !z.sameKey kl) cnt' := by rw [hW4]; exact hrg3.alloc _
      have z0 : W4.cell? ⟨w3.heap.size, 0, none⟩ = some (.string f.key) := by rw [hW4]; simp [go_sem]
      have z1 : W4.cell? ⟨w3.heap.size, 1, none⟩ = some (.string f.val) := by rw [hW4]; simp [go_sem]
      obtain ⟨t, ht⟩ : ∃ t, decide ((X f).length = 0) = t := ⟨_, rfl⟩
      have HNN := Lib.hid (noName_is f A (X f).length cc W4 ht)
      have HT := Lib.hid ht
      obtain ⟨l, hl⟩ : ∃ l, (X f).length = l := ⟨_, rfl⟩
      rw [hcV, hVf] at hent ⊢
      rw [hl] at hent HNN ⊢
      have HRW4 := Lib.hid (hrow3.below hb4)
      have HRG4 := Lib.hid hrg4
      have HRG := Lib.hid hrg
      have HLT := Lib.hid hlt3
      have HKEY := Lib.hid hkey
      have HG4 := Lib.hid (hgr3.andThen (grown_of_below hb4) (fun j hj => by cases hj))
      have HZ0 := Lib.hid z0
      have HZ1 := Lib.hid z1
      have hlw : rr < W4.heap.size := hrg4.lt
      have HW4 := Lib.hid hW4
      clear hy hat2 r1 r2 hcV hVf hgr3 hrow3 hb4 hrg4 z0 z1 ht hrg hrg3 hkey hlk hv hat hg3 hs3 hlt3 hl hlw hW4
      cases t with
      | true =>
        have hX : X f = [] := List.eq_nil_of_length_eq_zero (of_decide_eq_true HT.out)
        have HX := Lib.hid hX
        clear hX
        go_wp2_with fail
        rw [← HW4.out]
        (with_reducible refine HNN.out.mono ?_)
        rintro e w5 ⟨rfl, hb5⟩
        have y0 := (hb5.cell (p := ⟨w3.heap.size, 0, none⟩) (cell_lt HZ0.out)).trans HZ0.out
        have y1 := (hb5.cell (p := ⟨w3.heap.size, 1, none⟩) (cell_lt HZ0.out)).trans HZ1.out
        have hrg5 := HRG4.out.kept (row := none) (grown_of_below hb5) (by simp) (by simp)
        have HRW5 := Lib.hid (HRW4.out.below hb5)
        have HG5 := Lib.hid (HG4.out.andThen (grown_of_below hb5) (fun j hj => by cases hj))
        clear hb5
        go_wp2_with (at_delete; refine wpList_delete_ranges _ rfl _ _ 126 37 rfl 33 lawFd Tryz.underlying126 rawE b rr n D2 _ cnt' rfl hrg5 f.v kl rfl HKEY.out ?_; intro w6 cnt6 hrg6 hle6 hmt6)
        have HRG6 := Lib.hid hrg6
        have HLE := Lib.hid hle6
        have HRW6 := Lib.hid (HRW5.out.cut hlt HX.out hmt6.grown)
        have HG6 := Lib.hid (HG5.out.andThen hmt6.grown (fun j hj => by cases hj; exact .inr rfl))
        clear hrg6 hle6 hmt6 y0 y1 hrg5
        go_wp2_with fail
        go_roundw
        case rel =>
          refine ⟨_, _, _, _, _, _, _, _, _, _, _, _, _, ⟨_, cnt6, _, _, _, HRG6.out, HRD2.out.cut HKEY.out, HRW6.out, ⟨fun g hg => ?_, fun g kg hkg hg => ?_⟩, fun g j hj => ?_, HG6.out⟩, rfl⟩
          · unfold cutH at hg
            split at hg
            · cases hg
            · exact HCT.out.old g hg
          · unfold cutH at hg
            split at hg
            · cases hg
            · rename_i hne
              rcases HCT.out.rest g kg hkg hg with h7 | h7
              · refine .inl ?_
                have h8 : kg.sameKey kl = false := Maps.sameKey_ne fun ek => hne (fd_inj hkg (by rw [ek]; exact HKEY.out))
                simp [h7, h8]
              · exact .inr h7
          · unfold cutV at hj
            split at hj
            · cases hj
            · exact HLO.out g j hj
        case measure => rw [HRG6.out.left_eq, HRG.out.left_eq]; have := HLE.out; have := HLT.out; omega
      | false =>
        have hX : X f ≠ [] := fun e => by have := HT.out; rw [e] at this; cases this
        have HX := Lib.hid hX
        clear hX
        go_wp2_with fail
        rw [← HW4.out]
        (with_reducible refine HNN.out.mono ?_)
        rintro e w5 ⟨rfl, hb5⟩
        have hrg5 := HRG4.out.kept (row := none) (grown_of_below hb5) (by simp) (by simp)
        have HRG5 := Lib.hid hrg5
        have HRW5 := Lib.hid (HRW4.out.below hb5)
        have HG5 := Lib.hid (HG4.out.andThen (grown_of_below hb5) (fun j hj => by cases hj))
        clear hb5 hrg5
        go_wp2_with fail
        go_roundw
        case rel =>
          refine ⟨_, cnt', D2, H2, V2, HRG5.out, HRD2.out, HRW5.out, ⟨HCT.out.old, fun g kg hkg hg => ?_⟩, HLO.out, HG5.out⟩
          rcases HCT.out.rest g kg hkg hg with h7 | h7
          · by_cases e : g = f
            · exact .inr (by rw [e]; exact HX.out)
            · refine .inl ?_
              have h8 : kg.sameKey kl = false := Maps.sameKey_ne fun ek => e (fd_inj hkg (by rw [ek]; exact HKEY.out))
              simp [h7, h8]
          · exact .inr h7
        case measure => rw [HRG5.out.left_eq, HRG.out.left_eq]; exact HLT.out
end Go.Proofs.YteimdhkajbldjaaGreat
