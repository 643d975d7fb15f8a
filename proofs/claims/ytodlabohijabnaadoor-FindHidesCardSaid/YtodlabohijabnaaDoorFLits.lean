/- What By and With answer: of small stores that the laws write out; and names that are all of a list. -/
import Derived.Test.YtodlabohijabnaaDoorFLaws
import Derived.Test.YtodlabohijabnaaDoorSStrs
import Derived.Test.YtodlabohijabnaaDoorSFine
import Derived.Test.YtodlabohijabnaaDoorSConcat
set_option linter.unusedVariables false
set_option linter.unusedSimpArgs false
set_option maxRecDepth 100000
namespace Go.Proofs.YtodlabohijabnaaDoor
open Go.RowKit Go.Sort

/-- a box with a list of names -/
structure Boxed (b0 : Nat) (A : Option Addr) (n c : Nat) (ids : List ByteArray) (w : World) : Prop where
  c0 : w.cell? ⟨b0, 0, none⟩ = some (.slice A n c)
  sl : SlS w A ids
  ln : ids.length = n
  mx : n ≤ maxLen
theorem Boxed.below {b0 n c : Nat} {A : Option Addr} {ids : List ByteArray} {w w' : World} (h : Boxed b0 A n c ids w) (hb : Below w.heap.size w w') : Boxed b0 A n c ids w' :=
  ⟨(hb.cell (p := ⟨b0, 0, none⟩) (cell_lt h.c0)).trans h.c0, h.sl.below hb, h.ln, h.mx⟩

set_option maxHeartbeats 1000000 in
theorem closH_is (b0 : Nat) (A : Option Addr) (n c : Nat) (ids : List ByteArray) (s : ByteArray) (w : World) (h : Boxed b0 A n c ids w) (hs : s ∈ ids) :
    Calls Tryd.prog 41 #[.string s, .pointer (some ⟨b0, 0, none⟩)] w fun e w' => e = .returned (.bool false) ∧ Below w.heap.size w w' := by
  have hc := h.c0
  have HC := Lib.hid (contains_is (b := true) A ids c s w h.sl h.ln h.mx (by simp [hs]))
  clear h hs
  go_enter Tryd.func41, Tryd.ntmps41
  go_wp2_with fail
  refine HC.out.mono ?_
  rintro e w1 ⟨rfl, hb1⟩
  have HB1 := Lib.hid hb1
  clear hb1
  go_wp2_with fail
  go_ret
  exact ⟨rfl, HB1.out⟩

set_option maxHeartbeats 2000000 in
theorem indexH_no (a : Option Addr) (L : List ByteArray) (cL b0 : Nat) (A : Option Addr) (n c : Nat) (ids : List ByteArray) (w : World) (hs : SlS w a L) (hm : L.length ≤ maxLen) (h : Boxed b0 A n c ids w) (hin : ∀ s ∈ L, s ∈ ids) :
    Calls Tryd.prog 71 #[.slice a L.length cL, .func (.func 41) #[] #[.pointer (some ⟨b0, 0, none⟩)]] w
      fun e w' => e = .returned (.int .i64 (-1)) ∧ Below w.heap.size w w' := by
  unfold maxLen at hm
  have HS := Lib.hid hs
  have HC := Lib.hid h
  have HIN := Lib.hid hin
  clear hs h hin
  go_enter Tryd.func71, Tryd.ntmps71
  go_wp2_with fail
  go_loopw [8] (fun i wr => ∃ k : Nat, k ≤ L.length ∧ i = .int .i64 k ∧ Below w.heap.size w wr) (fun i _ => L.length - (intOf i).toNat)
  case atStart => exact ⟨0, Nat.zero_le _, rfl, Below.refl _ _⟩
  case round =>
    obtain ⟨k, hk, rfl, hB⟩ := hrel
    by_cases hlt : k < L.length
    · obtain ⟨s, hsk⟩ : ∃ s, L[k]? = some s := ⟨_, List.getElem?_eq_getElem hlt⟩
      obtain ⟨ab, off, rfl, c1⟩ := (HS.out.below hB) k s hsk
      have HCL := Lib.hid (closH_is b0 A n c ids s wr (HC.out.below hB) (HIN.out s (List.mem_of_getElem? hsk)))
      have i1 : (0 : Int) ≤ (k : Int) := by omega
      clear hsk
      go_wp2_with fail
      refine HCL.out.mono ?_
      rintro e w1 ⟨rfl, hb1⟩
      have hB1 := hB.trans (hb1.mono hB.size)
      go_wp2_with fail
      go_roundw
      case rel => exact ⟨k + 1, by omega, by go_num, hB1⟩
      case measure => simp [intOf]; omega
    · obtain rfl : k = L.length := by omega
      go_wp2_with fail
      go_ret
      exact ⟨rfl, hB⟩

set_option maxHeartbeats 1000000 in
theorem noneH_is (a : Option Addr) (L : List ByteArray) (m cL b0 : Nat) (A : Option Addr) (n c : Nat) (ids : List ByteArray) (w : World) (hl : L.length = m) (hs : SlS w a L) (hm : m ≤ maxLen) (h : Boxed b0 A n c ids w) (hin : ∀ s ∈ L, s ∈ ids) :
    Calls Tryd.prog 37 #[.slice a m cL, .func (.func 41) #[] #[.pointer (some ⟨b0, 0, none⟩)]] w
      fun e w' => e = .returned (.bool false) ∧ Below w.heap.size w w' := by
  subst hl
  have HI := Lib.hid (indexH_no a L cL b0 A n c ids w hs hm h hin)
  clear hs hm h hin
  go_enter Tryd.func37, Tryd.ntmps37
  go_wp2_with fail
  refine HI.out.mono ?_
  rintro e w1 ⟨rfl, hb1⟩
  go_wp2_with fail
  go_ret
  exact ⟨rfl, hb1⟩

set_option maxHeartbeats 1000000 in
theorem closW_is (b0 : Nat) (A : Option Addr) (n c : Nat) (ids : List ByteArray) (s : ByteArray) (w : World) (h : Boxed b0 A n c ids w) (hs : s ∈ ids) :
    Calls Tryd.prog 38 #[.string s, .pointer (some ⟨b0, 0, none⟩)] w fun e w' => e = .returned (.bool false) ∧ Below w.heap.size w w' := by
  have hc := h.c0
  have HC := Lib.hid (contains_is (b := true) A ids c s w h.sl h.ln h.mx (by simp [hs]))
  clear h hs
  go_enter Tryd.func38, Tryd.ntmps38
  go_wp2_with fail
  refine HC.out.mono ?_
  rintro e w1 ⟨rfl, hb1⟩
  have HB1 := Lib.hid hb1
  clear hb1
  go_wp2_with fail
  go_ret
  exact ⟨rfl, HB1.out⟩

set_option maxHeartbeats 2000000 in
theorem indexW_no (a : Option Addr) (L : List ByteArray) (cL b0 : Nat) (A : Option Addr) (n c : Nat) (ids : List ByteArray) (w : World) (hs : SlS w a L) (hm : L.length ≤ maxLen) (h : Boxed b0 A n c ids w) (hin : ∀ s ∈ L, s ∈ ids) :
    Calls Tryd.prog 71 #[.slice a L.length cL, .func (.func 38) #[] #[.pointer (some ⟨b0, 0, none⟩)]] w
      fun e w' => e = .returned (.int .i64 (-1)) ∧ Below w.heap.size w w' := by
  unfold maxLen at hm
  have HS := Lib.hid hs
  have HC := Lib.hid h
  have HIN := Lib.hid hin
  clear hs h hin
  go_enter Tryd.func71, Tryd.ntmps71
  go_wp2_with fail
  go_loopw [8] (fun i wr => ∃ k : Nat, k ≤ L.length ∧ i = .int .i64 k ∧ Below w.heap.size w wr) (fun i _ => L.length - (intOf i).toNat)
  case atStart => exact ⟨0, Nat.zero_le _, rfl, Below.refl _ _⟩
  case round =>
    obtain ⟨k, hk, rfl, hB⟩ := hrel
    by_cases hlt : k < L.length
    · obtain ⟨s, hsk⟩ : ∃ s, L[k]? = some s := ⟨_, List.getElem?_eq_getElem hlt⟩
      obtain ⟨ab, off, rfl, c1⟩ := (HS.out.below hB) k s hsk
      have HCL := Lib.hid (closW_is b0 A n c ids s wr (HC.out.below hB) (HIN.out s (List.mem_of_getElem? hsk)))
      have i1 : (0 : Int) ≤ (k : Int) := by omega
      clear hsk
      go_wp2_with fail
      refine HCL.out.mono ?_
      rintro e w1 ⟨rfl, hb1⟩
      have hB1 := hB.trans (hb1.mono hB.size)
      go_wp2_with fail
      go_roundw
      case rel => exact ⟨k + 1, by omega, by go_num, hB1⟩
      case measure => simp [intOf]; omega
    · obtain rfl : k = L.length := by omega
      go_wp2_with fail
      go_ret
      exact ⟨rfl, hB⟩

set_option maxHeartbeats 1000000 in
theorem noneW_is (a : Option Addr) (L : List ByteArray) (m cL b0 : Nat) (A : Option Addr) (n c : Nat) (ids : List ByteArray) (w : World) (hl : L.length = m) (hs : SlS w a L) (hm : m ≤ maxLen) (h : Boxed b0 A n c ids w) (hin : ∀ s ∈ L, s ∈ ids) :
    Calls Tryd.prog 37 #[.slice a m cL, .func (.func 38) #[] #[.pointer (some ⟨b0, 0, none⟩)]] w
      fun e w' => e = .returned (.bool false) ∧ Below w.heap.size w w' := by
  subst hl
  have HI := Lib.hid (indexW_no a L cL b0 A n c ids w hs hm h hin)
  clear hs hm h hin
  go_enter Tryd.func37, Tryd.ntmps37
  go_wp2_with fail
  refine HI.out.mono ?_
  rintro e w1 ⟨rfl, hb1⟩
  go_wp2_with fail
  go_ret
  exact ⟨rfl, hb1⟩
end Go.Proofs.YtodlabohijabnaaDoor

namespace Go.Proofs.YtodlabohijabnaaDoor
open Go.RowKit Go.Sort Go.Maps

/-- By, of names that are handed on -/
theorem byF_fine {n : Nat} {er : Int} {L : List ByteArray} {a : Option Addr} {vs : List VerL} (c : Nat) (f : FieldL) (w : World) (h : VsAt w a n vs) (hst : stErr vs = 0) (hL : byR vs f = L) (he : byErr vs f = er) :
    Calls Tryd.prog 11 #[.slice a n c, f.v] w (StrsTo L er w) :=
  by_is c f w h (by have := h.len; have := (stErr_ok.1 hst).1; unfold maxLen; omega) hL he


/-- With, of names that are handed on -/
theorem with_fine {n m : Nat} {er : Int} {L : List ByteArray} {a a2 : Option Addr} {vs : List VerL} (c c2 : Nat) (ids : List ByteArray) (w : World) (h : VsAt w a n vs) (hst : stErr vs = 0) (hs : SlS w a2 ids) (hl : ids.length = m) (hL : withR vs ids = L) (he : withErr vs ids = er) :
    Calls Tryd.prog 12 #[.slice a n c, .slice a2 m c2] w (StrsTo L er w) :=
  with_is c c2 ids w h (by have := h.len; have := (stErr_ok.1 hst).1; unfold maxLen; omega) hs hl hL he
theorem with_small {vs : List VerL} {ids : List ByteArray} (h : stErr vs = 0) (hl : ids.length ≤ 60) : withErr vs ids = 0 ∧ withR vs ids = withL vs ids := by
  have h0 : withErr vs ids = 0 := by unfold withErr; rw [if_neg (fun k => k h), if_neg (by omega)]
  refine ⟨h0, ?_⟩
  unfold withR
  rw [if_pos h0]

abbrev recAB : RecL := ⟨sA, 0, [], [sB]⟩
theorem okAB : recAB.Ok := ⟨nameA, Int.le_refl _, by decide, by simp, by simp, fOk_mk (by simp [Asc]) (fun f hf => by cases hf), fun i s hi hs => by
  have h0 : i = 0 := by have : i < 1 := hi; omega
  subst h0
  have hs2 : s = sB := by simpa using hs.symm
  subst hs2
  exact ⟨nameB, fun j t e => by omega⟩⟩
theorem withH_lit {B : Nat} (w0 : World) (hB : w0.heap.size = B) :
    Calls Tryd.prog 12 #[.slice (some ⟨B + 1, 0, none⟩) 1 1, .slice (some ⟨B + 2, 0, none⟩) 1 1]
      (((w0.alloc (.cells #[.string sB] 9)).alloc (.cells #[.string sA, .int .i64 0, .slice none 0 0, .slice (some ⟨B, 0, none⟩) 1 1, .bool false] 34)).alloc (.cells #[.string sA] 9))
      fun e w' => ∃ A c, e = .returned (.tuple #[.slice A 1 c, .int .i64 0]) ∧ Hid (SlS w' A [sA]) ∧ Hid (Below B w0 w') := by
  subst hB
  have hin : (⟨⟨recAB, false⟩, ⟨none, 0, some ⟨w0.heap.size, 0, none⟩, 1⟩⟩ : PV).in_ (w0.alloc (.cells #[.string sB] 9)) :=
    ⟨SlF.nil _ _, sl_one w0 9 [sB], by simp, by simp, by simp, by unfold maxLen; simp⟩
  obtain ⟨he, hr⟩ := with_small (ids := [sA]) (st_one okAB) (by simp)
  have hw : withR [⟨recAB, false⟩] [sA] = [sA] := hr.trans (with_one (r := recAB) (fun s hs => by rw [List.mem_singleton] at hs; subst hs; decide))
  have h1 : Below w0.heap.size w0 ((w0.alloc (.cells #[.string sB] 9)).alloc (.cells #[.string sA, .int .i64 0, .slice none 0 0, .slice (some ⟨w0.heap.size, 0, none⟩) 1 1, .bool false] 34)) := ((Below.refl _ _).alloc (Nat.le_refl _) _).alloc (by simp) _
  have hv := (vs_one _ _ hin).below ((Below.refl _ _).alloc (Nat.le_refl _) (.cells #[.string sA] 9))
  have hids := sl_one ((w0.alloc (.cells #[.string sB] 9)).alloc (.cells #[.string sA, .int .i64 0, .slice none 0 0, .slice (some ⟨w0.heap.size, 0, none⟩) 1 1, .bool false] 34)) 9 [sA]
  have hlit := with_fine 1 1 [sA] _ hv (st_one okAB) hids rfl hw he
  simp only [World.size_alloc, Nat.add_assoc, Nat.reduceAdd] at hlit
  refine hlit.mono ?_
  rintro e w1 ⟨A, k, c, rfl, hk, ho, hb⟩
  obtain rfl : k = 1 := hk.symm
  have h2 := h1.alloc (by simp; omega) (.cells #[.string sA] 9)
  exact ⟨A, c, rfl, (OwnS.at_ ho rfl).1, h2.trans (hb.mono h2.size)⟩
end Go.Proofs.YtodlabohijabnaaDoor

namespace Go.Proofs.YtodlabohijabnaaDoor
open Go.RowKit Go.Sort Go.Maps

abbrev recB : RecL := ⟨sB, 0, [], []⟩
theorem okB : recB.Ok := ⟨nameB, Int.le_refl _, by decide, by simp, by simp, fOk_mk (by simp [Asc]) (fun f hf => by cases hf), fun i s hi => absurd hi (Nat.not_lt_zero i)⟩
theorem st_two : stErr [⟨recAB, false⟩, ⟨recB, false⟩] = 0 := stErr_ok.2 ⟨by simp, (StOk.put (StOk.put stOk_nil okAB (by simp [same_nil]) : StOk ([] ++ [⟨recAB, false⟩])) okB (by have := same_le ([] ++ [⟨recAB, false⟩]) recB.cats; simp at this ⊢; omega) : StOk ([⟨recAB, false⟩] ++ [⟨recB, false⟩]))⟩
theorem getV_two {s : ByteArray} {v : VerL} : getV [⟨recAB, false⟩, ⟨recB, false⟩] s = some v ↔ (s = sA ∧ v = ⟨recAB, false⟩) ∨ (s = sB ∧ v = ⟨recB, false⟩) := by
  have e : ([⟨recAB, false⟩, ⟨recB, false⟩] : List VerL) = [⟨recAB, false⟩] ++ [⟨recB, false⟩] := rfl
  have hne : sA ≠ sB := by decide
  rw [e]
  by_cases h : s = recB.id
  · subst h
    rw [getV_put]
    exact ⟨fun k => .inr ⟨rfl, (Option.some.inj k).symm⟩, fun k => k.elim (fun k => absurd k.1.symm hne) fun k => by rw [k.2]⟩
  · rw [getV_other h, getV_one]
    exact ⟨fun k => .inl k, fun k => k.elim id fun k => absurd k.1 h⟩
theorem with_two : withL [⟨recAB, false⟩, ⟨recB, false⟩] [sA] = [sA, sB] :=
  asc_ext (picked_asc _ _) (by unfold Asc; simp [lAB]) fun s => by
    show s ∈ withL _ _ ↔ _
    rw [mem_withL]
    constructor
    · rintro ⟨⟨v, hv⟩, _⟩
      rcases getV_two.1 hv with ⟨e, _⟩ | ⟨e, _⟩ <;> simp [e]
    · intro h
      simp only [List.mem_cons, List.not_mem_nil, or_false] at h
      rcases h with e | e
      · exact ⟨⟨_, getV_two.2 (.inl ⟨e, rfl⟩)⟩, .inl (by simp [e])⟩
      · exact ⟨⟨_, getV_two.2 (.inr ⟨e, rfl⟩)⟩, .inr ⟨sA, _, by simp, getV_two.2 (.inl ⟨rfl, rfl⟩), by simp [e]⟩⟩
theorem withW_lit {B : Nat} (w0 : World) (hB : w0.heap.size = B) :
    Calls Tryd.prog 12 #[.slice (some ⟨B + 1, 0, none⟩) 2 2, .slice (some ⟨B + 2, 0, none⟩) 1 1]
      (((w0.alloc (.cells #[.string sB] 9)).alloc (.cells #[.string sA, .int .i64 0, .slice none 0 0, .slice (some ⟨B, 0, none⟩) 1 1, .bool false, .string sB, .int .i64 0, .slice none 0 0, .slice none 0 0, .bool false] 34)).alloc (.cells #[.string sA] 9))
      fun e w' => ∃ A c, e = .returned (.tuple #[.slice A 2 c, .int .i64 0]) ∧ Hid (SlS w' A [sA, sB]) ∧ Hid (Below B w0 w') := by
  subst hB
  have hin : (⟨⟨recAB, false⟩, ⟨none, 0, some ⟨w0.heap.size, 0, none⟩, 1⟩⟩ : PV).in_ (w0.alloc (.cells #[.string sB] 9)) :=
    ⟨SlF.nil _ _, sl_one w0 9 [sB], by simp, by simp, by simp, by unfold maxLen; simp⟩
  have hin2 : (⟨⟨recB, false⟩, ⟨none, 0, none, 0⟩⟩ : PV).in_ (w0.alloc (.cells #[.string sB] 9)) :=
    ⟨SlF.nil _ _, SlS.nil _ _, by simp, by simp, by simp, by simp⟩
  obtain ⟨he, hr⟩ := with_small (ids := [sA]) st_two (by simp)
  have hw := hr.trans with_two
  have h1 : Below w0.heap.size w0 ((w0.alloc (.cells #[.string sB] 9)).alloc (.cells #[.string sA, .int .i64 0, .slice none 0 0, .slice (some ⟨w0.heap.size, 0, none⟩) 1 1, .bool false, .string sB, .int .i64 0, .slice none 0 0, .slice none 0 0, .bool false] 34)) := ((Below.refl _ _).alloc (Nat.le_refl _) _).alloc (by simp) _
  have hv := (vs_two _ _ _ hin hin2).below ((Below.refl _ _).alloc (Nat.le_refl _) (.cells #[.string sA] 9))
  have hids := sl_one ((w0.alloc (.cells #[.string sB] 9)).alloc (.cells #[.string sA, .int .i64 0, .slice none 0 0, .slice (some ⟨w0.heap.size, 0, none⟩) 1 1, .bool false, .string sB, .int .i64 0, .slice none 0 0, .slice none 0 0, .bool false] 34)) 9 [sA]
  have hlit := with_fine 2 1 [sA] _ hv st_two hids rfl hw he
  simp only [World.size_alloc, Nat.add_assoc, Nat.reduceAdd] at hlit
  refine hlit.mono ?_
  rintro e w1 ⟨A, k, c, rfl, hk, ho, hb⟩
  obtain rfl : k = 2 := hk.symm
  have h2 := h1.alloc (by simp; omega) (.cells #[.string sA] 9)
  exact ⟨A, c, rfl, (OwnS.at_ ho rfl).1, h2.trans (hb.mono h2.size)⟩
end Go.Proofs.YtodlabohijabnaaDoor
