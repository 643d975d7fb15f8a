/- Contracts of wyref's Put and Cut. -/
import Derived.Test.YtodlabohijabnaaDoorSConcat
import Derived.Test.YtodlabohijabnaaDoorSCut
import Derived.Test.YtodlabohijabnaaDoorRefRec
set_option linter.unusedVariables false
set_option linter.unusedSimpArgs false
set_option maxRecDepth 100000
namespace Go.Proofs.YtodlabohijabnaaDoor
open Go.RowKit Go.Sort

set_option maxHeartbeats 400000 in
theorem refCats_ok (c : Int) (w : World) (h : 0 ≤ c ∧ c ≤ 255) : Calls Tryd.prog 77 #[.int .i64 c] w fun e w' => e = .returned (.bool true) ∧ Below w.heap.size w w' := by
  obtain ⟨h0, h1⟩ := h
  go_enter Tryd.func77, Tryd.ntmps77
  go_wp2
  all_goals go_ret
  all_goals exact ⟨rfl, by go_grown⟩
set_option maxHeartbeats 400000 in
theorem refCats_bad (c : Int) (w : World) (h : ¬ (0 ≤ c ∧ c ≤ 255)) : Calls Tryd.prog 77 #[.int .i64 c] w fun e w' => e = .returned (.bool false) ∧ Below w.heap.size w w' := by
  by_cases h0 : 0 ≤ c
  · have h1 : ¬ c ≤ 255 := by omega
    clear h
    go_enter Tryd.func77, Tryd.ntmps77
    go_wp2
    all_goals go_ret
    all_goals exact ⟨rfl, by go_grown⟩
  · clear h
    go_enter Tryd.func77, Tryd.ntmps77
    go_wp2
    all_goals go_ret
    all_goals exact ⟨rfl, by go_grown⟩

/-- a list, and one version behind it, joined -/
theorem concat_two {n : Nat} (g : Nat) (a : Option Addr) (l : List PV) (c : Nat) (x : PV) (w : World) (hn : l.length ≤ 5200) (hln : l.length = n) (hs : SlW w a l) (b1 : Nat) (hx : SlW w (some ⟨b1, 0, none⟩) [x]) (h0 : w.cell? ⟨g, 0, none⟩ = some (.slice a n c)) (h1 : w.cell? ⟨g, 1, none⟩ = some (.slice (some ⟨b1, 0, none⟩) 1 1)) :
    Calls Tryd.prog 90 #[.slice (some ⟨g, 0, none⟩) 2 2] w (NewRow w.heap.size (l ++ [x]) w) := by
  have := concatW_any g [l, [x]] (fun i => if i = 0 then a else some ⟨b1, 0, none⟩) (fun i => if i = 0 then c else 1) w (by simp) (fun m hm => by
    simp only [List.mem_cons, List.not_mem_nil, or_false] at hm
    rcases hm with rfl | rfl
    · exact hn
    · simp) (fun i m hi => by
    match i, hi with
    | 0, hi =>
      cases hi
      exact ⟨hs, by rw [hln]; exact h0⟩
    | 1, hi =>
      cases hi
      exact ⟨hx, h1⟩
    | i + 2, hi => simp at hi)
  simpa using this

def RefTo (n : Nat) (q : List PV) (w : World) (e : Ending) (w' : World) : Prop := ∃ A c, e = .returned (.tuple #[.slice A (n + 1) c, .int .i64 0]) ∧ RowV w.heap.size w' (.slice A (n + 1) c) q ∧ Below w.heap.size w w'

/-- the blocks of the pieces -/
theorem pieces_at {n : Nat} (a : Option Addr) (c : Nat) (x : PV) (w : World) (hx : x.in_ w) :
    let W := (x.box w).alloc (.cells #[.slice a n c, .slice (some ⟨w.heap.size, 0, none⟩) 1 1] 22)
    Below w.heap.size w W ∧ SlW W (some ⟨w.heap.size, 0, none⟩) [x] ∧ W.cell? ⟨w.heap.size + 1, 0, none⟩ = some (.slice a n c) ∧ W.cell? ⟨w.heap.size + 1, 1, none⟩ = some (.slice (some ⟨w.heap.size, 0, none⟩) 1 1) := by
  intro W
  have hB : Below w.heap.size w W := ((Below.refl _ _).alloc (Nat.le_refl _) _).alloc (by simp) _
  refine ⟨hB, ?_, ?_, ?_⟩
  · refine slW_of (fun y hy => by rw [List.mem_singleton] at hy; subst hy; exact hx.below hB) fun j u hu => ?_
    have := cell_five_new w x 34 j u hu
    rw [addr_at] at this
    rw [Nat.zero_add]
    have hb : Below (x.box w).heap.size (x.box w) W := (Below.refl _ _).alloc (Nat.le_refl _) _
    exact (hb.cell (p := ⟨w.heap.size, j, none⟩) (by simp)).trans this
  · simp [W, go_sem]
  · simp [W, go_sem]

set_option maxHeartbeats 2000000 in
set_option maxHeartbeats 2000000 in
theorem atV_some {o : Option Nat} (h : o.isSome = true) : 0 ≤ atV o := by
  cases o with
  | none => cases h
  | some k => exact Int.natCast_nonneg k
theorem atV_none {o : Option Nat} (h : o.isSome = false) : atV o = -1 := by
  cases o with
  | none => rfl
  | some k => cases h

set_option maxHeartbeats 2000000 in
theorem refCut_ok {n : Nat} (a : Option Addr) (l : List PV) (c : Nat) (id : ByteArray) (ct : Int) (w : World) (hs : SlW w a l) (hln : l.length = n) (hn : l.length ≤ 5200) (hst : stErr (l.map (·.v)) = 0) (he : cutErr (l.map (·.v)) id ct = 0) :
    Calls Tryd.prog 60 #[.slice a n c, .string id, .int .i64 ct] w (RefTo n (l ++ [⟨goneV id ct, At.none⟩]) w) := by
  obtain ⟨_, h1, h2, h3, h4⟩ := cutErr_ok.1 he
  have HS := Lib.hid hs
  have HLN := Lib.hid hln
  have HID := Lib.hid h1
  have HC := Lib.hid h2
  obtain ⟨m, hm⟩ : ∃ m, same (l.map (·.v)) ct = m := ⟨_, rfl⟩
  rw [hm] at h4
  have HM := Lib.hid hm
  obtain ⟨t, ht⟩ : ∃ t, atV (lastAt (l.map (·.v)) id ct n) = t := ⟨_, rfl⟩
  have h5 : 0 ≤ t := by
    rw [← ht]
    refine atV_some ?_
    rw [lastAt_lives n (by rw [List.length_map, hln]; exact Nat.le_refl _), List.take_of_length_le (by rw [List.length_map, hln]; exact Nat.le_refl _)]
    exact h3
  have HT := Lib.hid ht
  have hnn := hn
  rw [hln] at hnn
  have h6 : ¬ t < 0 := by omega
  clear hs hln h1 h2 h3 hm ht he hst
  go_enter Tryd.func60, Tryd.ntmps60
  go_wp2_with fail
  refine (refId_is id _ HID.out).mono ?_
  rintro e w1 ⟨rfl, hb1⟩
  have HB1 := Lib.hid hb1
  go_wp2_with fail
  refine (refCats_ok ct _ HC.out).mono ?_
  rintro e w2 ⟨rfl, hb2⟩
  have HB2 := Lib.hid (HB1.out.trans (hb2.mono HB1.out.size))
  go_wp2_with fail
  refine (refLives_is c id ct _ ⟨l, rfl, HLN.out, HS.out.below HB2.out⟩ (by omega) HT.out).mono ?_
  rintro e w3 ⟨rfl, hb3⟩
  have HB3 := Lib.hid (HB2.out.trans (hb3.mono HB2.out.size))
  clear hb1 hb2 hb3
  go_wp2_with fail
  refine (refSame_is c ct _ ⟨l, rfl, HLN.out, HS.out.below HB3.out⟩ (by omega) HM.out).mono ?_
  rintro e w4 ⟨rfl, hb4⟩
  have HB4 := Lib.hid (HB3.out.trans (hb4.mono HB3.out.size))
  clear hb4
  obtain ⟨hp1, hp2, hp3, hp4⟩ := pieces_at (n := n) a c ⟨goneV id ct, At.none⟩ w4 (NewRec.none 0 w4 id ct).in_
  have HCC := Lib.hid (concat_two (w4.heap.size + 1) a l c ⟨goneV id ct, At.none⟩ _ hn HLN.out ((HS.out.below HB4.out).below hp1) w4.heap.size hp2 hp3 hp4)
  have HP1 := Lib.hid hp1
  clear hp1 hp2 hp3 hp4
  go_wp2_with fail
  refine HCC.out.mono ?_
  rintro e w5 ⟨A, c', rfl, hr5, hb5⟩
  have hr6 : RowV w.heap.size w5 (.slice A (n + 1) c') (l ++ [⟨goneV id ct, At.none⟩]) := by
    have := own_low hr5 (show w.heap.size ≤ _ from Nat.le_trans HB4.out.size HP1.out.size)
    rw [List.length_append, HLN.out] at this
    unfold RowV
    rw [List.length_append, HLN.out]
    exact this
  have HR6 := Lib.hid hr6
  have HB5 := Lib.hid (HB4.out.trans ((HP1.out.trans (hb5.mono HP1.out.size)).mono HB4.out.size))
  have hle : (l ++ [(⟨goneV id ct, At.none⟩ : PV)]).length = n + 1 := by rw [List.length_append, HLN.out]; rfl
  obtain ⟨m', hm'⟩ : ∃ m', (l ++ [(⟨goneV id ct, At.none⟩ : PV)]).length = m' := ⟨_, rfl⟩
  rw [hm'] at hle ⊢
  subst hle
  clear hr5 hr6 hb5 HCC
  go_wp2_with fail
  go_ret2
  exact ⟨A, c', rfl, HR6.out, HB5.out⟩

set_option maxHeartbeats 2000000 in
theorem refCut_no {n : Nat} {er : Int} (a : Option Addr) (l : List PV) (c : Nat) (id : ByteArray) (ct : Int) (w : World) (hs : SlW w a l) (hln : l.length = n) (hn : l.length ≤ 5200) (hst : stErr (l.map (·.v)) = 0) (he : cutErr (l.map (·.v)) id ct = er) (h0 : er ≠ 0) :
    Calls Tryd.prog 60 #[.slice a n c, .string id, .int .i64 ct] w fun e w' => e = .returned (.tuple #[.slice none 0 0, .int .i64 er]) ∧ Below w.heap.size w w' := by
  have HS := Lib.hid hs
  have HLN := Lib.hid hln
  have HST := Lib.hid hst
  have HE := Lib.hid he
  have H0 := Lib.hid h0
  have hnn := hn
  rw [hln] at hnn
  clear hs hln hst he h0
  cases hid : isNm id with
  | false =>
    obtain rfl : er = 3 := by rw [← HE.out]; exact (cutErr_id HST.out hid).1
    have HID := Lib.hid hid
    clear hid
    go_enter Tryd.func60, Tryd.ntmps60
    go_wp2_with fail
    refine (refId_is id _ HID.out).mono ?_
    rintro e w1 ⟨rfl, hb1⟩
    go_wp2_with fail
    go_ret2
    exact ⟨rfl, hb1⟩
  | true =>
    have HID := Lib.hid hid
    clear hid
    by_cases hc : 0 ≤ ct ∧ ct ≤ 255
    · have HC := Lib.hid hc
      clear hc
      obtain ⟨t, ht⟩ : ∃ t, atV (lastAt (l.map (·.v)) id ct n) = t := ⟨_, rfl⟩
      have HT := Lib.hid ht
      have hlv : (lastAt (l.map (·.v)) id ct n).isSome = lives (l.map (·.v)) id ct := by
        rw [lastAt_lives n (by rw [List.length_map, HLN.out]; exact Nat.le_refl _), List.take_of_length_le (by rw [List.length_map, HLN.out]; exact Nat.le_refl _)]
      cases hl : lives (l.map (·.v)) id ct with
      | false =>
        obtain rfl : er = 4 := by rw [← HE.out]; exact (cutErr_none HST.out HID.out HC.out hl).1
        obtain rfl : t = -1 := by rw [← ht]; exact atV_none (hlv.trans hl)
        clear ht hlv hl
        go_enter Tryd.func60, Tryd.ntmps60
        go_wp2_with fail
        refine (refId_is id _ HID.out).mono ?_
        rintro e w1 ⟨rfl, hb1⟩
        have HB1 := Lib.hid hb1
        go_wp2_with fail
        refine (refCats_ok ct _ HC.out).mono ?_
        rintro e w2 ⟨rfl, hb2⟩
        have HB2 := Lib.hid (HB1.out.trans (hb2.mono HB1.out.size))
        go_wp2_with fail
        refine (refLives_is c id ct _ ⟨l, rfl, HLN.out, HS.out.below HB2.out⟩ (by omega) HT.out).mono ?_
        rintro e w3 ⟨rfl, hb3⟩
        go_wp2_with fail
        go_ret2
        exact ⟨rfl, HB2.out.trans (hb3.mono HB2.out.size)⟩
      | true =>
        have h5 : 0 ≤ t := by rw [← ht]; exact atV_some (hlv.trans hl)
        have h6 : ¬ t < 0 := by omega
        by_cases hf : 20 ≤ same (l.map (·.v)) ct
        · obtain rfl : er = 2 := by rw [← HE.out]; exact (cutErr_full HST.out HID.out HC.out hl hf).1
          obtain ⟨m, hm⟩ : ∃ m, same (l.map (·.v)) ct = m := ⟨_, rfl⟩
          rw [hm] at hf
          have HM := Lib.hid hm
          clear ht hlv hl hm
          go_enter Tryd.func60, Tryd.ntmps60
          go_wp2_with fail
          refine (refId_is id _ HID.out).mono ?_
          rintro e w1 ⟨rfl, hb1⟩
          have HB1 := Lib.hid hb1
          go_wp2_with fail
          refine (refCats_ok ct _ HC.out).mono ?_
          rintro e w2 ⟨rfl, hb2⟩
          have HB2 := Lib.hid (HB1.out.trans (hb2.mono HB1.out.size))
          go_wp2_with fail
          refine (refLives_is c id ct _ ⟨l, rfl, HLN.out, HS.out.below HB2.out⟩ (by omega) HT.out).mono ?_
          rintro e w3 ⟨rfl, hb3⟩
          have HB3 := Lib.hid (HB2.out.trans (hb3.mono HB2.out.size))
          clear hb1 hb2 hb3
          go_wp2_with fail
          refine (refSame_is c ct _ ⟨l, rfl, HLN.out, HS.out.below HB3.out⟩ (by omega) HM.out).mono ?_
          rintro e w4 ⟨rfl, hb4⟩
          go_wp2_with fail
          go_ret2
          exact ⟨rfl, HB3.out.trans (hb4.mono HB3.out.size)⟩
        · exact absurd (HE.out.symm.trans (cutErr_yes HST.out HID.out HC.out hl hf).1) H0.out
    · obtain rfl : er = 1 := by rw [← HE.out]; exact (cutErr_cats HST.out HID.out hc).1
      go_enter Tryd.func60, Tryd.ntmps60
      go_wp2_with fail
      refine (refId_is id _ HID.out).mono ?_
      rintro e w1 ⟨rfl, hb1⟩
      have HB1 := Lib.hid hb1
      go_wp2_with fail
      refine (refCats_bad ct _ hc).mono ?_
      clear hc
      rintro e w2 ⟨rfl, hb2⟩
      go_wp2_with fail
      go_ret2
      exact ⟨rfl, HB1.out.trans (hb2.mono HB1.out.size)⟩
end Go.Proofs.YtodlabohijabnaaDoor
