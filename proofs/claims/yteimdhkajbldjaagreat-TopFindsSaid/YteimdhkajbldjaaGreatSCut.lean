/- Contracts of Cut, Part, Hist. -/
import Derived.Test.YteimdhkajbldjaaGreatSPut2
import Derived.Test.YteimdhkajbldjaaGreatSMath2
set_option linter.unusedVariables false
set_option linter.unusedSimpArgs false
set_option maxRecDepth 100000
namespace Go.Proofs.YteimdhkajbldjaaGreat
open Go.RowKit Go.Sort Go.Maps

set_option maxHeartbeats 400000 in
theorem cats_ok (c : Int) (w : World) (h : 0 ≤ c ∧ c ≤ 255) : Calls Tryz.prog 92 #[.int .i64 c] w fun e w' => e = .returned (.int .i64 0) ∧ Below w.heap.size w w' := by
  obtain ⟨h0, h1⟩ := h
  go_enter Tryz.func92, Tryz.ntmps92
  go_wp2_with fail
  refine (lab_ok 0 c _ (by omega) (by omega) h0 h1).mono ?_
  rintro e w1 ⟨rfl, hb1⟩
  go_wp2_with fail
  go_ret
  exact ⟨rfl, hb1⟩
set_option maxHeartbeats 400000 in
theorem cats_bad (c : Int) (w : World) (h : ¬ (0 ≤ c ∧ c ≤ 255)) : Calls Tryz.prog 92 #[.int .i64 c] w fun e w' => e = .returned (.int .i64 1) ∧ Below w.heap.size w w' := by
  have H := Lib.hid h
  clear h
  go_enter Tryz.func92, Tryz.ntmps92
  go_wp2_with fail
  refine (lab_bad c _ H.out).mono ?_
  rintro e w1 ⟨rfl, hb1⟩
  go_wp2_with fail
  go_ret
  exact ⟨rfl, hb1⟩

/-! ## Cut -/
theorem cutErr_bad {l : List VerL} {id : ByteArray} {c : Int} (h : stErr l ≠ 0) : cutErr l id c = stErr l ∧ cutL l id c = [] := by
  have e : cutErr l id c = stErr l := by unfold cutErr; rw [if_pos h]
  exact ⟨e, by unfold cutL; rw [e, if_neg h]⟩
theorem cutErr_id {l : List VerL} {id : ByteArray} {c : Int} (h : stErr l = 0) (h1 : isNm id = false) : cutErr l id c = 3 ∧ cutL l id c = [] := by
  have e : cutErr l id c = 3 := by unfold cutErr; rw [if_neg (fun k => k h), if_pos h1]
  exact ⟨e, by unfold cutL; rw [e, if_neg (by decide)]⟩
theorem cutErr_cats {l : List VerL} {id : ByteArray} {c : Int} (h : stErr l = 0) (h1 : isNm id = true) (h2 : ¬ (0 ≤ c ∧ c ≤ 255)) : cutErr l id c = 1 ∧ cutL l id c = [] := by
  have e : cutErr l id c = 1 := by unfold cutErr; rw [if_neg (fun k => k h), if_neg (by rw [h1]; simp), if_pos h2]
  exact ⟨e, by unfold cutL; rw [e, if_neg (by decide)]⟩
theorem cutErr_none {l : List VerL} {id : ByteArray} {c : Int} (h : stErr l = 0) (h1 : isNm id = true) (h2 : 0 ≤ c ∧ c ≤ 255) (h3 : lives l id c = false) : cutErr l id c = 4 ∧ cutL l id c = [] := by
  have e : cutErr l id c = 4 := by unfold cutErr; rw [if_neg (fun k => k h), if_neg (by rw [h1]; simp), if_neg (fun k => k h2), if_pos h3]
  exact ⟨e, by unfold cutL; rw [e, if_neg (by decide)]⟩
theorem cutErr_full {l : List VerL} {id : ByteArray} {c : Int} (h : stErr l = 0) (h1 : isNm id = true) (h2 : 0 ≤ c ∧ c ≤ 255) (h3 : lives l id c = true) (h4 : 20 ≤ same l c) : cutErr l id c = 2 ∧ cutL l id c = [] := by
  have e : cutErr l id c = 2 := by unfold cutErr; rw [if_neg (fun k => k h), if_neg (by rw [h1]; simp), if_neg (fun k => k h2), if_neg (by rw [h3]; simp), if_pos h4]
  exact ⟨e, by unfold cutL; rw [e, if_neg (by decide)]⟩
theorem cutErr_yes {l : List VerL} {id : ByteArray} {c : Int} (h : stErr l = 0) (h1 : isNm id = true) (h2 : 0 ≤ c ∧ c ≤ 255) (h3 : lives l id c = true) (h4 : ¬ 20 ≤ same l c) : cutErr l id c = 0 ∧ cutL l id c = l ++ [goneV id c] := by
  have e : cutErr l id c = 0 := by unfold cutErr; rw [if_neg (fun k => k h), if_neg (by rw [h1]; simp), if_neg (fun k => k h2), if_neg (by rw [h3]; simp), if_neg h4]
  exact ⟨e, by unfold cutL; rw [e, if_pos rfl]⟩

set_option maxHeartbeats 2000000 in
theorem cut_is {n : Nat} {er : Int} {R : List VerL} {a : Option Addr} {vs : List VerL} (c : Nat) (id : ByteArray) (ct : Int) (w : World) (h : VsAt w a n vs) (hm : n ≤ maxLen) (hR : cutL vs id ct = R) (he : cutErr vs id ct = er) :
    Calls Tryz.prog 102 #[.slice a n c, .string id, .int .i64 ct] w (ListTo R er w) := by
  have HH := Lib.hid h
  have HM := Lib.hid hm
  have HR := Lib.hid hR
  have HE := Lib.hid he
  clear h hm hR he
  by_cases hs : stErr vs = 0
  · have HS := Lib.hid hs
    clear hs
    go_enter Tryz.func102, Tryz.ntmps102
    go_wp2_with fail
    refine (counts_ok c _ HH.out HM.out HS.out).mono ?_
    rintro e w1 ⟨b1, b2, rfl, hb1, ht⟩
    have hal : Below w1.heap.size w1 (w1.alloc (.cells #[.map (some b1), .map (some b2)] 162)) := (Below.refl _ _).alloc (Nat.le_refl _) _
    have HT := Lib.hid (ht.below hal)
    have HB := Lib.hid (hb1.trans (hal.mono hb1.size))
    clear ht hb1 hal
    go_wp2_with fail
    obtain ⟨t, ht⟩ : ∃ t, isNm id = t := ⟨_, rfl⟩
    have HID := Lib.hid ht
    refine (id_is id _ ht).mono ?_
    clear ht
    rintro e w2 ⟨rfl, hb2⟩
    have HB2 := Lib.hid (HB.out.trans (hb2.mono HB.out.size))
    have HT2 := Lib.hid (HT.out.below hb2)
    obtain ⟨hc2, hf2⟩ := bcell hb2
    have t0 : w2.cell? ⟨w1.heap.size, 0, none⟩ = some (.map (some b1)) := by rw [hc2 _ _ (by simp)]; simp [go_sem]
    have t1 : w2.cell? ⟨w1.heap.size, 1, none⟩ = some (.map (some b2)) := by rw [hc2 _ _ (by simp)]; simp [go_sem]
    have z2 : w1.heap.size < w2.heap.size := by have := hb2.size; simp at this; omega
    clear hc2 hf2 hb2
    cases t with
    | false =>
      obtain ⟨e1, e2⟩ := cutErr_id (c := ct) HS.out HID.out
      rw [e1] at HE
      rw [e2] at HR
      obtain rfl : er = 3 := HE.out.symm
      obtain rfl : R = [] := HR.out.symm
      go_wp2_with fail
      go_ret2
      exact ⟨none, 0, 0, rfl, NewW.nil _ _, HB2.out⟩
    | true =>
      go_wp2_with fail
      by_cases hcc : 0 ≤ ct ∧ ct ≤ 255
      · have HCC := Lib.hid hcc
        clear hcc
        refine (cats_ok ct _ HCC.out).mono ?_
        rintro e w3 ⟨rfl, hb3⟩
        have HB3 := Lib.hid (HB2.out.trans (hb3.mono HB2.out.size))
        have HT3 := Lib.hid (HT2.out.below hb3)
        obtain ⟨hc3, hf3⟩ := bcell hb3
        replace t0 := (hc3 _ 0 z2).trans t0
        replace t1 := (hc3 _ 1 z2).trans t1
        clear hc3 hf3 hb3
        obtain ⟨lv, hlv⟩ : ∃ lv, lives vs id ct = lv := ⟨_, rfl⟩
        have HLV := Lib.hid hlv
        have hlk := HT3.out.asks id ct (nm_max HID.out) (wf_cats HCC.out.1 HCC.out.2)
        rw [hlv] at hlk
        clear hlv
        cases lv with
        | false =>
          obtain ⟨e1, e2⟩ := cutErr_none HS.out HID.out HCC.out HLV.out
          rw [e1] at HE
          rw [e2] at HR
          obtain rfl : er = 4 := HE.out.symm
          obtain rfl : R = [] := HR.out.symm
          go_wp2_with fail
          go_ret2
          exact ⟨none, 0, 0, rfl, NewW.nil _ _, HB3.out⟩
        | true =>
          go_wp2_with fail
          by_cases hf : 20 ≤ same vs ct
          · obtain ⟨e1, e2⟩ := cutErr_full HS.out HID.out HCC.out HLV.out hf
            rw [e1] at HE
            rw [e2] at HR
            obtain rfl : er = 2 := HE.out.symm
            obtain rfl : R = [] := HR.out.symm
            refine (with_no a c ⟨goneV id ct, At.none⟩ _ HT3.out (wf_cats HCC.out.1 HCC.out.2) hf).mono ?_
            rintro e w4 ⟨A, m, c', rfl, hnw, hb4⟩
            have HN := Lib.hid hnw
            clear hnw hlk t0 t1
            go_wp2_with fail
            go_ret2
            exact ⟨A, m, c', rfl, HN.out.low HB3.out.size, HB3.out.trans (hb4.mono HB3.out.size)⟩
          · obtain ⟨e1, e2⟩ := cutErr_yes HS.out HID.out HCC.out HLV.out hf
            rw [e1] at HE
            rw [e2] at HR
            obtain rfl : er = 0 := HE.out.symm
            have hw := with_yes c ⟨goneV id ct, At.none⟩ w3 HT3.out (HH.out.below HB3.out) HS.out (NewRec.none 0 w3 id ct).in_ (RecL.okBare HID.out HCC.out) (show same vs ct < 20 by omega)
            simp only [HR.out] at hw
            have HW := Lib.hid hw
            clear hw hf hlk t0 t1
            refine HW.out.mono ?_
            rintro e w4 ⟨A, m, c', rfl, hnw, hb4⟩
            have HN := Lib.hid hnw
            clear hnw
            go_wp2_with fail
            go_ret2
            exact ⟨A, m, c', rfl, HN.out.low HB3.out.size, HB3.out.trans (hb4.mono HB3.out.size)⟩
      · obtain ⟨e1, e2⟩ := cutErr_cats HS.out HID.out hcc
        rw [e1] at HE
        rw [e2] at HR
        obtain rfl : er = 1 := HE.out.symm
        obtain rfl : R = [] := HR.out.symm
        refine (cats_bad ct _ hcc).mono ?_
        clear hcc
        rintro e w3 ⟨rfl, hb3⟩
        go_wp2_with fail
        go_ret2
        exact ⟨none, 0, 0, rfl, NewW.nil _ _, HB2.out.trans (hb3.mono HB2.out.size)⟩
  · obtain ⟨e1, e2⟩ := cutErr_bad (id := id) (c := ct) hs
    rw [e1] at HE
    rw [e2] at HR
    obtain rfl : R = [] := HR.out.symm
    have h0 : er ≠ 0 := by rw [← HE.out]; exact hs
    have h1 : (er == 0) = false := by simpa using h0
    have h2 : (er != 0) = true := by simpa using h0
    clear hs
    go_enter Tryz.func102, Tryz.ntmps102
    go_wp2_with fail
    refine (counts_bad c _ HH.out HM.out HE.out h0).mono ?_
    rintro e w1 ⟨rfl, hb1⟩
    go_wp2_with fail
    go_ret2
    exact ⟨none, 0, 0, rfl, NewW.nil _ _, hb1.alloc hb1.size _⟩

/-! ## Part and Hist -/
set_option maxHeartbeats 400000 in
theorem maySee_is (b0 : Nat) (x : PV) (a : Int) (w : World) (h : w.cell? ⟨b0, 0, none⟩ = some (.int .i64 a)) (h0 : 0 ≤ x.v.r.cats ∧ x.v.r.cats ≤ 255) (ha : 0 ≤ a ∧ a ≤ 255) :
    Calls Tryz.prog 93 #[x.val, .pointer (some ⟨b0, 0, none⟩)] w fun e w' => e = .returned (.bool (among x.v.r.cats a)) ∧ Below w.heap.size w w' := by
  have hlt := cell_lt h
  obtain ⟨p, hp⟩ : ∃ p : Nat, x.v.r.cats = p := ⟨x.v.r.cats.toNat, by omega⟩
  obtain ⟨q, hq⟩ : ∃ q : Nat, a = q := ⟨a.toNat, by omega⟩
  have hb := i64_andNot p q (by omega) (by omega)
  have he : among x.v.r.cats a = decide (sub p q = 0) := by
    unfold among
    rw [hp, hq, Int.toNat_natCast, Int.toNat_natCast]
  rw [he]
  subst hq
  obtain ⟨s, hs⟩ : ∃ s, sub p q = s := ⟨_, rfl⟩
  rw [hs] at hb ⊢
  have hb2 : bits .andNot .i64 x.v.r.cats (q : Int) = (s : Int) := by rw [hp]; exact hb
  clear hb hp hs h0 ha he
  go_enter Tryz.func93, Tryz.ntmps93
  go_wp2_with fail
  go_ret
  exact ⟨ret_bool (by rw [Bool.eq_iff_iff]; simp), by go_grown⟩
set_option maxHeartbeats 400000 in
theorem named_is (b0 : Nat) (x : PV) (id : ByteArray) (w : World) (h : w.cell? ⟨b0, 0, none⟩ = some (.string id)) :
    Calls Tryz.prog 132 #[x.val, .pointer (some ⟨b0, 0, none⟩)] w fun e w' => e = .returned (.bool (sEq x.v.r.id id)) ∧ Below w.heap.size w w' := by
  have hlt := cell_lt h
  go_enter Tryz.func132, Tryz.ntmps132
  go_wp2_with fail
  go_ret
  exact ⟨rfl, by go_grown⟩
theorem prtErr_bad {l : List VerL} {c : Int} (h : stErr l ≠ 0) : prtErr l c = stErr l ∧ prtL l c = [] := by
  have e : prtErr l c = stErr l := by unfold prtErr; rw [if_pos h]
  exact ⟨e, by unfold prtL; rw [e, if_neg h]⟩
theorem prtErr_no {l : List VerL} {c : Int} (h : stErr l = 0) (h2 : ¬ (0 ≤ c ∧ c ≤ 255)) : prtErr l c = 1 ∧ prtL l c = [] := by
  have e : prtErr l c = 1 := by unfold prtErr; rw [if_neg (fun k => k h), if_neg h2]
  exact ⟨e, by unfold prtL; rw [e, if_neg (by decide)]⟩
theorem prtErr_yes {l : List VerL} {c : Int} (h : stErr l = 0) (h2 : 0 ≤ c ∧ c ≤ 255) : prtErr l c = 0 ∧ prtL l c = prt l c := by
  have e : prtErr l c = 0 := by unfold prtErr; rw [if_neg (fun k => k h), if_pos h2]
  exact ⟨e, by unfold prtL; rw [e, if_pos rfl]⟩

def SubTo (R : List VerL) (w : World) (e : Ending) (w' : World) : Prop := ∃ A m c, e = .returned (.slice A m c) ∧ NewW w.heap.size w' A m c R ∧ Below w.heap.size w w'
theorem subTo_of {vs : List VerL} {w w' : World} {e : Ending} (h : ChosenTo vs w e w') : SubTo vs w e w' := by
  obtain ⟨A, c, he, ⟨q, hq, hr, ha⟩, hb⟩ := h
  exact ⟨A, vs.length, c, he, ⟨q, hq, by rw [← hq, List.length_map], hr, ha⟩, hb⟩
theorem chosen_part {n : Nat} {a : Option Addr} {vs : List VerL} (b0 : Nat) (ct : Int) (c : Nat) (w : World) (h : VsAt w a n vs) (hok : stErr vs = 0) (hc : w.cell? ⟨b0, 0, none⟩ = some (.int .i64 ct)) (hct : 0 ≤ ct ∧ ct ≤ 255) :
    Calls Tryz.prog 94 #[.slice a n c, .func (.func 93) #[] #[.pointer (some ⟨b0, 0, none⟩)]] w (SubTo (prt vs ct) w) := by
  obtain ⟨l, rfl, rfl, hs⟩ := h
  obtain ⟨h1, h2⟩ := stErr_ok.1 hok
  rw [List.length_map] at h1
  exact (chosenPart b0 (fun v => among v.r.cats ct) a l c w hs h1 (fun y hy => h2.short (List.mem_map_of_mem hy)) fun W x hW hx =>
    maySee_is b0 x ct W ((hW.cell (p := ⟨b0, 0, none⟩) (cell_lt hc)).trans hc) (h2.cats (List.mem_map_of_mem hx)) hct).mono fun e w' h => subTo_of h
theorem chosen_hist {n : Nat} {a : Option Addr} {vs : List VerL} (b0 : Nat) (id : ByteArray) (c : Nat) (w : World) (h : VsAt w a n vs) (hok : stErr vs = 0) (hc : w.cell? ⟨b0, 0, none⟩ = some (.string id)) :
    Calls Tryz.prog 94 #[.slice a n c, .func (.func 132) #[] #[.pointer (some ⟨b0, 0, none⟩)]] w (SubTo (hist vs id) w) := by
  obtain ⟨l, rfl, rfl, hs⟩ := h
  obtain ⟨h1, h2⟩ := stErr_ok.1 hok
  rw [List.length_map] at h1
  exact (chosenHist b0 (fun v => sEq v.r.id id) a l c w hs h1 (fun y hy => h2.short (List.mem_map_of_mem hy)) fun W x hW hx =>
    named_is b0 x id W ((hW.cell (p := ⟨b0, 0, none⟩) (cell_lt hc)).trans hc)).mono fun e w' h => subTo_of h

set_option maxHeartbeats 2000000 in
theorem prt_is {n : Nat} {er : Int} {R : List VerL} {a : Option Addr} {vs : List VerL} (c : Nat) (ct : Int) (w : World) (h : VsAt w a n vs) (hm : n ≤ maxLen) (hR : prtL vs ct = R) (he : prtErr vs ct = er) :
    Calls Tryz.prog 49 #[.slice a n c, .int .i64 ct] w (ListTo R er w) := by
  have hA : Below w.heap.size w (w.alloc (.cells #[.int .i64 ct] 3)) := (Below.refl _ _).alloc (Nat.le_refl _) _
  have HH := Lib.hid h
  have HM := Lib.hid hm
  have HR := Lib.hid hR
  have HE := Lib.hid he
  have HA := Lib.hid hA
  clear h hm hR he hA
  by_cases hs : stErr vs = 0
  · have HS := Lib.hid hs
    clear hs
    go_enter Tryz.func49, Tryz.ntmps49
    go_wp2_with fail
    refine (checks_is c _ (HH.out.below HA.out) HM.out HS.out).mono ?_
    rintro e w1 ⟨rfl, hb1⟩
    have HB := Lib.hid (HA.out.trans (hb1.mono HA.out.size))
    have z1 : w.heap.size < w1.heap.size := by have := hb1.size; simp at this; omega
    obtain ⟨hc1, hf1⟩ := bcell hb1
    have c0 : w1.cell? ⟨w.heap.size, 0, none⟩ = some (.int .i64 ct) := by rw [hc1 _ _ (by simp)]; simp [go_sem]
    clear hc1 hf1 hb1
    go_wp2_with fail
    by_cases hcc : 0 ≤ ct ∧ ct ≤ 255
    · obtain ⟨e1, e2⟩ := prtErr_yes HS.out hcc
      rw [e1] at HE
      rw [e2] at HR
      obtain rfl : er = 0 := HE.out.symm
      have HCC := Lib.hid hcc
      clear hcc
      refine (cats_ok ct _ HCC.out).mono ?_
      rintro e w2 ⟨rfl, hb2⟩
      have HB2 := Lib.hid (HB.out.trans (hb2.mono HB.out.size))
      have c2 := (hb2.cell (p := ⟨w.heap.size, 0, none⟩) z1).trans c0
      have HCH := Lib.hid (chosen_part w.heap.size ct c w2 (HH.out.below HB2.out) HS.out c2 HCC.out)
      rw [HR.out] at HCH
      clear hb2 c0 c2
      go_wp2_with fail
      refine HCH.out.mono ?_
      rintro e w3 ⟨A, m, c', rfl, hnw, hb3⟩
      have HN := Lib.hid hnw
      clear hnw
      go_wp2_with fail
      go_ret2
      exact ⟨A, m, c', rfl, HN.out.low HB2.out.size, HB2.out.trans (hb3.mono HB2.out.size)⟩
    · obtain ⟨e1, e2⟩ := prtErr_no HS.out hcc
      rw [e1] at HE
      rw [e2] at HR
      obtain rfl : er = 1 := HE.out.symm
      obtain rfl : R = [] := HR.out.symm
      refine (cats_bad ct _ hcc).mono ?_
      clear hcc
      rintro e w2 ⟨rfl, hb2⟩
      go_wp2_with fail
      go_ret2
      exact ⟨none, 0, 0, rfl, NewW.nil _ _, HB.out.trans (hb2.mono HB.out.size)⟩
  · obtain ⟨e1, e2⟩ := prtErr_bad (c := ct) hs
    rw [e1] at HE
    rw [e2] at HR
    obtain rfl : R = [] := HR.out.symm
    have h0 : er ≠ 0 := by rw [← HE.out]; exact hs
    have h1 : (er == 0) = false := by simpa using h0
    have h2 : (er != 0) = true := by simpa using h0
    clear hs
    go_enter Tryz.func49, Tryz.ntmps49
    go_wp2_with fail
    refine (checks_is c _ (HH.out.below HA.out) HM.out HE.out).mono ?_
    rintro e w1 ⟨rfl, hb1⟩
    go_wp2_with fail
    go_ret2
    exact ⟨none, 0, 0, rfl, NewW.nil _ _, HA.out.trans (hb1.mono HA.out.size)⟩

theorem histErr_bad {l : List VerL} {id : ByteArray} (h : stErr l ≠ 0) : histErr l id = stErr l ∧ histL l id = [] := by
  unfold histErr histL
  rw [if_pos h, if_pos h]
  exact ⟨rfl, rfl⟩
theorem histErr_none {l : List VerL} {id : ByteArray} (h : stErr l = 0) (h2 : hist l id = []) : histErr l id = 4 ∧ histL l id = [] := by
  unfold histErr histL
  rw [if_neg (c := stErr l ≠ 0) (fun k => k h), if_neg (c := stErr l ≠ 0) (fun k => k h), if_pos h2]
  exact ⟨rfl, h2⟩
theorem histErr_yes {l : List VerL} {id : ByteArray} (h : stErr l = 0) (h2 : hist l id ≠ []) : histErr l id = 0 ∧ histL l id = hist l id := by
  unfold histErr histL
  rw [if_neg (c := stErr l ≠ 0) (fun k => k h), if_neg (c := stErr l ≠ 0) (fun k => k h), if_neg h2]
  exact ⟨rfl, rfl⟩

set_option maxHeartbeats 2000000 in
theorem hist_is {n : Nat} {er : Int} {R : List VerL} {a : Option Addr} {vs : List VerL} (c : Nat) (id : ByteArray) (w : World) (h : VsAt w a n vs) (hm : n ≤ maxLen) (hR : histL vs id = R) (he : histErr vs id = er) :
    Calls Tryz.prog 105 #[.slice a n c, .string id] w (ListTo R er w) := by
  have hA : Below w.heap.size w (w.alloc (.cells #[.string id] 9)) := (Below.refl _ _).alloc (Nat.le_refl _) _
  have HH := Lib.hid h
  have HM := Lib.hid hm
  have HR := Lib.hid hR
  have HE := Lib.hid he
  have HA := Lib.hid hA
  clear h hm hR he hA
  by_cases hs : stErr vs = 0
  · have HS := Lib.hid hs
    clear hs
    go_enter Tryz.func105, Tryz.ntmps105
    go_wp2_with fail
    refine (checks_is c _ (HH.out.below HA.out) HM.out HS.out).mono ?_
    rintro e w1 ⟨rfl, hb1⟩
    have HB := Lib.hid (HA.out.trans (hb1.mono HA.out.size))
    obtain ⟨hc1, hf1⟩ := bcell hb1
    have c0 : w1.cell? ⟨w.heap.size, 0, none⟩ = some (.string id) := by rw [hc1 _ _ (by simp)]; simp [go_sem]
    have HCH := Lib.hid (chosen_hist w.heap.size id c w1 (HH.out.below HB.out) HS.out c0)
    clear hc1 hf1 hb1 c0
    go_wp2_with fail
    refine HCH.out.mono ?_
    rintro e w2 ⟨A, m, c', rfl, hnw, hb2⟩
    have hln := hnw.at_.len
    have hcp := hnw.cap
    unfold maxLen at hcp
    obtain ⟨hcp1, hcp2⟩ := hcp
    have HN := Lib.hid hnw
    have HLN := Lib.hid hln
    clear hnw hln
    by_cases hh : hist vs id = []
    · obtain ⟨e1, e2⟩ := histErr_none HS.out hh
      rw [e1] at HE
      rw [e2] at HR
      obtain rfl : er = 4 := HE.out.symm
      obtain rfl : R = [] := HR.out.symm
      obtain rfl : m = 0 := by rw [HLN.out, hh]; rfl
      clear hh
      go_wp2_with fail
      go_ret2
      exact ⟨none, 0, 0, rfl, NewW.nil _ _, HB.out.trans (hb2.mono HB.out.size)⟩
    · obtain ⟨e1, e2⟩ := histErr_yes HS.out hh
      rw [e1] at HE
      rw [e2] at HR
      obtain rfl : er = 0 := HE.out.symm
      have hm0 : 0 < m := by rw [HLN.out]; exact List.length_pos_iff.2 hh
      have d0 : ((m : Int) == 0) = false := by simp; omega
      have d1 : ¬ m = 0 := by omega
      clear hh
      go_wp2_with fail
      go_ret2
      have hnw := HN.out.low HB.out.size
      rw [HR.out] at hnw
      exact ⟨A, m, c', rfl, hnw, HB.out.trans (hb2.mono HB.out.size)⟩
  · obtain ⟨e1, e2⟩ := histErr_bad (id := id) hs
    rw [e1] at HE
    rw [e2] at HR
    obtain rfl : R = [] := HR.out.symm
    have h0 : er ≠ 0 := by rw [← HE.out]; exact hs
    have h1 : (er == 0) = false := by simpa using h0
    have h2 : (er != 0) = true := by simpa using h0
    clear hs
    go_enter Tryz.func105, Tryz.ntmps105
    go_wp2_with fail
    refine (checks_is c _ (HH.out.below HA.out) HM.out HE.out).mono ?_
    rintro e w1 ⟨rfl, hb1⟩
    go_wp2_with fail
    go_ret2
    exact ⟨none, 0, 0, rfl, NewW.nil _ _, HA.out.trans (hb1.mono HA.out.size)⟩
end Go.Proofs.YteimdhkajbldjaaGreat
