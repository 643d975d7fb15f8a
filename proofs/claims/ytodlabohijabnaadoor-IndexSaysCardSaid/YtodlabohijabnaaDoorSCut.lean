/- Contracts of Cut, Part, Hist. -/
import Derived.Test.YtodlabohijabnaaDoorSPut2
import Derived.Test.YtodlabohijabnaaDoorSMath2
set_option linter.unusedVariables false
set_option linter.unusedSimpArgs false
set_option maxRecDepth 100000
namespace Go.Proofs.YtodlabohijabnaaDoor
open Go.RowKit Go.Sort Go.Maps

set_option maxHeartbeats 400000 in
theorem cats_ok (c : Int) (w : World) (h : 0 ≤ c ∧ c ≤ 255) : Calls Tryd.prog 74 #[.int .i64 c] w fun e w' => e = .returned (.int .i64 0) ∧ Below w.heap.size w w' := by
  obtain ⟨h0, h1⟩ := h
  go_enter Tryd.func74, Tryd.ntmps74
  go_wp2_with fail
  refine (lab_ok 0 c _ (by omega) (by omega) h0 h1).mono ?_
  rintro e w1 ⟨rfl, hb1⟩
  go_wp2_with fail
  go_ret
  exact ⟨rfl, hb1⟩
set_option maxHeartbeats 400000 in
theorem cats_bad (c : Int) (w : World) (h : ¬ (0 ≤ c ∧ c ≤ 255)) : Calls Tryd.prog 74 #[.int .i64 c] w fun e w' => e = .returned (.int .i64 1) ∧ Below w.heap.size w w' := by
  have H := Lib.hid h
  clear h
  go_enter Tryd.func74, Tryd.ntmps74
  go_wp2_with fail
  refine (lab_bad c _ H.out).mono ?_
  rintro e w1 ⟨rfl, hb1⟩
  go_wp2_with fail
  go_ret
  exact ⟨rfl, hb1⟩

/-! ## Cut -/
theorem cutErr_bad {l : List VerL} {id : ByteArray} {c : Int} (h : stErr l ≠ 0) : cutErr l id c = stErr l ∧ cutL l id c = [] := by
  have e : cutErr l id c = stErr l := by unfold cutErr; rw [if_pos h]
  exact ⟨e, by unfold cutL; rw [e, if_neg h]⟩
theorem cutErr_id {l : List VerL} {id : ByteArray} {c : Int} (h : stErr l = 0) (h1 : isNm id = false) : cutErr l id c = 3 ∧ cutL l id c = [] := by
  have e : cutErr l id c = 3 := by unfold cutErr; rw [if_neg (fun k => k h), if_pos h1]
  exact ⟨e, by unfold cutL; rw [e, if_neg (by decide)]⟩
theorem cutErr_cats {l : List VerL} {id : ByteArray} {c : Int} (h : stErr l = 0) (h1 : isNm id = true) (h2 : ¬ (0 ≤ c ∧ c ≤ 255)) : cutErr l id c = 1 ∧ cutL l id c = [] := by
  have e : cutErr l id c = 1 := by unfold cutErr; rw [if_neg (fun k => k h), if_neg (by rw [h1]; simp), if_pos h2]
  exact ⟨e, by unfold cutL; rw [e, if_neg (by decide)]⟩
theorem cutErr_none {l : List VerL} {id : ByteArray} {c : Int} (h : stErr l = 0) (h1 : isNm id = true) (h2 : 0 ≤ c ∧ c ≤ 255) (h3 : lives l id c = false) : cutErr l id c = 4 ∧ cutL l id c = [] := by
  have e : cutErr l id c = 4 := by unfold cutErr; rw [if_neg (fun k => k h), if_neg (by rw [h1]; simp), if_neg (fun k => k h2), if_pos h3]
  exact ⟨e, by unfold cutL; rw [e, if_neg (by decide)]⟩
theorem cutErr_full {l : List VerL} {id : ByteArray} {c : Int} (h : stErr l = 0) (h1 : isNm id = true) (h2 : 0 ≤ c ∧ c ≤ 255) (h3 : lives l id c = true) (h4 : 20 ≤ same l c) : cutErr l id c = 2 ∧ cutL l id c = [] := by
  have e : cutErr l id c = 2 := by unfold cutErr; rw [if_neg (fun k => k h), if_neg (by rw [h1]; simp), if_neg (fun k => k h2), if_neg (by rw [h3]; simp), if_pos h4]
  exact ⟨e, by unfold cutL; rw [e, if_neg (by decide)]⟩
theorem cutErr_yes {l : List VerL} {id : ByteArray} {c : Int} (h : stErr l = 0) (h1 : isNm id = true) (h2 : 0 ≤ c ∧ c ≤ 255) (h3 : lives l id c = true) (h4 : ¬ 20 ≤ same l c) : cutErr l id c = 0 ∧ cutL l id c = l ++ [goneV id c] := by
  have e : cutErr l id c = 0 := by unfold cutErr; rw [if_neg (fun k => k h), if_neg (by rw [h1]; simp), if_neg (fun k => k h2), if_neg (by rw [h3]; simp), if_neg h4]
  exact ⟨e, by unfold cutL; rw [e, if_pos rfl]⟩

set_option maxHeartbeats 2000000 in
set_option maxHeartbeats 400000 in
theorem maySee_is (b0 : Nat) (x : PV) (a : Int) (w : World) (h : w.cell? ⟨b0, 0, none⟩ = some (.int .i64 a)) (h0 : 0 ≤ x.v.r.cats ∧ x.v.r.cats ≤ 255) (ha : 0 ≤ a ∧ a ≤ 255) :
    Calls Tryd.prog 75 #[x.val, .pointer (some ⟨b0, 0, none⟩)] w fun e w' => e = .returned (.bool (among x.v.r.cats a)) ∧ Below w.heap.size w w' := by
  have hlt := cell_lt h
  obtain ⟨p, hp⟩ : ∃ p : Nat, x.v.r.cats = p := ⟨x.v.r.cats.toNat, by omega⟩
  obtain ⟨q, hq⟩ : ∃ q : Nat, a = q := ⟨a.toNat, by omega⟩
  have hb := i64_andNot p q (by omega) (by omega)
  have he : among x.v.r.cats a = decide (sub p q = 0) := by
    unfold among
    rw [hp, hq, Int.toNat_natCast, Int.toNat_natCast]
  rw [he]
  subst hq
  obtain ⟨s, hs⟩ : ∃ s, sub p q = s := ⟨_, rfl⟩
  rw [hs] at hb ⊢
  have hb2 : bits .andNot .i64 x.v.r.cats (q : Int) = (s : Int) := by rw [hp]; exact hb
  clear hb hp hs h0 ha he
  go_enter Tryd.func75, Tryd.ntmps75
  go_wp2_with fail
  go_ret
  exact ⟨ret_bool (by rw [Bool.eq_iff_iff]; simp), by go_grown⟩
set_option maxHeartbeats 400000 in
theorem prtErr_bad {l : List VerL} {c : Int} (h : stErr l ≠ 0) : prtErr l c = stErr l ∧ prtL l c = [] := by
  have e : prtErr l c = stErr l := by unfold prtErr; rw [if_pos h]
  exact ⟨e, by unfold prtL; rw [e, if_neg h]⟩
theorem prtErr_no {l : List VerL} {c : Int} (h : stErr l = 0) (h2 : ¬ (0 ≤ c ∧ c ≤ 255)) : prtErr l c = 1 ∧ prtL l c = [] := by
  have e : prtErr l c = 1 := by unfold prtErr; rw [if_neg (fun k => k h), if_neg h2]
  exact ⟨e, by unfold prtL; rw [e, if_neg (by decide)]⟩
theorem prtErr_yes {l : List VerL} {c : Int} (h : stErr l = 0) (h2 : 0 ≤ c ∧ c ≤ 255) : prtErr l c = 0 ∧ prtL l c = prt l c := by
  have e : prtErr l c = 0 := by unfold prtErr; rw [if_neg (fun k => k h), if_pos h2]
  exact ⟨e, by unfold prtL; rw [e, if_pos rfl]⟩

def SubTo (R : List VerL) (w : World) (e : Ending) (w' : World) : Prop := ∃ A m c, e = .returned (.slice A m c) ∧ NewW w.heap.size w' A m c R ∧ Below w.heap.size w w'
theorem subTo_of {vs : List VerL} {w w' : World} {e : Ending} (h : ChosenTo vs w e w') : SubTo vs w e w' := by
  obtain ⟨A, c, he, ⟨q, hq, hr, ha⟩, hb⟩ := h
  exact ⟨A, vs.length, c, he, ⟨q, hq, by rw [← hq, List.length_map], hr, ha⟩, hb⟩
theorem chosen_part {n : Nat} {a : Option Addr} {vs : List VerL} (b0 : Nat) (ct : Int) (c : Nat) (w : World) (h : VsAt w a n vs) (hok : stErr vs = 0) (hc : w.cell? ⟨b0, 0, none⟩ = some (.int .i64 ct)) (hct : 0 ≤ ct ∧ ct ≤ 255) :
    Calls Tryd.prog 76 #[.slice a n c, .func (.func 75) #[] #[.pointer (some ⟨b0, 0, none⟩)]] w (SubTo (prt vs ct) w) := by
  obtain ⟨l, rfl, rfl, hs⟩ := h
  obtain ⟨h1, h2⟩ := stErr_ok.1 hok
  rw [List.length_map] at h1
  exact (chosenPart b0 (fun v => among v.r.cats ct) a l c w hs h1 (fun y hy => h2.short (List.mem_map_of_mem hy)) fun W x hW hx =>
    maySee_is b0 x ct W ((hW.cell (p := ⟨b0, 0, none⟩) (cell_lt hc)).trans hc) (h2.cats (List.mem_map_of_mem hx)) hct).mono fun e w' h => subTo_of h
set_option maxHeartbeats 2000000 in
theorem prt_is {n : Nat} {er : Int} {R : List VerL} {a : Option Addr} {vs : List VerL} (c : Nat) (ct : Int) (w : World) (h : VsAt w a n vs) (hm : n ≤ maxLen) (hR : prtL vs ct = R) (he : prtErr vs ct = er) :
    Calls Tryd.prog 40 #[.slice a n c, .int .i64 ct] w (ListTo R er w) := by
  have hA : Below w.heap.size w (w.alloc (.cells #[.int .i64 ct] 3)) := (Below.refl _ _).alloc (Nat.le_refl _) _
  have HH := Lib.hid h
  have HM := Lib.hid hm
  have HR := Lib.hid hR
  have HE := Lib.hid he
  have HA := Lib.hid hA
  clear h hm hR he hA
  by_cases hs : stErr vs = 0
  · have HS := Lib.hid hs
    clear hs
    go_enter Tryd.func40, Tryd.ntmps40
    go_wp2_with fail
    refine (checks_is c _ (HH.out.below HA.out) HM.out HS.out).mono ?_
    rintro e w1 ⟨rfl, hb1⟩
    have HB := Lib.hid (HA.out.trans (hb1.mono HA.out.size))
    have z1 : w.heap.size < w1.heap.size := by have := hb1.size; simp at this; omega
    obtain ⟨hc1, hf1⟩ := bcell hb1
    have c0 : w1.cell? ⟨w.heap.size, 0, none⟩ = some (.int .i64 ct) := by rw [hc1 _ _ (by simp)]; simp [go_sem]
    clear hc1 hf1 hb1
    go_wp2_with fail
    by_cases hcc : 0 ≤ ct ∧ ct ≤ 255
    · obtain ⟨e1, e2⟩ := prtErr_yes HS.out hcc
      rw [e1] at HE
      rw [e2] at HR
      obtain rfl : er = 0 := HE.out.symm
      have HCC := Lib.hid hcc
      clear hcc
      refine (cats_ok ct _ HCC.out).mono ?_
      rintro e w2 ⟨rfl, hb2⟩
      have HB2 := Lib.hid (HB.out.trans (hb2.mono HB.out.size))
      have c2 := (hb2.cell (p := ⟨w.heap.size, 0, none⟩) z1).trans c0
      have HCH := Lib.hid (chosen_part w.heap.size ct c w2 (HH.out.below HB2.out) HS.out c2 HCC.out)
      rw [HR.out] at HCH
      clear hb2 c0 c2
      go_wp2_with fail
      refine HCH.out.mono ?_
      rintro e w3 ⟨A, m, c', rfl, hnw, hb3⟩
      have HN := Lib.hid hnw
      clear hnw
      go_wp2_with fail
      go_ret2
      exact ⟨A, m, c', rfl, HN.out.low HB2.out.size, HB2.out.trans (hb3.mono HB2.out.size)⟩
    · obtain ⟨e1, e2⟩ := prtErr_no HS.out hcc
      rw [e1] at HE
      rw [e2] at HR
      obtain rfl : er = 1 := HE.out.symm
      obtain rfl : R = [] := HR.out.symm
      refine (cats_bad ct _ hcc).mono ?_
      clear hcc
      rintro e w2 ⟨rfl, hb2⟩
      go_wp2_with fail
      go_ret2
      exact ⟨none, 0, 0, rfl, NewW.nil _ _, HB.out.trans (hb2.mono HB.out.size)⟩
  · obtain ⟨e1, e2⟩ := prtErr_bad (c := ct) hs
    rw [e1] at HE
    rw [e2] at HR
    obtain rfl : R = [] := HR.out.symm
    have h0 : er ≠ 0 := by rw [← HE.out]; exact hs
    have h1 : (er == 0) = false := by simpa using h0
    have h2 : (er != 0) = true := by simpa using h0
    clear hs
    go_enter Tryd.func40, Tryd.ntmps40
    go_wp2_with fail
    refine (checks_is c _ (HH.out.below HA.out) HM.out HE.out).mono ?_
    rintro e w1 ⟨rfl, hb1⟩
    go_wp2_with fail
    go_ret2
    exact ⟨none, 0, 0, rfl, NewW.nil _ _, HA.out.trans (hb1.mono HA.out.size)⟩

theorem histErr_bad {l : List VerL} {id : ByteArray} (h : stErr l ≠ 0) : histErr l id = stErr l ∧ histL l id = [] := by
  unfold histErr histL
  rw [if_pos h, if_pos h]
  exact ⟨rfl, rfl⟩
theorem histErr_none {l : List VerL} {id : ByteArray} (h : stErr l = 0) (h2 : hist l id = []) : histErr l id = 4 ∧ histL l id = [] := by
  unfold histErr histL
  rw [if_neg (c := stErr l ≠ 0) (fun k => k h), if_neg (c := stErr l ≠ 0) (fun k => k h), if_pos h2]
  exact ⟨rfl, h2⟩
theorem histErr_yes {l : List VerL} {id : ByteArray} (h : stErr l = 0) (h2 : hist l id ≠ []) : histErr l id = 0 ∧ histL l id = hist l id := by
  unfold histErr histL
  rw [if_neg (c := stErr l ≠ 0) (fun k => k h), if_neg (c := stErr l ≠ 0) (fun k => k h), if_neg h2]
  exact ⟨rfl, rfl⟩

end Go.Proofs.YtodlabohijabnaaDoor
