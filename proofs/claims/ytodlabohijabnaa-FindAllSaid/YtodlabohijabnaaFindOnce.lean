/- FindOnce's walk. -/
import Derived.Test.YtodlabohijabnaaFindPages
import Derived.Test.YtodlabohijabnaaFSorted
set_option linter.unusedVariables false
set_option linter.unusedSimpArgs false
set_option maxRecDepth 100000
namespace Go.Proofs.Ytodlabohijabnaa
open Go.RowKit Go.Sort Go.Shelf

theorem litC : pageErr [chA, chB, chC] 5 = 0 ∧ pageL [chA, chB, chC] chB 5 = [chC] ∧ pageMore [chA, chB, chC] chB 5 = false := by
  have h0 : pageErr [chA, chB, chC] 5 = 0 := pageErr_ok.2 ⟨by simp, asc_abc, by omega, by omega⟩
  obtain ⟨k1, k2⟩ := page_good (s := chB) h0
  have ha : above [chA, chB, chC] chB = [chC] := by
    unfold above
    simp [sLt_irrefl, ltBC, sLt_asymm ltAB]
  rw [k1, k2, ha]
  exact ⟨h0, rfl, rfl⟩

/-- the names of a list, sorted and each once, as slices.Compact(slices.Sorted(..)) answers them -/
def CompTo (l : List ByteArray) (B : Nat) (w : World) (e : Ending) (w' : World) : Prop := ∃ A k c, e = .returned (.slice A k c) ∧ Hid ((sortedN l).length = k) ∧ Hid (SlS w' A (sortedN l)) ∧ Hid (k ≤ c ∧ c ≤ maxLen) ∧ Hid (Below B w w')
theorem sortedN_asc (l : List ByteArray) : Asc (sortedN l) := by
  rw [sortedN_eq]
  have tr : ∀ a b c : List UInt8, decide (a ≤ b) = true → decide (b ≤ c) = true → decide (a ≤ c) = true := fun a b c h1 h2 => by simp only [decide_eq_true_eq] at *; exact List.le_trans h1 h2
  have to : ∀ a b : List UInt8, (decide (a ≤ b) || decide (b ≤ a)) = true := fun a b => by simp only [Bool.or_eq_true, decide_eq_true_eq]; exact List.le_total a b
  have hs : ((l.map fun s => s.data.toList).mergeSort fun x y => decide (x ≤ y)).Pairwise (fun a b => a ≤ b) := (List.pairwise_mergeSort tr to _).imp fun h => by simpa using h
  obtain ⟨h1, h2⟩ := compact_upTo hs _ (Nat.le_refl _)
  unfold namesOf Asc
  refine List.pairwise_map.2 (List.Pairwise.imp ?_ h1)
  rintro a b ⟨hab, hne⟩
  have hba : sLt ⟨b.toArray⟩ ⟨a.toArray⟩ = false := le_iff.1 (by simpa using hab)
  rcases sLt_tri ⟨a.toArray⟩ ⟨b.toArray⟩ with k | k | k
  · exact k
  · exact absurd (by simpa using k) hne
  · rw [hba] at k; cases k
theorem sortedN_nil : sortedN [] = [] := by
  unfold sortedN toNames sortB
  simp [Lib.compact, Lib.compactUpTo]
theorem comp_of {B : Nat} (l : List ByteArray) (w w1 : World) (e1 : Ending) (h : SortTo l w e1 w1) : ∃ A n c, e1 = .returned (.slice A n c) ∧ Calls Try.prog 9 #[.slice A n c] w1 (CompTo l w.heap.size w1) := by
  rcases h with ⟨rfl, rfl, hb⟩ | ⟨g, c, rfl, hrow, hb⟩
  · refine ⟨none, 0, 0, rfl, (Any.slices_Compact_string_empty Try.lays194 none 0 _).mono ?_⟩
    rintro e w' ⟨rfl, rfl⟩
    exact ⟨none, 0, 0, rfl, (by rw [sortedN_nil]; rfl), SlS.nil' _ _ (by rw [sortedN_nil]), ⟨Nat.le_refl _, Nat.zero_le _⟩, Below.refl _ _⟩
  · refine ⟨_, _, c, rfl, (compact_of g c l w1 rfl hrow hb.size).mono ?_⟩
    rintro e w' ⟨rfl, ho, hb2⟩
    obtain ⟨h1, h2, h3⟩ := OwnS.sl ho
    exact ⟨_, _, c, rfl, rfl, h1, ⟨h2, h3⟩, hb2⟩

theorem OwnS.at_' {B : Nat} {w : World} {A : Option Addr} {k c : Nat} {L : List ByteArray} (h : OwnS B w (.slice A k c) L) (hl : L.length = k) : SlS w A L ∧ k ≤ c ∧ c ≤ maxLen := by
  subst hl
  exact OwnS.sl h

set_option maxHeartbeats 2000000 in
theorem findOnce_walk (a : Option Addr) (c : Nat) (l : List ByteArray) (s : ByteArray) (w : World) (hs : SlS w a l) (hl : l.length ≤ c) (hm : c ≤ maxLen) (hz : l.length * 16 ≤ 140737488355328) (hsm : s.size ≤ maxLen) :
    Calls Try.prog 5 #[.slice a l.length c, .string s] w fun e w' => e = .returned (.bool true) ∧ Below w.heap.size w w' := by
  clear hsm
  have HS := Lib.hid hs
  obtain ⟨n, hn⟩ : ∃ n, l.length = n := ⟨_, rfl⟩
  have HN := Lib.hid hn
  rw [hn] at hz ⊢
  clear hs hn hl hm
  go_enter Try.func5, Try.ntmps5
  go_wp2_with fail
  obtain ⟨l1, l2, l3⟩ := litC
  refine (page_to _ [chA, chB, chC] 3 chB 5 _ (sl_new w 9 [chA, chB, chC]) rfl (Nat.le_refl _) (by unfold maxLen; omega) l1 l2 l3).mono ?_
  clear l1 l2 l3
  rintro e w2 ⟨A2, k2, c2, rfl, hk2, ho2, hb2⟩
  have h1 : Below w.heap.size w w2 := ((Below.refl _ _).alloc (Nat.le_refl _) _).trans (hb2.mono (by simp))
  obtain rfl : k2 = 1 := hk2.symm
  have HO2 := Lib.hid (OwnS.sl (rs := [chC]) ho2).1
  have HB2 := Lib.hid h1
  clear hk2 ho2 hb2 h1
  go_wp2_with fail
  refine (eqS_is (b := true) A2 _ [chC] [chC] c2 1 _ (HO2.out.below ((Below.refl _ _).alloc (Nat.le_refl _) _)) (sl_new w2 9 [chC]) (by unfold maxLen; simp) (by unfold maxLen; simp) (by simp)).mono ?_
  rintro e w3 ⟨rfl, hb3⟩
  have HB3 := Lib.hid ((HB2.out.alloc HB2.out.size _).trans (hb3.mono (HB2.out.alloc HB2.out.size _).size))
  clear hb3 HB2 HO2
  go_wp2_with fail
  refine (vals_is a n c _).mono ?_
  rintro e w4 ⟨rfl, rfl⟩
  have hB4 : Below w.heap.size w (w3.alloc (.cells #[.slice a n c] 22)) := HB3.out.alloc HB3.out.size _
  have HSO := Lib.hid (sorted_of w3.heap.size c a l HN.out (by omega) hz (w3.alloc (.cells #[.slice a n c] 22)) (HS.out.below hB4) (by simp [go_sem]))
  have HB4 := Lib.hid hB4
  clear hB4
  go_wp2_with fail
  refine HSO.out.mono ?_
  intro e w5 hsort
  have hb5 : Below (w3.alloc (.cells #[.slice a n c] 22)).heap.size (w3.alloc (.cells #[.slice a n c] 22)) w5 := by
    rcases hsort with ⟨_, _, hb⟩ | ⟨_, _, _, _, hb⟩ <;> exact hb
  obtain ⟨A5, n5, c5, rfl, hcomp⟩ := comp_of (B := 0) l _ _ _ hsort
  have HCOMP := Lib.hid hcomp
  have HB5 := Lib.hid (HB4.out.trans (hb5.mono HB4.out.size))
  have HSZ := Lib.hid (Nat.le_trans HB4.out.size (Nat.le_refl _))
  clear hsort hb5 hcomp HSO
  go_wp2_with fail
  refine HCOMP.out.mono ?_
  rintro e w6 ⟨A6, k6, c6, rfl, HK6, HS6, HC6, HB6⟩
  have HB7 := Lib.hid (HB5.out.trans (HB6.out.mono HSZ.out))
  have HASC := Lib.hid (sortedN_asc l)
  obtain ⟨X, hX⟩ : ∃ X, sortedN l = X := ⟨_, rfl⟩
  rw [hX] at HK6 HS6 HASC
  clear HCOMP HB6 HB5 hX HB3 HB4
  obtain ⟨m, hm⟩ : ∃ m : Nat, m = min k6 60 := ⟨_, rfl⟩
  have hmin : min (k6 : Int) 60 = (m : Int) := by omega
  have hm1 : m ≤ k6 := by omega
  have hm2 : m ≤ 60 := by omega
  have h66 : k6 ≤ c6 := HC6.out.1
  clear hm
  obtain ⟨ids, hids⟩ : ∃ ids, X.take m = ids := ⟨_, rfl⟩
  have HI : Hid (ids.length = m) := by
    show ids.length = m
    rw [← hids, List.length_take, HK6.out]; omega
  have HSI : Hid (SlS w6 A6 ids) := by
    show SlS w6 A6 ids
    rw [← hids]; exact sl_take HS6.out m
  have HAI : Hid (Asc ids) := by
    show Asc ids
    rw [← hids]; exact HASC.out.sublist (List.take_sublist _ _)
  have he0 : pageErr ids 60 = 0 := pageErr_ok.2 ⟨by rw [HI.out]; omega, HAI.out, by omega, by omega⟩
  obtain ⟨g1, g2⟩ := page_good (s := s) he0
  obtain ⟨Y, hY⟩ : ∃ Y, above ids s = Y := ⟨_, rfl⟩
  have hYl : Y.length ≤ m := by rw [← hY, ← HI.out]; exact List.length_filter_le _ _
  have hg1 : pageL ids s 60 = Y := by rw [g1, hY, List.take_of_length_le (by show Y.length ≤ 60; omega)]
  have hg2 : pageMore ids s 60 = false := by rw [g2, hY, decide_eq_false_iff_not]; omega
  have HPG := Lib.hid (page_to A6 ids c6 s 60 w6 HSI.out HI.out (by omega) HC6.out.2 he0 hg1 hg2)
  have HY := Lib.hid hY
  clear he0 g1 g2 hY hg1 hg2 hids HS6 HASC HK6
  go_wp2_with fail
  refine HPG.out.mono ?_
  rintro e w7 ⟨A7, k7, c7, rfl, hk7, ho7, hb7⟩
  have HB8 := Lib.hid (HB7.out.trans (hb7.mono HB7.out.size))
  have HO7 := Lib.hid ho7
  have HK7 := Lib.hid hk7
  have HSI7 := Lib.hid (HSI.out.below hb7)
  rw [hk7] at hYl
  clear hk7 ho7 hb7 HPG
  obtain ⟨d, hd⟩ : ∃ d : Nat, d = m - k7 := ⟨_, rfl⟩
  have hsub : (m : Int) - (k7 : Int) = (d : Int) := by omega
  have hdu : upTo ids s = d := by
    have h1 := above_drop s HAI.out
    have h2 := congrArg List.length h1
    rw [List.length_drop, HI.out, HY.out, HK7.out] at h2
    have h3 := upTo_le ids s
    rw [HI.out] at h3
    omega
  have hdr : ids.drop d = Y := by rw [← hdu, above_drop s HAI.out]; exact HY.out
  have HDR := Lib.hid hdr
  have hdm : d ≤ m := by omega
  have hdk : d + k7 = m := by omega
  obtain ⟨hs7, hm7, hc7⟩ := OwnS.at_' HO7.out HK7.out
  have HS7 := Lib.hid hs7
  have HM7 := Lib.hid (Nat.le_trans hm7 hc7)
  have hgt : ¬ (m : Int) < (k7 : Int) := by omega
  have HY0 : Hid (∀ x, Y[0]? = some x → (Op.bytesLess x.toList s.toList || x.toList == s.toList) = false) := fun x hx => by
    have hx2 := List.mem_of_getElem? hx
    rw [← HY.out] at hx2
    have h3 := (List.mem_filter.1 hx2).2
    rw [sLe_eq, h3]
    rfl
  have HZ0 : Hid (∀ z, 0 < d → ids[d - 1]? = some z → (Op.bytesLess z.toList s.toList || z.toList == s.toList) = true) := fun z h0 hz => by
    rw [sLe_eq]
    cases hzs : sLt s z with
    | false => rfl
    | true =>
      have hin : z ∈ Y := by rw [← HY.out]; exact List.mem_filter.2 ⟨List.mem_of_getElem? hz, hzs⟩
      rw [← HDR.out] at hin
      obtain ⟨j, hj⟩ := List.getElem?_of_mem hin
      rw [List.getElem?_drop] at hj
      have hjl := (List.getElem?_eq_some_iff.1 hj).1
      have hdl := (List.getElem?_eq_some_iff.1 hz).1
      have h5 := List.pairwise_iff_getElem.1 HAI.out (d - 1) (d + j) hdl hjl (by omega)
      rw [List.getElem?_eq_getElem hjl] at hj
      rw [List.getElem?_eq_getElem hdl] at hz
      rw [Option.some.inj hj, Option.some.inj hz, sLt_irrefl] at h5
      cases h5
  have HEQ : Hid (Calls Try.prog 8 #[.slice A7 k7 c7, .slice (A6.map fun x => x.add d) k7 (c6 - d)] w7 fun e w' => e = .returned (.bool true) ∧ Below w7.heap.size w7 w') := by
    show Calls _ _ _ _ _
    have h1 := sl_add HSI7.out d
    rw [HDR.out] at h1
    have h2 := eqS_is (b := true) A7 (A6.map fun x => x.add d) Y Y c7 (c6 - d) w7 HS7.out h1 (by rw [HK7.out]; exact HM7.out) (by rw [HK7.out]; exact HM7.out) (by simp)
    rw [HK7.out] at h2
    exact h2
  have HEQ0 : Hid (k7 = 0 → Calls Try.prog 8 #[.slice A7 0 c7, .slice A6 0 0] w7 fun e w' => e = .returned (.bool true) ∧ Below w7.heap.size w7 w') := fun h0 => by
    have hY0 : Y = [] := List.eq_nil_of_length_eq_zero (by rw [HK7.out, h0])
    have h2 := eqS_is (b := true) A7 A6 [] [] c7 0 w7 (SlS.nil _ _) (SlS.nil _ _) (Nat.zero_le _) (Nat.zero_le _) (by simp)
    exact h2
  clear hd hdu hdr hs7 hm7 hc7
  by_cases hk0 : k7 = 0
  · subst hk0
    have hdm2 : d = m := by omega
    subst hdm2
    have HE0 := Lib.hid (HEQ0.out rfl)
    clear HEQ0 hdk hdm
    by_cases hcd : c6 = d
    · have hcd2 := hcd.symm
      subst hcd2
      clear HEQ
      go_wp2_with fail
      (with_reducible refine HE0.out.mono ?_)
      rintro e w9 ⟨rfl, hb9⟩
      have HB9 := Lib.hid (HB8.out.trans (hb9.mono HB8.out.size))
      by_cases hd0 : d = 0
      · have hd1 : (d : Int) = 0 := by omega
        clear hb9
        go_wp2_with fail
        go_ret
        exact ⟨by simp, HB9.out⟩
      · have hd1 : ¬ (d : Int) = 0 := by omega
        have hd2 : ¬ (0 : Int) = (d : Int) := by omega
        obtain ⟨q, hq⟩ : ∃ q, d = q + 1 := ⟨d - 1, by omega⟩
        obtain ⟨z, hz⟩ : ∃ z, ids[d - 1]? = some z := ⟨_, List.getElem?_eq_getElem (by rw [HI.out]; omega)⟩
        have hzt := HZ0.out z (by omega) hz
        have hq1 : d - 1 = q := by omega
        rw [hq1] at hz
        obtain ⟨bz, oz, hA6, hcz⟩ := (HSI7.out.below hb9) q z hz
        have hq2 : (d : Int) - 1 = (q : Int) := by omega
        have hq3 : (0 : Int) ≤ (q : Int) := by omega
        have hq4 : (q : Int) < (d : Int) := by omega
        have HQ := Lib.hid hq
        subst hA6
        clear hz hq hq1
        clear hb9
        go_wp2_with fail
        go_ret
        exact ⟨by simp, HB9.out⟩
    · clear HE0
      go_wp2_with fail
      (with_reducible refine HEQ.out.mono ?_)
      rintro e w9 ⟨rfl, hb9⟩
      have HB9 := Lib.hid (HB8.out.trans (hb9.mono HB8.out.size))
      by_cases hd0 : d = 0
      · have hd1 : (d : Int) = 0 := by omega
        clear hb9
        go_wp2_with fail
        go_ret
        exact ⟨by simp, HB9.out⟩
      · have hd1 : ¬ (d : Int) = 0 := by omega
        have hd2 : ¬ (0 : Int) = (d : Int) := by omega
        obtain ⟨q, hq⟩ : ∃ q, d = q + 1 := ⟨d - 1, by omega⟩
        obtain ⟨z, hz⟩ : ∃ z, ids[d - 1]? = some z := ⟨_, List.getElem?_eq_getElem (by rw [HI.out]; omega)⟩
        have hzt := HZ0.out z (by omega) hz
        have hq1 : d - 1 = q := by omega
        rw [hq1] at hz
        obtain ⟨bz, oz, hA6, hcz⟩ := (HSI7.out.below hb9) q z hz
        have hq2 : (d : Int) - 1 = (q : Int) := by omega
        have hq3 : (0 : Int) ≤ (q : Int) := by omega
        have hq4 : (q : Int) < (d : Int) := by omega
        have HQ := Lib.hid hq
        subst hA6
        clear hz hq hq1
        clear hb9
        go_wp2_with fail
        go_ret
        exact ⟨by simp, HB9.out⟩
  · have hcd : ¬ c6 = d := by omega
    have hmd : m - d = k7 := by omega
    have HEQ3 : Hid (Calls Try.prog 8 #[.slice A7 k7 c7, .slice (A6.map fun x => x.add d) (m - d) (c6 - d)] w7 fun e w' => e = .returned (.bool true) ∧ Below w7.heap.size w7 w') := by
      show Calls _ _ _ _ _
      rw [hmd]
      exact HEQ.out
    clear HEQ0 HEQ hmd
    go_wp2_with fail
    (with_reducible refine HEQ3.out.mono ?_)
    rintro e w9 ⟨rfl, hb9⟩
    have HB9 := Lib.hid (HB8.out.trans (hb9.mono HB8.out.size))
    obtain ⟨y, hy⟩ : ∃ y, Y[0]? = some y := ⟨_, List.getElem?_eq_getElem (by rw [HK7.out]; omega)⟩
    obtain ⟨y1, y2⟩ := Bool.or_eq_false_iff.1 (HY0.out y hy)
    obtain ⟨bY, oY, hA7, hcy⟩ := (HS7.out.below hb9) 0 y hy
    rw [Nat.add_zero] at hcy
    have hy3 : (0 : Int) < (k7 : Int) := by omega
    have hy4 : 0 < k7 := by omega
    subst hA7
    clear hy
    by_cases hd0 : d = 0
    · have hkm : (k7 : Int) = (m : Int) := by omega
      clear hb9
      go_wp2_with fail
      go_ret
      exact ⟨by simp, HB9.out⟩
    · have hkm : ¬ (k7 : Int) = (m : Int) := by omega
      have hkm2 : ¬ k7 = m := by omega
      obtain ⟨q, hq⟩ : ∃ q, d = q + 1 := ⟨d - 1, by omega⟩
      obtain ⟨z, hz⟩ : ∃ z, ids[d - 1]? = some z := ⟨_, List.getElem?_eq_getElem (by rw [HI.out]; omega)⟩
      have hzt := HZ0.out z (by omega) hz
      have hq1 : d - 1 = q := by omega
      rw [hq1] at hz
      obtain ⟨bz, oz, hA6, hcz⟩ := (HSI7.out.below hb9) q z hz
      have hq2 : (d : Int) - 1 = (q : Int) := by omega
      have hq3 : (0 : Int) ≤ (q : Int) := by omega
      have hq4 : (q : Int) < (m : Int) := by omega
      have HQ := Lib.hid hq
      subst hA6
      clear hz hq hq1
      clear hb9
      go_wp2_with fail
      go_ret
      exact ⟨by simp, HB9.out⟩
end Go.Proofs.Ytodlabohijabnaa
