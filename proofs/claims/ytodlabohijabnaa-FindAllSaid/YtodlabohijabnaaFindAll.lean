/- FindAll's walk. -/
import Derived.Test.YtodlabohijabnaaFindOnce
import Derived.Test.YtodlabohijabnaaSApp
import Derived.Test.YtodlabohijabnaaWithin
set_option linter.unusedVariables false
set_option linter.unusedSimpArgs false
set_option maxRecDepth 100000
namespace Go.Proofs.Ytodlabohijabnaa
open Go.RowKit Go.Sort Go.Shelf

theorem litD : pageErr [chA, chB] 1 = 0 ∧ pageL [chA, chB] ⟨#[]⟩ 1 = [chA] ∧ pageMore [chA, chB] ⟨#[]⟩ 1 = true := by
  have hasc : Asc [chA, chB] := by unfold Asc; simp [ltAB]
  have h0 : pageErr [chA, chB] 1 = 0 := pageErr_ok.2 ⟨by simp, hasc, by omega, by omega⟩
  obtain ⟨k1, k2⟩ := page_good (s := ⟨#[]⟩) h0
  have e1 : sLt ⟨#[]⟩ chA = true := by kernel_rfl
  have e2 : sLt ⟨#[]⟩ chB = true := by kernel_rfl
  have ha : above [chA, chB] ⟨#[]⟩ = [chA, chB] := by
    unfold above
    simp [e1, e2]
  rw [k1, k2, ha]
  exact ⟨h0, rfl, rfl⟩

theorem empty_lt {s : ByteArray} (h : s ≠ ⟨#[]⟩) : sLt ⟨#[]⟩ s = true := by
  rcases sLt_tri ⟨#[]⟩ s with k | k | k
  · exact k
  · exact absurd k.symm h
  · exfalso
    unfold sLt at k
    simp [Op.bytesLess] at k

/-- of sorted names none but the first is empty -/
theorem upTo_empty {X : List ByteArray} (h : ∀ x ∈ X, x ≠ ⟨#[]⟩) : upTo X ⟨#[]⟩ = 0 := by
  unfold upTo
  rw [List.countP_eq_zero]
  intro x hx
  rw [empty_lt (h x hx)]
  simp

theorem upTo_at {X : List ByteArray} (h : Asc X) {j : Nat} {x : ByteArray} (hx : X[j]? = some x) : upTo X x = j + 1 := by
  have h1 := upTo_idx x h
  rw [if_pos (List.mem_of_getElem? hx)] at h1
  have h2 := idxN_spec x h
  have h3 := (not_congr (h2 j x hx)).1 (by rw [sLt_irrefl]; simp)
  have hjl := (List.getElem?_eq_some_iff.1 hx).1
  rw [h1]
  congr 1
  refine Nat.le_antisymm (by omega) ?_
  refine Nat.le_of_not_lt fun hlt => ?_
  obtain ⟨y, hy⟩ : ∃ y, X[idxN X x]? = some y := ⟨_, List.getElem?_eq_getElem (by omega)⟩
  have h4 := (not_congr (h2 _ y hy)).2 (by omega)
  have hil := (List.getElem?_eq_some_iff.1 hy).1
  have h5 := List.pairwise_iff_getElem.1 h (idxN X x) j hil hjl hlt
  rw [List.getElem?_eq_getElem hjl] at hx
  rw [List.getElem?_eq_getElem hil] at hy
  rw [Option.some.inj hx, Option.some.inj hy] at h5
  exact h4 h5

theorem eqS_of {A A' : Option Addr} {Y : List ByteArray} {M : Nat} {w : World} (c3 c8 : Nat) (h1 : SlS w A Y) (h2 : SlS w A' Y) (hl : Y.length = M) (hm : Y.length ≤ maxLen) :
    Calls Try.prog 8 #[.slice A M c3, .slice A' M c8] w fun e w' => e = .returned (.bool true) ∧ Below w.heap.size w w' := by
  have h := eqS_is (b := true) A A' Y Y c3 c8 w h1 h2 hm hm (by simp)
  rwa [hl] at h

set_option maxHeartbeats 2000000 in
theorem findAll_walk (a : Option Addr) (c : Nat) (l : List ByteArray) (n0 : Int) (w : World) (hs : SlS w a l) (hl : l.length ≤ c) (hm : c ≤ maxLen) (hz : l.length * 16 ≤ 140737488355328) :
    Calls Try.prog 4 #[.slice a l.length c, .int .i64 n0] w fun e w' => e = .returned (.bool true) ∧ Below w.heap.size w w' := by
  have HS := Lib.hid hs
  obtain ⟨n, hn⟩ : ∃ n, l.length = n := ⟨_, rfl⟩
  have HN := Lib.hid hn
  rw [hn] at hz ⊢
  clear hs hn hl hm
  go_enter Try.func4, Try.ntmps4
  go_wp2_with fail
  obtain ⟨l1, l2, l3⟩ := litD
  refine (page_to _ [chA, chB] 2 ⟨#[]⟩ 1 _ (sl_new w 9 [chA, chB]) rfl (Nat.le_refl _) (by unfold maxLen; omega) l1 l2 l3).mono ?_
  clear l1 l2 l3
  rintro e w2 ⟨A2, k2, c2, rfl, hk2, ho2, hb2⟩
  have h1 : Below w.heap.size w w2 := ((Below.refl _ _).alloc (Nat.le_refl _) _).trans (hb2.mono (by simp))
  obtain rfl : k2 = 1 := hk2.symm
  have HO2 := Lib.hid (OwnS.sl (rs := [chA]) ho2).1
  have HB2 := Lib.hid h1
  clear hk2 ho2 hb2 h1
  go_wp2_with fail
  refine (eqS_is (b := true) A2 _ [chA] [chA] c2 1 _ (HO2.out.below ((Below.refl _ _).alloc (Nat.le_refl _) _)) (sl_new w2 9 [chA]) (by unfold maxLen; simp) (by unfold maxLen; simp) (by simp)).mono ?_
  rintro e w3 ⟨rfl, hb3⟩
  have HB3 := Lib.hid ((HB2.out.alloc HB2.out.size _).trans (hb3.mono (HB2.out.alloc HB2.out.size _).size))
  clear hb3 HB2 HO2
  go_wp2_with fail
  refine (vals_is a n c _).mono ?_
  rintro e w4 ⟨rfl, rfl⟩
  have hB4 : Below w.heap.size w (w3.alloc (.cells #[.slice a n c] 22)) := HB3.out.alloc HB3.out.size _
  have HSO := Lib.hid (sorted_of w3.heap.size c a l HN.out (by omega) hz (w3.alloc (.cells #[.slice a n c] 22)) (HS.out.below hB4) (by simp [go_sem]))
  have HB4 := Lib.hid hB4
  clear hB4
  go_wp2_with fail
  refine HSO.out.mono ?_
  intro e w5 hsort
  have hb5 : Below (w3.alloc (.cells #[.slice a n c] 22)).heap.size (w3.alloc (.cells #[.slice a n c] 22)) w5 := by
    rcases hsort with ⟨_, _, hb⟩ | ⟨_, _, _, _, hb⟩ <;> exact hb
  obtain ⟨A5, n5, c5, rfl, hcomp⟩ := comp_of (B := 0) l _ _ _ hsort
  have HCOMP := Lib.hid hcomp
  have HB5 := Lib.hid (HB4.out.trans (hb5.mono HB4.out.size))
  have HSZ := Lib.hid (Nat.le_trans HB4.out.size (Nat.le_refl _))
  clear hsort hb5 hcomp HSO
  go_wp2_with fail
  refine HCOMP.out.mono ?_
  rintro e w6 ⟨A6, k6, c6, rfl, HK6, HS6, HC6, HB6⟩
  have HB7 := Lib.hid (HB5.out.trans (HB6.out.mono HSZ.out))
  have HASC := Lib.hid (sortedN_asc l)
  obtain ⟨X, hX⟩ : ∃ X, sortedN l = X := ⟨_, rfl⟩
  rw [hX] at HK6 HS6 HASC
  clear HCOMP HB6 HB5 hX HB3 HB4 HSZ
  have hz' : 0 ≤ n := Nat.zero_le _
  clear HS HN hz
  -- what stands in ids when an empty name is gone
  by_cases hk0 : k6 = 0
  · subst hk0
    obtain rfl : X = [] := List.eq_nil_of_length_eq_zero HK6.out
    go_wp2_with fail
    generalize hM : Int.toNat (min _ 200) = M
    have hM0 : M = 0 := by omega
    have HS8 : Hid (SlS w6 A6 ([] : List ByteArray)) := SlS.nil _ _
    obtain ⟨Y, hY⟩ : ∃ Y : List ByteArray, Y = [] := ⟨_, rfl⟩
    rw [← hY] at HS8
    have HL8 : Hid (Y.length = M) := by show _ = _; rw [hY, hM0]; rfl
    have HA8 : Hid (Asc Y) := by rw [hY]; exact HASC.out
    have HN8 : Hid (∀ x ∈ Y, x ≠ (⟨#[]⟩ : ByteArray)) := by rw [hY]; exact fun x hx => by cases hx
    have hM2 : M ≤ 200 := by omega
    have hM6 : M ≤ c6 := by omega
    have HC8 : Hid (c6 ≤ maxLen) := HC6.out.2
    clear hM hM0 hY HASC HK6 HS6 HC6
    have HWI : Hid (wit n0 60 ≤ 59) := by
      have := wit_lt n0 60 (by omega)
      show wit n0 60 ≤ 59
      omega
    obtain ⟨iw, hiw⟩ : ∃ i, wit n0 60 = i := ⟨_, rfl⟩
    have hiw1 := HWI.out
    rw [hiw] at hiw1
    refine (within_to hiw _ (by omega) (by omega)).mono ?_
    rintro e w7 ⟨rfl, rfl⟩
    clear hiw HWI
    obtain ⟨N, hN⟩ : ∃ N : Nat, N = iw + 1 := ⟨_, rfl⟩
    have hNi : (1 : Int) + (iw : Int) = (N : Int) := by omega
    have hN1 : 1 ≤ N := by omega
    have hN2 : N ≤ 60 := by omega
    have hN3 : -9223372036854775808 ≤ (N : Int) ∧ (N : Int) < 9223372036854775808 := by omega
    clear hN hiw1
    go_wp2_with fail
    obtain ⟨i0, hi, hz0, hz1, hz2⟩ := info_parts Try.infoStr
    go_loopw [9, 10, 58] (fun v f i wr => ∃ (j u : Nat) (s : ByteArray), i = .int .i64 j ∧ f = .string s ∧ j ≤ u ∧ u ≤ M ∧ Hid (upTo Y s = u) ∧ OwnS w6.heap.size wr v (Y.take u) ∧ Hid (Below w6.heap.size w6 wr)) (fun _ _ i _ => M + 1 - (intOf i).toNat)
    case atStart => exact ⟨0, 0, ⟨#[]⟩, rfl, rfl, Nat.le_refl _, Nat.zero_le _, upTo_empty HN8.out, World.ownsRow_nil _ _ _ _, Below.refl _ _⟩
    case round =>
      obtain ⟨j, u, s, rfl, rfl, hju, huM, HU, hown, HBW⟩ := hrel
      obtain ⟨T, hT⟩ : ∃ T, Y.take u = T := ⟨_, rfl⟩
      rw [hT] at hown
      obtain ⟨Aq, cq, rfl⟩ := hown.form
      have HOW := Lib.hid hown
      have HT := Lib.hid hT
      have hTl : T.length = u := by rw [← hT, List.length_take, HL8.out]; omega
      have HTL := Lib.hid hTl
      clear hown hT hTl
      have hjm : (j : Int) < (M : Int) + 1 := by omega
      have he0 : pageErr Y N = 0 := pageErr_ok.2 ⟨by rw [HL8.out]; omega, HA8.out, by omega, by omega⟩
      obtain ⟨g1, g2⟩ := page_good (s := s) he0
      have hab : above Y s = Y.drop u := by rw [← above_drop s HA8.out, HU.out]
      rw [hab, Int.toNat_natCast] at g1
      rw [hab, List.length_drop, HL8.out] at g2
      obtain ⟨P, hP⟩ : ∃ P, (Y.drop u).take N = P := ⟨_, rfl⟩
      have hPl : P.length = min N (M - u) := by rw [← hP, List.length_take, List.length_drop, HL8.out]
      have HBJ := Lib.hid (HB7.out.trans (HBW.out.mono HB7.out.size))
      by_cases hmo : N < M - u
      · have hg2 : pageMore Y s N = true := by rw [g2, decide_eq_true_iff]; omega
        have HPG := Lib.hid (page_to _ Y _ s N wr (HS8.out.below HBW.out) HL8.out hM6 HC8.out he0 (g1.trans hP) hg2)
        have hPN : P.length = N := by omega
        have HP := Lib.hid hP
        clear hP hPl he0 g1 g2 hab hg2
        go_wp2_with fail
        refine HPG.out.mono ?_
        rintro e w9 ⟨A7, k7, c7, rfl, hk7, ho7, hb7⟩
        obtain rfl : k7 = N := hk7.symm.trans hPN
        obtain ⟨hs7, hm7, hc7⟩ := OwnS.at_' ho7 hk7
        have ho9 := HOW.out.below hb7
        have HB9 := Lib.hid (HBW.out.trans (hb7.mono HBW.out.size))
        obtain ⟨A3, c3, w10, hrun, ho3, hb3, hkeep⟩ := run_appS' (c := c7) 22 ho9 hs7 (by rw [HTL.out, hk7]; omega) HB9.out.size
        rw [hk7] at hrun
        have hT2 : Y.take (u + k7) = T ++ P := by rw [← HT.out, ← HP.out, List.take_add]
        obtain ⟨T2, hT2'⟩ : ∃ T2, T ++ P = T2 := ⟨_, rfl⟩
        rw [hT2'] at hrun ho3 hT2
        have HT2 := Lib.hid hT2
        have HO3 := Lib.hid ho3
        have HB10 := Lib.hid (HB9.out.trans hb3)
        have HR := Lib.hid hrun
        obtain ⟨q, hq⟩ : ∃ q, k7 = q + 1 := ⟨k7 - 1, by omega⟩
        obtain ⟨x, hx⟩ : ∃ x, P[q]? = some x := ⟨_, List.getElem?_eq_getElem (by omega)⟩
        have hxY : Y[u + q]? = some x := by
          rw [← HP.out, List.getElem?_take, List.getElem?_drop] at hx
          split at hx
          · exact hx
          · cases hx
        have hup := upTo_at HA8.out hxY
        have HUP : Hid (upTo Y x = u + k7) := by show _ = _; rw [hup]; omega
        have hb79 : SlS w10 A7 P := SlS.off (B2 := wr.heap.size) (B3 := wr.heap.size) (c := c7) (by rw [hk7]; exact ho7) (fun i hi => (World.ownsRow.lt HOW.out i hi).2) (Nat.le_refl _) hkeep
        obtain ⟨bz, oz, hA7, hcz⟩ := hb79 q x hx
        have hq2 : (k7 : Int) - 1 = (q : Int) := by omega
        have hq3 : (0 : Int) ≤ (q : Int) := by omega
        have hq4 : (q : Int) < (k7 : Int) := by omega
        have hgt : ¬ (k7 : Int) < (k7 : Int) := by omega
        subst hA7
        clear hkeep hk7 ho7 hb7 hs7 hm7 hc7 ho9 hrun ho3 hb3 hT2 hT2' hq hx hxY hup hb79 HPG
        go_wp2_with (at_builtin; refine Lib.wpList_append_run _ rfl _ _ _ _ rfl _ _ rfl rfl _ _ HR.out ?_)
        go_roundw
        case rel => exact ⟨j + 1, u + k7, x, by go_num, rfl, by omega, by omega, HUP.out, (show OwnS _ _ _ _ by rw [HT2.out]; exact HO3.out), HB10.out⟩
        case measure => simp [intOf]; omega
      · have hg2 : pageMore Y s N = false := by rw [g2, decide_eq_false_iff_not]; omega
        have HPG := Lib.hid (page_to _ Y _ s N wr (HS8.out.below HBW.out) HL8.out hM6 HC8.out he0 (g1.trans hP) hg2)
        have hPN : P.length = M - u := by omega
        have HP := Lib.hid hP
        clear hP hPl he0 g1 g2 hab hg2
        go_wp2_with fail
        refine HPG.out.mono ?_
        rintro e w9 ⟨A7, k7, c7, rfl, hk7, ho7, hb7⟩
        have hk72 : k7 = M - u := hk7.symm.trans hPN
        obtain ⟨hs7, hm7, hc7⟩ := OwnS.at_' ho7 hk7
        have ho9 := HOW.out.below hb7
        have HB9 := Lib.hid (HBW.out.trans (hb7.mono HBW.out.size))
        obtain ⟨A3, c3, w10, hrun, ho3, hb3⟩ := run_appS (c := c7) 22 ho9 hs7 (by rw [HTL.out, hk7]; omega) HB9.out.size
        rw [hk7] at hrun
        have hT2 : T ++ P = Y := by rw [← HT.out, ← HP.out, List.take_of_length_le (l := Y.drop u) (by rw [List.length_drop, HL8.out]; omega), List.take_append_drop]
        rw [hT2] at hrun ho3
        have HB10 := Lib.hid (HB9.out.trans hb3)
        obtain ⟨hs3, hm3, hc3⟩ := OwnS.sl ho3
        have hEQ := fun cc => eqS_of c3 cc hs3 (HS8.out.below HB10.out) HL8.out (Nat.le_trans hm3 hc3)
        rw [HL8.out] at hrun
        have HEQ := Lib.hid hEQ
        have HR := Lib.hid hrun
        have hgt : ¬ (N : Int) < (k7 : Int) := by omega
        clear hk72 hk7 ho7 hb7 hs7 hm7 hc7 ho9 hrun ho3 hb3 hT2 hs3 hm3 hc3 hEQ HPG
        go_wp2_with (at_builtin; refine Lib.wpList_append_run _ rfl _ _ _ _ rfl _ _ rfl rfl _ _ HR.out ?_)
        refine (HEQ.out _).mono ?_
        rintro e w11 ⟨rfl, hb11⟩
        have hb := HB7.out.trans (HB10.out.mono HB7.out.size)
        have HBE := Lib.hid (hb.trans (hb11.mono hb.size))
        clear hb hb11
        go_wp2_with fail
        go_ret
        exact ⟨by simp, HBE.out⟩
  · have hk1 : (k6 : Int) > 0 := by omega
    have hk2 : (0 : Int) < (k6 : Int) := by omega
    obtain ⟨x0, hx0⟩ : ∃ x, X[0]? = some x := ⟨_, List.getElem?_eq_getElem (by rw [HK6.out]; omega)⟩
    obtain ⟨b0, o0, hA6, hc0⟩ := HS6.out 0 x0 hx0
    rw [Nat.add_zero] at hc0
    subst hA6
    have HX0 := Lib.hid hx0
    have hc66 := HC6.out.1
    clear hx0
    by_cases he : x0 = ⟨#[]⟩
    · subst he
      have HN1 : Hid (∀ x ∈ X.drop 1, x ≠ (⟨#[]⟩ : ByteArray)) := fun x hx e => by
        obtain ⟨j, hj⟩ := List.getElem?_of_mem hx
        rw [List.getElem?_drop] at hj
        have hjl := (List.getElem?_eq_some_iff.1 hj).1
        have h0 := HX0.out
        have h0l := (List.getElem?_eq_some_iff.1 h0).1
        have h5 := List.pairwise_iff_getElem.1 HASC.out 0 (1 + j) h0l hjl (by omega)
        rw [List.getElem?_eq_getElem hjl] at hj
        rw [List.getElem?_eq_getElem h0l] at h0
        rw [Option.some.inj hj, Option.some.inj h0, e, sLt_irrefl] at h5
        cases h5
      by_cases hc1 : c6 = 1
      · subst hc1
        go_wp2_with fail
        generalize hM : Int.toNat (min _ 200) = M
        have hM0 : M = 0 := by omega
        have HS8 : Hid (SlS w6 (some ⟨b0, o0, none⟩) ([] : List ByteArray)) := SlS.nil _ _
        obtain ⟨Y, hY⟩ : ∃ Y : List ByteArray, Y = [] := ⟨_, rfl⟩
        rw [← hY] at HS8
        have HL8 : Hid (Y.length = M) := by show _ = _; rw [hY, hM0]; rfl
        have HA8 : Hid (Asc Y) := by rw [hY]; exact List.Pairwise.nil
        have HN8 : Hid (∀ x ∈ Y, x ≠ (⟨#[]⟩ : ByteArray)) := by rw [hY]; exact fun x hx => by cases hx
        have hM2 : M ≤ 200 := by omega
        have hM6 : M ≤ 0 := by omega
        have HC8 : Hid (0 ≤ maxLen) := Nat.zero_le _
        clear hM hM0 hY HASC HK6 HS6 HC6 HX0 hc0 HN1
        have HWI : Hid (wit n0 60 ≤ 59) := by
          have := wit_lt n0 60 (by omega)
          show wit n0 60 ≤ 59
          omega
        obtain ⟨iw, hiw⟩ : ∃ i, wit n0 60 = i := ⟨_, rfl⟩
        have hiw1 := HWI.out
        rw [hiw] at hiw1
        refine (within_to hiw _ (by omega) (by omega)).mono ?_
        rintro e w7 ⟨rfl, rfl⟩
        clear hiw HWI
        obtain ⟨N, hN⟩ : ∃ N : Nat, N = iw + 1 := ⟨_, rfl⟩
        have hNi : (1 : Int) + (iw : Int) = (N : Int) := by omega
        have hN1 : 1 ≤ N := by omega
        have hN2 : N ≤ 60 := by omega
        have hN3 : -9223372036854775808 ≤ (N : Int) ∧ (N : Int) < 9223372036854775808 := by omega
        clear hN hiw1
        go_wp2_with fail
        obtain ⟨i0, hi, hz0, hz1, hz2⟩ := info_parts Try.infoStr
        go_loopw [9, 10, 58] (fun v f i wr => ∃ (j u : Nat) (s : ByteArray), i = .int .i64 j ∧ f = .string s ∧ j ≤ u ∧ u ≤ M ∧ Hid (upTo Y s = u) ∧ OwnS w6.heap.size wr v (Y.take u) ∧ Hid (Below w6.heap.size w6 wr)) (fun _ _ i _ => M + 1 - (intOf i).toNat)
        case atStart => exact ⟨0, 0, ⟨#[]⟩, rfl, rfl, Nat.le_refl _, Nat.zero_le _, upTo_empty HN8.out, World.ownsRow_nil _ _ _ _, Below.refl _ _⟩
        case round =>
          obtain ⟨j, u, s, rfl, rfl, hju, huM, HU, hown, HBW⟩ := hrel
          obtain ⟨T, hT⟩ : ∃ T, Y.take u = T := ⟨_, rfl⟩
          rw [hT] at hown
          obtain ⟨Aq, cq, rfl⟩ := hown.form
          have HOW := Lib.hid hown
          have HT := Lib.hid hT
          have hTl : T.length = u := by rw [← hT, List.length_take, HL8.out]; omega
          have HTL := Lib.hid hTl
          clear hown hT hTl
          have hjm : (j : Int) < (M : Int) + 1 := by omega
          have he0 : pageErr Y N = 0 := pageErr_ok.2 ⟨by rw [HL8.out]; omega, HA8.out, by omega, by omega⟩
          obtain ⟨g1, g2⟩ := page_good (s := s) he0
          have hab : above Y s = Y.drop u := by rw [← above_drop s HA8.out, HU.out]
          rw [hab, Int.toNat_natCast] at g1
          rw [hab, List.length_drop, HL8.out] at g2
          obtain ⟨P, hP⟩ : ∃ P, (Y.drop u).take N = P := ⟨_, rfl⟩
          have hPl : P.length = min N (M - u) := by rw [← hP, List.length_take, List.length_drop, HL8.out]
          have HBJ := Lib.hid (HB7.out.trans (HBW.out.mono HB7.out.size))
          by_cases hmo : N < M - u
          · have hg2 : pageMore Y s N = true := by rw [g2, decide_eq_true_iff]; omega
            have HPG := Lib.hid (page_to _ Y _ s N wr (HS8.out.below HBW.out) HL8.out hM6 HC8.out he0 (g1.trans hP) hg2)
            have hPN : P.length = N := by omega
            have HP := Lib.hid hP
            clear hP hPl he0 g1 g2 hab hg2
            go_wp2_with fail
            refine HPG.out.mono ?_
            rintro e w9 ⟨A7, k7, c7, rfl, hk7, ho7, hb7⟩
            obtain rfl : k7 = N := hk7.symm.trans hPN
            obtain ⟨hs7, hm7, hc7⟩ := OwnS.at_' ho7 hk7
            have ho9 := HOW.out.below hb7
            have HB9 := Lib.hid (HBW.out.trans (hb7.mono HBW.out.size))
            obtain ⟨A3, c3, w10, hrun, ho3, hb3, hkeep⟩ := run_appS' (c := c7) 22 ho9 hs7 (by rw [HTL.out, hk7]; omega) HB9.out.size
            rw [hk7] at hrun
            have hT2 : Y.take (u + k7) = T ++ P := by rw [← HT.out, ← HP.out, List.take_add]
            obtain ⟨T2, hT2'⟩ : ∃ T2, T ++ P = T2 := ⟨_, rfl⟩
            rw [hT2'] at hrun ho3 hT2
            have HT2 := Lib.hid hT2
            have HO3 := Lib.hid ho3
            have HB10 := Lib.hid (HB9.out.trans hb3)
            have HR := Lib.hid hrun
            obtain ⟨q, hq⟩ : ∃ q, k7 = q + 1 := ⟨k7 - 1, by omega⟩
            obtain ⟨x, hx⟩ : ∃ x, P[q]? = some x := ⟨_, List.getElem?_eq_getElem (by omega)⟩
            have hxY : Y[u + q]? = some x := by
              rw [← HP.out, List.getElem?_take, List.getElem?_drop] at hx
              split at hx
              · exact hx
              · cases hx
            have hup := upTo_at HA8.out hxY
            have HUP : Hid (upTo Y x = u + k7) := by show _ = _; rw [hup]; omega
            have hb79 : SlS w10 A7 P := SlS.off (B2 := wr.heap.size) (B3 := wr.heap.size) (c := c7) (by rw [hk7]; exact ho7) (fun i hi => (World.ownsRow.lt HOW.out i hi).2) (Nat.le_refl _) hkeep
            obtain ⟨bz, oz, hA7, hcz⟩ := hb79 q x hx
            have hq2 : (k7 : Int) - 1 = (q : Int) := by omega
            have hq3 : (0 : Int) ≤ (q : Int) := by omega
            have hq4 : (q : Int) < (k7 : Int) := by omega
            have hgt : ¬ (k7 : Int) < (k7 : Int) := by omega
            subst hA7
            clear hkeep hk7 ho7 hb7 hs7 hm7 hc7 ho9 hrun ho3 hb3 hT2 hT2' hq hx hxY hup hb79 HPG
            go_wp2_with (at_builtin; refine Lib.wpList_append_run _ rfl _ _ _ _ rfl _ _ rfl rfl _ _ HR.out ?_)
            go_roundw
            case rel => exact ⟨j + 1, u + k7, x, by go_num, rfl, by omega, by omega, HUP.out, (show OwnS _ _ _ _ by rw [HT2.out]; exact HO3.out), HB10.out⟩
            case measure => simp [intOf]; omega
          · have hg2 : pageMore Y s N = false := by rw [g2, decide_eq_false_iff_not]; omega
            have HPG := Lib.hid (page_to _ Y _ s N wr (HS8.out.below HBW.out) HL8.out hM6 HC8.out he0 (g1.trans hP) hg2)
            have hPN : P.length = M - u := by omega
            have HP := Lib.hid hP
            clear hP hPl he0 g1 g2 hab hg2
            go_wp2_with fail
            refine HPG.out.mono ?_
            rintro e w9 ⟨A7, k7, c7, rfl, hk7, ho7, hb7⟩
            have hk72 : k7 = M - u := hk7.symm.trans hPN
            obtain ⟨hs7, hm7, hc7⟩ := OwnS.at_' ho7 hk7
            have ho9 := HOW.out.below hb7
            have HB9 := Lib.hid (HBW.out.trans (hb7.mono HBW.out.size))
            obtain ⟨A3, c3, w10, hrun, ho3, hb3⟩ := run_appS (c := c7) 22 ho9 hs7 (by rw [HTL.out, hk7]; omega) HB9.out.size
            rw [hk7] at hrun
            have hT2 : T ++ P = Y := by rw [← HT.out, ← HP.out, List.take_of_length_le (l := Y.drop u) (by rw [List.length_drop, HL8.out]; omega), List.take_append_drop]
            rw [hT2] at hrun ho3
            have HB10 := Lib.hid (HB9.out.trans hb3)
            obtain ⟨hs3, hm3, hc3⟩ := OwnS.sl ho3
            have hEQ := fun cc => eqS_of c3 cc hs3 (HS8.out.below HB10.out) HL8.out (Nat.le_trans hm3 hc3)
            rw [HL8.out] at hrun
            have HEQ := Lib.hid hEQ
            have HR := Lib.hid hrun
            have hgt : ¬ (N : Int) < (k7 : Int) := by omega
            clear hk72 hk7 ho7 hb7 hs7 hm7 hc7 ho9 hrun ho3 hb3 hT2 hs3 hm3 hc3 hEQ HPG
            go_wp2_with (at_builtin; refine Lib.wpList_append_run _ rfl _ _ _ _ rfl _ _ rfl rfl _ _ HR.out ?_)
            refine (HEQ.out _).mono ?_
            rintro e w11 ⟨rfl, hb11⟩
            have hb := HB7.out.trans (HB10.out.mono HB7.out.size)
            have HBE := Lib.hid (hb.trans (hb11.mono hb.size))
            clear hb hb11
            go_wp2_with fail
            go_ret
            exact ⟨by simp, HBE.out⟩
      · go_wp2_with fail
        generalize hM : Int.toNat (min _ 200) = M
        have hM0 : M = min (k6 - 1) 200 := by omega
        have HS8 : Hid (SlS w6 (some ⟨b0, o0 + 1, none⟩) ((X.drop 1).take M)) := by
          show SlS _ _ _
          exact sl_take (sl_drop (c := 0) HS6.out) M
        have HL8 : Hid (((X.drop 1).take M).length = M) := by show _ = _; rw [List.length_take, List.length_drop, HK6.out]; omega
        have HA8 : Hid (Asc ((X.drop 1).take M)) := HASC.out.sublist ((List.take_sublist _ _).trans (List.drop_sublist _ _))
        have HN8 : Hid (∀ x ∈ ((X.drop 1).take M), x ≠ (⟨#[]⟩ : ByteArray)) := fun x hx => HN1.out x (List.take_subset _ _ hx)
        have hM2 : M ≤ 200 := by omega
        have hM6 : M ≤ c6 - 1 := by omega
        have HC8 : Hid (c6 - 1 ≤ maxLen) := Nat.le_trans (Nat.sub_le _ _) HC6.out.2
        generalize (X.drop 1).take M = Y at HS8 HL8 HA8 HN8
        clear hM hM0 HASC HK6 HS6 HC6 HX0 hc0 HN1
        have HWI : Hid (wit n0 60 ≤ 59) := by
          have := wit_lt n0 60 (by omega)
          show wit n0 60 ≤ 59
          omega
        obtain ⟨iw, hiw⟩ : ∃ i, wit n0 60 = i := ⟨_, rfl⟩
        have hiw1 := HWI.out
        rw [hiw] at hiw1
        refine (within_to hiw _ (by omega) (by omega)).mono ?_
        rintro e w7 ⟨rfl, rfl⟩
        clear hiw HWI
        obtain ⟨N, hN⟩ : ∃ N : Nat, N = iw + 1 := ⟨_, rfl⟩
        have hNi : (1 : Int) + (iw : Int) = (N : Int) := by omega
        have hN1 : 1 ≤ N := by omega
        have hN2 : N ≤ 60 := by omega
        have hN3 : -9223372036854775808 ≤ (N : Int) ∧ (N : Int) < 9223372036854775808 := by omega
        clear hN hiw1
        go_wp2_with fail
        obtain ⟨i0, hi, hz0, hz1, hz2⟩ := info_parts Try.infoStr
        go_loopw [9, 10, 58] (fun v f i wr => ∃ (j u : Nat) (s : ByteArray), i = .int .i64 j ∧ f = .string s ∧ j ≤ u ∧ u ≤ M ∧ Hid (upTo Y s = u) ∧ OwnS w6.heap.size wr v (Y.take u) ∧ Hid (Below w6.heap.size w6 wr)) (fun _ _ i _ => M + 1 - (intOf i).toNat)
        case atStart => exact ⟨0, 0, ⟨#[]⟩, rfl, rfl, Nat.le_refl _, Nat.zero_le _, upTo_empty HN8.out, World.ownsRow_nil _ _ _ _, Below.refl _ _⟩
        case round =>
          obtain ⟨j, u, s, rfl, rfl, hju, huM, HU, hown, HBW⟩ := hrel
          obtain ⟨T, hT⟩ : ∃ T, Y.take u = T := ⟨_, rfl⟩
          rw [hT] at hown
          obtain ⟨Aq, cq, rfl⟩ := hown.form
          have HOW := Lib.hid hown
          have HT := Lib.hid hT
          have hTl : T.length = u := by rw [← hT, List.length_take, HL8.out]; omega
          have HTL := Lib.hid hTl
          clear hown hT hTl
          have hjm : (j : Int) < (M : Int) + 1 := by omega
          have he0 : pageErr Y N = 0 := pageErr_ok.2 ⟨by rw [HL8.out]; omega, HA8.out, by omega, by omega⟩
          obtain ⟨g1, g2⟩ := page_good (s := s) he0
          have hab : above Y s = Y.drop u := by rw [← above_drop s HA8.out, HU.out]
          rw [hab, Int.toNat_natCast] at g1
          rw [hab, List.length_drop, HL8.out] at g2
          obtain ⟨P, hP⟩ : ∃ P, (Y.drop u).take N = P := ⟨_, rfl⟩
          have hPl : P.length = min N (M - u) := by rw [← hP, List.length_take, List.length_drop, HL8.out]
          have HBJ := Lib.hid (HB7.out.trans (HBW.out.mono HB7.out.size))
          by_cases hmo : N < M - u
          · have hg2 : pageMore Y s N = true := by rw [g2, decide_eq_true_iff]; omega
            have HPG := Lib.hid (page_to _ Y _ s N wr (HS8.out.below HBW.out) HL8.out hM6 HC8.out he0 (g1.trans hP) hg2)
            have hPN : P.length = N := by omega
            have HP := Lib.hid hP
            clear hP hPl he0 g1 g2 hab hg2
            go_wp2_with fail
            refine HPG.out.mono ?_
            rintro e w9 ⟨A7, k7, c7, rfl, hk7, ho7, hb7⟩
            obtain rfl : k7 = N := hk7.symm.trans hPN
            obtain ⟨hs7, hm7, hc7⟩ := OwnS.at_' ho7 hk7
            have ho9 := HOW.out.below hb7
            have HB9 := Lib.hid (HBW.out.trans (hb7.mono HBW.out.size))
            obtain ⟨A3, c3, w10, hrun, ho3, hb3, hkeep⟩ := run_appS' (c := c7) 22 ho9 hs7 (by rw [HTL.out, hk7]; omega) HB9.out.size
            rw [hk7] at hrun
            have hT2 : Y.take (u + k7) = T ++ P := by rw [← HT.out, ← HP.out, List.take_add]
            obtain ⟨T2, hT2'⟩ : ∃ T2, T ++ P = T2 := ⟨_, rfl⟩
            rw [hT2'] at hrun ho3 hT2
            have HT2 := Lib.hid hT2
            have HO3 := Lib.hid ho3
            have HB10 := Lib.hid (HB9.out.trans hb3)
            have HR := Lib.hid hrun
            obtain ⟨q, hq⟩ : ∃ q, k7 = q + 1 := ⟨k7 - 1, by omega⟩
            obtain ⟨x, hx⟩ : ∃ x, P[q]? = some x := ⟨_, List.getElem?_eq_getElem (by omega)⟩
            have hxY : Y[u + q]? = some x := by
              rw [← HP.out, List.getElem?_take, List.getElem?_drop] at hx
              split at hx
              · exact hx
              · cases hx
            have hup := upTo_at HA8.out hxY
            have HUP : Hid (upTo Y x = u + k7) := by show _ = _; rw [hup]; omega
            have hb79 : SlS w10 A7 P := SlS.off (B2 := wr.heap.size) (B3 := wr.heap.size) (c := c7) (by rw [hk7]; exact ho7) (fun i hi => (World.ownsRow.lt HOW.out i hi).2) (Nat.le_refl _) hkeep
            obtain ⟨bz, oz, hA7, hcz⟩ := hb79 q x hx
            have hq2 : (k7 : Int) - 1 = (q : Int) := by omega
            have hq3 : (0 : Int) ≤ (q : Int) := by omega
            have hq4 : (q : Int) < (k7 : Int) := by omega
            have hgt : ¬ (k7 : Int) < (k7 : Int) := by omega
            subst hA7
            clear hkeep hk7 ho7 hb7 hs7 hm7 hc7 ho9 hrun ho3 hb3 hT2 hT2' hq hx hxY hup hb79 HPG
            go_wp2_with (at_builtin; refine Lib.wpList_append_run _ rfl _ _ _ _ rfl _ _ rfl rfl _ _ HR.out ?_)
            go_roundw
            case rel => exact ⟨j + 1, u + k7, x, by go_num, rfl, by omega, by omega, HUP.out, (show OwnS _ _ _ _ by rw [HT2.out]; exact HO3.out), HB10.out⟩
            case measure => simp [intOf]; omega
          · have hg2 : pageMore Y s N = false := by rw [g2, decide_eq_false_iff_not]; omega
            have HPG := Lib.hid (page_to _ Y _ s N wr (HS8.out.below HBW.out) HL8.out hM6 HC8.out he0 (g1.trans hP) hg2)
            have hPN : P.length = M - u := by omega
            have HP := Lib.hid hP
            clear hP hPl he0 g1 g2 hab hg2
            go_wp2_with fail
            refine HPG.out.mono ?_
            rintro e w9 ⟨A7, k7, c7, rfl, hk7, ho7, hb7⟩
            have hk72 : k7 = M - u := hk7.symm.trans hPN
            obtain ⟨hs7, hm7, hc7⟩ := OwnS.at_' ho7 hk7
            have ho9 := HOW.out.below hb7
            have HB9 := Lib.hid (HBW.out.trans (hb7.mono HBW.out.size))
            obtain ⟨A3, c3, w10, hrun, ho3, hb3⟩ := run_appS (c := c7) 22 ho9 hs7 (by rw [HTL.out, hk7]; omega) HB9.out.size
            rw [hk7] at hrun
            have hT2 : T ++ P = Y := by rw [← HT.out, ← HP.out, List.take_of_length_le (l := Y.drop u) (by rw [List.length_drop, HL8.out]; omega), List.take_append_drop]
            rw [hT2] at hrun ho3
            have HB10 := Lib.hid (HB9.out.trans hb3)
            obtain ⟨hs3, hm3, hc3⟩ := OwnS.sl ho3
            have hEQ := fun cc => eqS_of c3 cc hs3 (HS8.out.below HB10.out) HL8.out (Nat.le_trans hm3 hc3)
            rw [HL8.out] at hrun
            have HEQ := Lib.hid hEQ
            have HR := Lib.hid hrun
            have hgt : ¬ (N : Int) < (k7 : Int) := by omega
            clear hk72 hk7 ho7 hb7 hs7 hm7 hc7 ho9 hrun ho3 hb3 hT2 hs3 hm3 hc3 hEQ HPG
            go_wp2_with (at_builtin; refine Lib.wpList_append_run _ rfl _ _ _ _ rfl _ _ rfl rfl _ _ HR.out ?_)
            refine (HEQ.out _).mono ?_
            rintro e w11 ⟨rfl, hb11⟩
            have hb := HB7.out.trans (HB10.out.mono HB7.out.size)
            have HBE := Lib.hid (hb.trans (hb11.mono hb.size))
            clear hb hb11
            go_wp2_with fail
            go_ret
            exact ⟨by simp, HBE.out⟩
    · have he2 : (x0.toList == []) = false := by
        cases e : (x0.toList == []) with
        | false => rfl
        | true =>
          have e2 : x0.toList = (⟨#[]⟩ : ByteArray).toList := (eq_of_beq e).trans (by simp)
          exact absurd (toList_inj e2) he
      have HN1 : Hid (∀ x ∈ X, x ≠ (⟨#[]⟩ : ByteArray)) := fun x hx e => by
        obtain ⟨j, hj⟩ := List.getElem?_of_mem hx
        have h0 := HX0.out
        have h0l := (List.getElem?_eq_some_iff.1 h0).1
        have hjl := (List.getElem?_eq_some_iff.1 hj).1
        rcases Nat.eq_zero_or_pos j with hj0 | hj0
        · subst hj0
          rw [hj] at h0
          exact he ((Option.some.inj h0).symm.trans e)
        · have h5 := List.pairwise_iff_getElem.1 HASC.out 0 j h0l hjl hj0
          rw [List.getElem?_eq_getElem hjl] at hj
          rw [List.getElem?_eq_getElem h0l] at h0
          rw [Option.some.inj hj, Option.some.inj h0, e] at h5
          have h6 := empty_lt he
          rw [sLt_asymm h5] at h6
          cases h6
      go_wp2_with fail
      generalize hM : Int.toNat (min _ 200) = M
      have hM0 : M = min k6 200 := by omega
      have HS8 : Hid (SlS w6 (some ⟨b0, o0, none⟩) (X.take M)) := by
        show SlS _ _ _
        exact sl_take HS6.out M
      have HL8 : Hid ((X.take M).length = M) := by show _ = _; rw [List.length_take, HK6.out]; omega
      have HA8 : Hid (Asc (X.take M)) := HASC.out.sublist (List.take_sublist _ _)
      have HN8 : Hid (∀ x ∈ (X.take M), x ≠ (⟨#[]⟩ : ByteArray)) := fun x hx => HN1.out x (List.take_subset _ _ hx)
      have hM2 : M ≤ 200 := by omega
      have hM6 : M ≤ c6 := by omega
      have HC8 : Hid (c6 ≤ maxLen) := HC6.out.2
      generalize X.take M = Y at HS8 HL8 HA8 HN8
      clear hM hM0 HASC HK6 HS6 HC6 HX0 hc0 HN1
      have HWI : Hid (wit n0 60 ≤ 59) := by
        have := wit_lt n0 60 (by omega)
        show wit n0 60 ≤ 59
        omega
      obtain ⟨iw, hiw⟩ : ∃ i, wit n0 60 = i := ⟨_, rfl⟩
      have hiw1 := HWI.out
      rw [hiw] at hiw1
      refine (within_to hiw _ (by omega) (by omega)).mono ?_
      rintro e w7 ⟨rfl, rfl⟩
      clear hiw HWI
      obtain ⟨N, hN⟩ : ∃ N : Nat, N = iw + 1 := ⟨_, rfl⟩
      have hNi : (1 : Int) + (iw : Int) = (N : Int) := by omega
      have hN1 : 1 ≤ N := by omega
      have hN2 : N ≤ 60 := by omega
      have hN3 : -9223372036854775808 ≤ (N : Int) ∧ (N : Int) < 9223372036854775808 := by omega
      clear hN hiw1
      go_wp2_with fail
      obtain ⟨i0, hi, hz0, hz1, hz2⟩ := info_parts Try.infoStr
      go_loopw [9, 10, 58] (fun v f i wr => ∃ (j u : Nat) (s : ByteArray), i = .int .i64 j ∧ f = .string s ∧ j ≤ u ∧ u ≤ M ∧ Hid (upTo Y s = u) ∧ OwnS w6.heap.size wr v (Y.take u) ∧ Hid (Below w6.heap.size w6 wr)) (fun _ _ i _ => M + 1 - (intOf i).toNat)
      case atStart => exact ⟨0, 0, ⟨#[]⟩, rfl, rfl, Nat.le_refl _, Nat.zero_le _, upTo_empty HN8.out, World.ownsRow_nil _ _ _ _, Below.refl _ _⟩
      case round =>
        obtain ⟨j, u, s, rfl, rfl, hju, huM, HU, hown, HBW⟩ := hrel
        obtain ⟨T, hT⟩ : ∃ T, Y.take u = T := ⟨_, rfl⟩
        rw [hT] at hown
        obtain ⟨Aq, cq, rfl⟩ := hown.form
        have HOW := Lib.hid hown
        have HT := Lib.hid hT
        have hTl : T.length = u := by rw [← hT, List.length_take, HL8.out]; omega
        have HTL := Lib.hid hTl
        clear hown hT hTl
        have hjm : (j : Int) < (M : Int) + 1 := by omega
        have he0 : pageErr Y N = 0 := pageErr_ok.2 ⟨by rw [HL8.out]; omega, HA8.out, by omega, by omega⟩
        obtain ⟨g1, g2⟩ := page_good (s := s) he0
        have hab : above Y s = Y.drop u := by rw [← above_drop s HA8.out, HU.out]
        rw [hab, Int.toNat_natCast] at g1
        rw [hab, List.length_drop, HL8.out] at g2
        obtain ⟨P, hP⟩ : ∃ P, (Y.drop u).take N = P := ⟨_, rfl⟩
        have hPl : P.length = min N (M - u) := by rw [← hP, List.length_take, List.length_drop, HL8.out]
        have HBJ := Lib.hid (HB7.out.trans (HBW.out.mono HB7.out.size))
        by_cases hmo : N < M - u
        · have hg2 : pageMore Y s N = true := by rw [g2, decide_eq_true_iff]; omega
          have HPG := Lib.hid (page_to _ Y _ s N wr (HS8.out.below HBW.out) HL8.out hM6 HC8.out he0 (g1.trans hP) hg2)
          have hPN : P.length = N := by omega
          have HP := Lib.hid hP
          clear hP hPl he0 g1 g2 hab hg2
          go_wp2_with fail
          refine HPG.out.mono ?_
          rintro e w9 ⟨A7, k7, c7, rfl, hk7, ho7, hb7⟩
          obtain rfl : k7 = N := hk7.symm.trans hPN
          obtain ⟨hs7, hm7, hc7⟩ := OwnS.at_' ho7 hk7
          have ho9 := HOW.out.below hb7
          have HB9 := Lib.hid (HBW.out.trans (hb7.mono HBW.out.size))
          obtain ⟨A3, c3, w10, hrun, ho3, hb3, hkeep⟩ := run_appS' (c := c7) 22 ho9 hs7 (by rw [HTL.out, hk7]; omega) HB9.out.size
          rw [hk7] at hrun
          have hT2 : Y.take (u + k7) = T ++ P := by rw [← HT.out, ← HP.out, List.take_add]
          obtain ⟨T2, hT2'⟩ : ∃ T2, T ++ P = T2 := ⟨_, rfl⟩
          rw [hT2'] at hrun ho3 hT2
          have HT2 := Lib.hid hT2
          have HO3 := Lib.hid ho3
          have HB10 := Lib.hid (HB9.out.trans hb3)
          have HR := Lib.hid hrun
          obtain ⟨q, hq⟩ : ∃ q, k7 = q + 1 := ⟨k7 - 1, by omega⟩
          obtain ⟨x, hx⟩ : ∃ x, P[q]? = some x := ⟨_, List.getElem?_eq_getElem (by omega)⟩
          have hxY : Y[u + q]? = some x := by
            rw [← HP.out, List.getElem?_take, List.getElem?_drop] at hx
            split at hx
            · exact hx
            · cases hx
          have hup := upTo_at HA8.out hxY
          have HUP : Hid (upTo Y x = u + k7) := by show _ = _; rw [hup]; omega
          have hb79 : SlS w10 A7 P := SlS.off (B2 := wr.heap.size) (B3 := wr.heap.size) (c := c7) (by rw [hk7]; exact ho7) (fun i hi => (World.ownsRow.lt HOW.out i hi).2) (Nat.le_refl _) hkeep
          obtain ⟨bz, oz, hA7, hcz⟩ := hb79 q x hx
          have hq2 : (k7 : Int) - 1 = (q : Int) := by omega
          have hq3 : (0 : Int) ≤ (q : Int) := by omega
          have hq4 : (q : Int) < (k7 : Int) := by omega
          have hgt : ¬ (k7 : Int) < (k7 : Int) := by omega
          subst hA7
          clear hkeep hk7 ho7 hb7 hs7 hm7 hc7 ho9 hrun ho3 hb3 hT2 hT2' hq hx hxY hup hb79 HPG
          go_wp2_with (at_builtin; refine Lib.wpList_append_run _ rfl _ _ _ _ rfl _ _ rfl rfl _ _ HR.out ?_)
          go_roundw
          case rel => exact ⟨j + 1, u + k7, x, by go_num, rfl, by omega, by omega, HUP.out, (show OwnS _ _ _ _ by rw [HT2.out]; exact HO3.out), HB10.out⟩
          case measure => simp [intOf]; omega
        · have hg2 : pageMore Y s N = false := by rw [g2, decide_eq_false_iff_not]; omega
          have HPG := Lib.hid (page_to _ Y _ s N wr (HS8.out.below HBW.out) HL8.out hM6 HC8.out he0 (g1.trans hP) hg2)
          have hPN : P.length = M - u := by omega
          have HP := Lib.hid hP
          clear hP hPl he0 g1 g2 hab hg2
          go_wp2_with fail
          refine HPG.out.mono ?_
          rintro e w9 ⟨A7, k7, c7, rfl, hk7, ho7, hb7⟩
          have hk72 : k7 = M - u := hk7.symm.trans hPN
          obtain ⟨hs7, hm7, hc7⟩ := OwnS.at_' ho7 hk7
          have ho9 := HOW.out.below hb7
          have HB9 := Lib.hid (HBW.out.trans (hb7.mono HBW.out.size))
          obtain ⟨A3, c3, w10, hrun, ho3, hb3⟩ := run_appS (c := c7) 22 ho9 hs7 (by rw [HTL.out, hk7]; omega) HB9.out.size
          rw [hk7] at hrun
          have hT2 : T ++ P = Y := by rw [← HT.out, ← HP.out, List.take_of_length_le (l := Y.drop u) (by rw [List.length_drop, HL8.out]; omega), List.take_append_drop]
          rw [hT2] at hrun ho3
          have HB10 := Lib.hid (HB9.out.trans hb3)
          obtain ⟨hs3, hm3, hc3⟩ := OwnS.sl ho3
          have hEQ := fun cc => eqS_of c3 cc hs3 (HS8.out.below HB10.out) HL8.out (Nat.le_trans hm3 hc3)
          rw [HL8.out] at hrun
          have HEQ := Lib.hid hEQ
          have HR := Lib.hid hrun
          have hgt : ¬ (N : Int) < (k7 : Int) := by omega
          clear hk72 hk7 ho7 hb7 hs7 hm7 hc7 ho9 hrun ho3 hb3 hT2 hs3 hm3 hc3 hEQ HPG
          go_wp2_with (at_builtin; refine Lib.wpList_append_run _ rfl _ _ _ _ rfl _ _ rfl rfl _ _ HR.out ?_)
          refine (HEQ.out _).mono ?_
          rintro e w11 ⟨rfl, hb11⟩
          have hb := HB7.out.trans (HB10.out.mono HB7.out.size)
          have HBE := Lib.hid (hb.trans (hb11.mono hb.size))
          clear hb hb11
          go_wp2_with fail
          go_ret
          exact ⟨by simp, HBE.out⟩

end Go.Proofs.Ytodlabohijabnaa
