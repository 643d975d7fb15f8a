/- FindPages' walk. -/
import Derived.Test.YtodlabohijabnaaFPage
import Derived.Test.YtodlabohijabnaaREq
import Derived.Deep.QuietTactic
import Derived.BigQuiet
set_option linter.unusedVariables false
set_option linter.unusedSimpArgs false
set_option maxRecDepth 100000
namespace Go.Proofs.Ytodlabohijabnaa
open Go.RowKit Go.Sort

theorem sl_new (w : World) (t : TypeId) (ids : List ByteArray) : SlS (w.alloc (.cells (ids.map Value.string).toArray t)) (some ⟨w.heap.size, 0, none⟩) ids := fun k s hk => by
  refine ⟨w.heap.size, 0, rfl, ?_⟩
  have h := (List.getElem?_eq_some_iff.1 hk)
  obtain ⟨hlt, he⟩ := h
  simp [go_sem, hlt, he]
abbrev chA : ByteArray := ⟨#[97]⟩
abbrev chB : ByteArray := ⟨#[98]⟩
abbrev chC : ByteArray := ⟨#[99]⟩
theorem ltAB : sLt chA chB = true := by kernel_rfl
theorem ltBC : sLt chB chC = true := by kernel_rfl
theorem ltAC : sLt chA chC = true := by kernel_rfl
theorem asc_abc : Asc [chA, chB, chC] := by
  unfold Asc
  simp [ltAB, ltBC, ltAC]

/-- a page of names that may be asked for -/
theorem page_to {m : Nat} {L : List ByteArray} {b : Bool} {er : Int} (a : Option Addr) (ids : List ByteArray) (c : Nat) (s : ByteArray) (n : Int) (w : World) (hs : SlS w a ids) (hl : ids.length = m) (hmc : m ≤ c) (hc : c ≤ maxLen)
    (h1 : pageErr ids n = er) (h2 : pageL ids s n = L) (h3 : pageMore ids s n = b) :
    Calls Try.prog 7 #[.slice a m c, .string s, .int .i64 n] w fun e w' => ∃ A k c', e = .returned (.tuple #[.slice A k c', .bool b, .int .i64 er]) ∧ L.length = k ∧ OwnS w.heap.size w' (.slice A k c') L ∧ Below w.heap.size w w' := by
  have h := page_is a ids c s n w hs hl hmc hc
  unfold PageTo at h
  rw [h1, h2, h3] at h
  exact h

theorem litA : pageErr [chA, chB, chC] 1 = 0 ∧ pageL [chA, chB, chC] chA 1 = [chB] ∧ pageMore [chA, chB, chC] chA 1 = true := by
  have h0 : pageErr [chA, chB, chC] 1 = 0 := pageErr_ok.2 ⟨by simp, asc_abc, by omega, by omega⟩
  obtain ⟨k1, k2⟩ := page_good (s := chA) h0
  have ha : above [chA, chB, chC] chA = [chB, chC] := by
    unfold above
    simp [sLt_irrefl, ltAB, ltAC]
  rw [k1, k2, ha]
  exact ⟨h0, rfl, rfl⟩

open Classical in
/-- what is wrong with the names alone -/
noncomputable def preErr (l : List ByteArray) : Int := if 5120 < l.length then 2 else if Asc l then 0 else 3
theorem pageErr_pre (l : List ByteArray) (n : Int) : pageErr l n = if preErr l ≠ 0 then preErr l else if 1 ≤ n ∧ n ≤ 60 then 0 else 1 := by
  unfold pageErr preErr
  by_cases h : 5120 < l.length
  · rw [if_pos h, if_pos h, if_pos (by decide)]
  · rw [if_neg h, if_neg h]
    by_cases h2 : Asc l
    · rw [if_neg (fun k => k h2), if_pos h2]
      simp
    · rw [if_pos h2, if_neg h2, if_pos (by decide)]

set_option maxHeartbeats 8000000 in
theorem findPages_walk (a : Option Addr) (c : Nat) (ids : List ByteArray) (s : ByteArray) (n : Int) (w : World) (hs : SlS w a ids) (hl : ids.length ≤ c) (hm : c ≤ maxLen) (hsm : s.size ≤ maxLen) :
    Calls Try.prog 3 #[.slice a ids.length c, .string s, .int .i64 n] w fun e w' => e = .returned (.bool true) ∧ Below w.heap.size w w' := by
  clear hsm
  have HS := Lib.hid hs
  obtain ⟨m, hL⟩ : ∃ m, ids.length = m := ⟨_, rfl⟩
  have HL := Lib.hid hL
  obtain ⟨er, her⟩ : ∃ er, pageErr ids n = er := ⟨_, rfl⟩
  obtain ⟨P, hP⟩ : ∃ P, pageL ids s n = P := ⟨_, rfl⟩
  obtain ⟨mo, hmo⟩ : ∃ mo, pageMore ids s n = mo := ⟨_, rfl⟩
  have HC := Lib.hid (page_to a ids c s n w hs hL (by omega) hm her hP hmo)
  obtain ⟨pe, hpe⟩ : ∃ pe, preErr ids = pe := ⟨_, rfl⟩
  have HER := Lib.hid (show er = if pe ≠ 0 then pe else if 1 ≤ n ∧ n ≤ 60 then 0 else 1 by rw [← her, pageErr_pre, hpe])
  have HPE := Lib.hid hpe
  have HE := Lib.hid her
  have HP := Lib.hid hP
  have HMO := Lib.hid hmo
  rw [hL] at hl ⊢
  have HM := Lib.hid (Nat.le_trans hl hm)
  clear hs hL her hP hmo hpe hm hl
  go_enter Try.func3, Try.ntmps3
  go_wp2_with fail
  refine HC.out.mono ?_
  rintro e w1 ⟨A1, k1, c1, rfl, hk1, ho1, hb1⟩
  have HK1 := Lib.hid hk1
  have HO1 := Lib.hid ho1
  have HB1 := Lib.hid hb1
  clear hk1 ho1 hb1 HC
  go_wp2_with fail
  obtain ⟨l1, l2, l3⟩ := litA
  refine (page_to _ [chA, chB, chC] 3 chA 1 _ (sl_new w1 9 [chA, chB, chC]) rfl (Nat.le_refl _) (by unfold maxLen; omega) l1 l2 l3).mono ?_
  clear l1 l2 l3
  rintro e w2 ⟨A2, k2, c2, rfl, hk2, ho2, hb2⟩
  have h1 : Below w.heap.size w w2 := (HB1.out.alloc HB1.out.size _).trans (hb2.mono (HB1.out.alloc HB1.out.size _).size)
  have HO1' := Lib.hid (show OwnS w.heap.size w2 (.slice A1 k1 c1) P from (HO1.out.below ((Below.refl _ _).alloc (Nat.le_refl _) _)).below hb2)
  obtain rfl : k2 = 1 := hk2.symm
  have HO2 := Lib.hid (OwnS.sl (rs := [chB]) ho2).1
  have HB2 := Lib.hid h1
  clear hk2 ho2 hb2 h1 HB1 HO1
  go_wp2_with fail
  refine (eqS_is (b := true) A2 _ [chB] [chB] c2 1 _ (HO2.out.below ((Below.refl _ _).alloc (Nat.le_refl _) _)) (sl_new w2 9 [chB]) (by unfold maxLen; simp) (by unfold maxLen; simp) (by simp)).mono ?_
  rintro e w3 ⟨rfl, hb3⟩
  have HB3 := Lib.hid ((HB2.out.alloc HB2.out.size _).trans (hb3.mono (HB2.out.alloc HB2.out.size _).size))
  have HO3 := Lib.hid ((HO1'.out.below ((Below.refl _ _).alloc (Nat.le_refl _) _)).below hb3)
  clear hb3 HB2 HO1' HO2
  by_cases hbig : 5120 < m
  · obtain rfl : pe = 2 := by
      rw [← HPE.out]
      unfold preErr
      rw [if_pos (by rw [HL.out]; exact hbig)]
    obtain rfl : er = 2 := HER.out
    obtain ⟨p1, p2⟩ := page_bad (s := s) (show pageErr ids n ≠ 0 by rw [HE.out]; decide)
    obtain rfl : P = [] := HP.out.symm.trans p1
    obtain rfl : mo = false := HMO.out.symm.trans p2
    obtain rfl : k1 = 0 := HK1.out.symm
    clear p1 p2 HP HMO HK1 HER HE HPE
    go_wp2_with fail
    go_loopw [13, 50] (fun v i wr => ∃ k : Nat, k ≤ m ∧ i = .int .i64 k ∧ v = .int .i64 2 ∧ Hid (Below w.heap.size w wr)) (fun _ i _ => m - (intOf i).toNat)
    case atStart => exact ⟨0, Nat.zero_le _, rfl, rfl, HB3.out⟩
    case round =>
      obtain ⟨k, hk, rfl, rfl, HB⟩ := hrel
      by_cases hlt : k < m
      · have i1 : (0 : Int) ≤ (k : Int) := by omega
        have i2 : (k : Int) < (m : Int) := by omega
        have ib : (k : Int) ≤ 9223372036854775806 := by have := HM.out; unfold maxLen at this; omega
        go_wp2_with fail
        go_quiet (fail)
        go_wp2_with fail
        go_roundw
        case rel => exact ⟨k + 1, by omega, by go_num, rfl, below_drewN HB.out _⟩
        case measure => simp [intOf]; omega
      · obtain rfl : k = m := by omega
        go_wp2_with fail
        go_ret
        exact ⟨rfl, HB.out⟩
  · go_wp2_with fail
    go_loopw [13, 50] (fun v i wr => ∃ k : Nat, k ≤ m ∧ i = .int .i64 k ∧ ((v = .int .i64 0 ∧ Hid (∀ j x y, j + 1 < k → ids[j]? = some x → ids[j + 1]? = some y → sLt x y = true)) ∨ (v = .int .i64 3 ∧ Hid (¬ Asc ids))) ∧ Hid (Below w3.heap.size w3 wr)) (fun _ i _ => m - (intOf i).toNat)
    case atStart => exact ⟨0, Nat.zero_le _, rfl, .inl ⟨rfl, fun j x y h => absurd h (Nat.not_lt_zero _)⟩, Below.refl _ _⟩
    case round =>
      obtain ⟨k, hk, rfl, hv, HBx⟩ := hrel
      have HB := Lib.hid (HB3.out.trans (HBx.out.mono HB3.out.size))
      by_cases hlt : k < m
      · have i1 : (0 : Int) ≤ (k : Int) := by omega
        have i2 : (k : Int) < (m : Int) := by omega
        rcases hv with ⟨rfl, HK⟩ | ⟨rfl, HN⟩
        · obtain ⟨x, hx⟩ : ∃ x, ids[k]? = some x := ⟨_, List.getElem?_eq_getElem (by rw [HL.out]; exact hlt)⟩
          obtain ⟨b0, off, rfl, hc⟩ := (HS.out.below HB.out) k x hx
          by_cases hk0 : k = 0
          · subst hk0
            rw [Nat.add_zero] at hc
            clear hx
            go_wp2_with fail
            go_quiet (fail)
            go_wp2_with fail
            go_roundw
            case rel => exact ⟨1, by omega, rfl, .inl ⟨rfl, fun j x y h => absurd h (by omega)⟩, below_drewN HBx.out _⟩
            case measure => simp [intOf]; omega
          · obtain ⟨q, hq⟩ : ∃ q, k = q + 1 := ⟨k - 1, by omega⟩
            obtain ⟨y, hy⟩ : ∃ y, ids[q]? = some y := ⟨_, List.getElem?_eq_getElem (by rw [HL.out]; omega)⟩
            obtain ⟨_, _, hbe, hd⟩ := (HS.out.below HB.out) q y hy
            cases hbe
            have i5 : decide ((0 : Int) < (k : Int)) = true := by simp; omega
            have i8 : 0 < k := by omega
            have i9 : decide (0 < k) = true := by simpa using i8
            have i6 : IntKind.i64.wrap ((k : Int) - 1) = (q : Int) := by rw [hq]; unfold IntKind.wrap; simp [IntKind.bits, IntKind.signed]; omega
            have i3 : (0 : Int) ≤ (q : Int) := by omega
            have i4 : (q : Int) < (m : Int) := by omega
            have hle := sLe_eq x y
            have HX := Lib.hid hx
            have HY := Lib.hid hy
            have HQ := Lib.hid hq
            cases hyx : sLt y x with
            | true =>
              rw [hyx] at hle
              have HYX := Lib.hid hyx
              clear hx hy hyx hq
              have hle2 : (Op.bytesLess x.toList y.toList || x.toList == y.toList) = false := by rw [hle]; rfl
              clear hle
              obtain ⟨g1, g2⟩ := Bool.or_eq_false_iff.1 hle2
              clear hle2
              go_wp2_with fail
              go_quiet (fail)
              go_wp2_with fail
              go_roundw
              case rel =>
                refine ⟨k + 1, by omega, by go_num, .inl ⟨rfl, fun j u v hj hu hv => ?_⟩, below_drewN HBx.out _⟩
                by_cases e : j + 1 = k
                · have e2 : j = q := by have := HQ.out; omega
                  subst e2
                  rw [HY.out] at hu
                  rw [e, HX.out] at hv
                  cases hu
                  cases hv
                  exact HYX.out
                · exact HK.out j u v (by omega) hu hv
              case measure => simp [intOf]; omega
            | false =>
              rw [hyx] at hle
              have HNA : Hid (¬ Asc ids) := fun ha => by
                have := asc_at ha hy (by rw [← hq]; exact hx)
                rw [hyx] at this
                cases this
              clear hx hy hyx hq
              have hle2 : (Op.bytesLess x.toList y.toList || x.toList == y.toList) = true := by rw [hle]; rfl
              clear hle
              go_wp2_with fail
              go_quiet (fail)
              go_wp2_with fail
              go_roundw
              case rel => exact ⟨k + 1, by omega, by go_num, .inr ⟨rfl, HNA.out⟩, below_drewN HBx.out _⟩
              case measure => simp [intOf]; omega
        · go_wp2_with fail
          go_quiet (fail)
          go_wp2_with fail
          go_roundw
          case rel => exact ⟨k + 1, by omega, by go_num, .inr ⟨rfl, HN.out⟩, below_drewN HBx.out _⟩
          case measure => simp [intOf]; omega
      · obtain rfl : k = m := by omega
        rcases hv with ⟨rfl, HK⟩ | ⟨rfl, HN⟩
        · have hasc : Asc ids := asc_adj fun j x y hx hy => HK.out j x y (by have := (List.getElem?_eq_some_iff.1 hy).1; rw [HL.out] at this; exact this) hx hy
          obtain rfl : pe = 0 := by
            rw [← HPE.out]
            unfold preErr
            rw [if_neg (by rw [HL.out]; exact hbig), if_pos hasc]
          have HER2 : Hid (er = if 1 ≤ n ∧ n ≤ 60 then 0 else 1) := HER.out
          have HASC := Lib.hid hasc
          clear HER HPE hasc HK
          by_cases hn1 : n < 1
          · obtain rfl : er = 1 := by
              have := HER2.out
              rwa [if_neg (by omega)] at this
            obtain ⟨p1, p2⟩ := page_bad (s := s) (show pageErr ids n ≠ 0 by rw [HE.out]; decide)
            obtain rfl : P = [] := HP.out.symm.trans p1
            obtain rfl : mo = false := HMO.out.symm.trans p2
            obtain rfl : k1 = 0 := HK1.out.symm
            clear p1 p2 HP HMO HK1 HER2 HE
            go_wp2_with fail
            go_ret
            exact ⟨rfl, HB.out⟩
          · by_cases hn2 : 60 < n
            · obtain rfl : er = 1 := by
                have := HER2.out
                rwa [if_neg (by omega)] at this
              obtain ⟨p1, p2⟩ := page_bad (s := s) (show pageErr ids n ≠ 0 by rw [HE.out]; decide)
              obtain rfl : P = [] := HP.out.symm.trans p1
              obtain rfl : mo = false := HMO.out.symm.trans p2
              obtain rfl : k1 = 0 := HK1.out.symm
              clear p1 p2 HP HMO HK1 HER2 HE
              go_wp2_with fail
              go_ret
              exact ⟨rfl, HB.out⟩
            · have he0 : er = 0 := by
                have := HER2.out
                rwa [if_pos (by omega)] at this
              subst he0
              obtain ⟨N, hN⟩ : ∃ N : Nat, n = (N : Int) := ⟨n.toNat, by omega⟩
              subst hN
              obtain ⟨p1, p2⟩ := page_good (s := s) HE.out
              have HP2 : Hid ((above ids s).take N = P) := by
                show _ = P
                rw [← HP.out, p1, Int.toNat_natCast]
              have HM2 : Hid (decide (N < (above ids s).length) = mo) := by
                show _ = mo
                rw [← HMO.out, p2, decide_eq_decide]
                omega
              clear p1 p2 HP HMO HER2 HE
              have n1 : 0 < N := by omega
              have n2 : N ≤ 60 := by omega
              go_wp2_with fail
              obtain ⟨i0, hi, hz0, hz1, hz2⟩ := info_parts Try.infoStr
              have hwr : w.heap.size ≤ wr.heap.size := HB.out.size
              obtain ⟨wb, hwb⟩ : ∃ wb, wb = wr := ⟨_, rfl⟩
              subst hwb
              go_loopw [15, 16, 98] (fun v lf i wr => ∃ (j : Nat) (lb : Bool) (q : List ByteArray), j ≤ k ∧ i = .int .i64 j ∧ lf = .bool lb ∧ q.length ≤ N ∧ Hid ((above (ids.take j) s).take N = q) ∧ Hid (decide (N < (above (ids.take j) s).length) = lb) ∧ OwnS wb.heap.size wr v q ∧ Hid (Below wb.heap.size wb wr)) (fun _ _ i _ => k - (intOf i).toNat)
              case atStart => exact ⟨0, false, [], Nat.zero_le _, rfl, rfl, Nat.zero_le _, (show (above (ids.take 0) s).take N = [] by simp [above]), (show decide (N < (above (ids.take 0) s).length) = false by simp [above]), World.ownsRow_nil _ _ _ _, Below.refl _ _⟩
              case round =>
                obtain ⟨j, lb, q, hj, rfl, rfl, hqN, HQ, HLB, hown, HBW⟩ := hrel
                obtain ⟨Aq, cq, rfl⟩ := hown.form
                have HOW := Lib.hid hown
                clear hown
                by_cases hjk : j < k
                · obtain ⟨x, hx⟩ : ∃ x, ids[j]? = some x := ⟨_, List.getElem?_eq_getElem (by rw [HL.out]; exact hjk)⟩
                  have htk : ids.take (j + 1) = ids.take j ++ [x] := by rw [List.take_add_one, hx]; rfl
                  obtain ⟨b0, off, rfl, hc⟩ := (HS.out.below (HB.out.trans (HBW.out.mono hwr))) j x hx
                  have i1 : (0 : Int) ≤ (j : Int) := by omega
                  have i2 : (j : Int) < (k : Int) := by omega
                  have HTK := Lib.hid htk
                  clear hx htk
                  cases hsx : sLt s x with
                  | false =>
                    have e1 : (Op.bytesLess x.toList s.toList || x.toList == s.toList) = true := by rw [sLe_eq, hsx]; rfl
                    have HSX := Lib.hid hsx
                    clear hsx
                    go_wp2_with fail
                    go_roundw
                    case rel =>
                      have ha : above (ids.take (j + 1)) s = above (ids.take j) s := by rw [HTK.out, above_snoc, if_neg (by rw [HSX.out]; simp), List.append_nil]
                      exact ⟨j + 1, lb, q, by omega, by go_num, rfl, hqN, (show _ = q by rw [ha]; exact HQ.out), (show _ = lb by rw [ha]; exact HLB.out), HOW.out, HBW.out⟩
                    case measure => simp [intOf]; omega
                  | true =>
                    have e0 : (Op.bytesLess x.toList s.toList || x.toList == s.toList) = false := by rw [sLe_eq, hsx]; rfl
                    obtain ⟨e1, e2⟩ := Bool.or_eq_false_iff.1 e0
                    clear e0
                    have HA : Hid (above (ids.take (j + 1)) s = above (ids.take j) s ++ [x]) := by
                      show _ = _
                      rw [HTK.out, above_snoc, if_pos hsx]
                    clear hsx HTK
                    by_cases hlt2 : q.length < N
                    · have hi2 : (q.length : Int) < (N : Int) := by omega
                      have hrow : wr.ownsRow wb.heap.size 9 1 (.slice Aq q.length cq) q.length (cellsS q) := HOW.out
                      have hwz : wb.heap.size ≤ wr.heap.size := HBW.out.size
                      have hq60 : q.length ≤ 60 := by omega
                      have hrowa := hrow.alloc (.cells #[.string x] 9)
                      have HBW1 := Lib.hid (HBW.out.alloc HBW.out.size (.cells #[.string x] 9))
                      go_wp2_with (at_builtin; refine wpList_append_own _ rfl _ _ 22 rfl wb.heap.size 9 i0 (.string ⟨#[]⟩) 1 16 Try.underlying22 hi hz0 hz1 hz2 rfl (by decide) _ _ _ rfl hrowa ⟨wr.heap.size, 0, none⟩ 1 1 [.string x] rfl rfl ?cc (by simp [Value.oneCell']) ?c1 ?c2 ?c3 ?_)
                      case cc => intro i u hu; rw [addr_at]; match i, hu with | 0, hu => cases hu; simp [go_sem] | i + 1, hu => simp at hu
                      case c1 => unfold maxLen; omega
                      case c2 => omega
                      case c3 => simp; omega
                      intro v' w5 hown5 hg5 _
                      have HO5 : Hid (OwnS wb.heap.size w5 v' (q ++ [x])) := by
                        show OwnS _ _ _ _
                        unfold OwnS cellsS
                        rw [List.length_append, List.map_append]
                        exact hown5
                      have HB5 := Lib.hid (HBW1.out.grown hg5 HBW1.out.size (fun jj hjj => (hrowa.lt jj hjj).1))
                      clear hrow hrowa hown5 hg5
                      go_wp2_with fail
                      go_roundw
                      case rel =>
                        have hlen : (above (ids.take j) s).length < N := by
                          have := congrArg List.length HQ.out
                          rw [List.length_take] at this
                          omega
                        have hqe : q = above (ids.take j) s := by rw [← HQ.out, List.take_of_length_le (by omega)]
                        refine ⟨j + 1, lb, q ++ [x], by omega, by go_num, rfl, by simp; omega, (show _ = _ by rw [HA.out, List.take_of_length_le (by simp; omega), ← hqe]), (show _ = lb by rw [HA.out, ← HLB.out, decide_eq_decide]; simp; omega), HO5.out, HB5.out⟩
                      case measure => simp [intOf]; omega
                    · have hi2 : ¬ (q.length : Int) < (N : Int) := by omega
                      go_wp2_with fail
                      go_roundw
                      case rel =>
                        have hlen : N ≤ (above (ids.take j) s).length := by
                          have := congrArg List.length HQ.out
                          rw [List.length_take] at this
                          omega
                        refine ⟨j + 1, true, q, by omega, by go_num, rfl, hqN, (show _ = _ by rw [HA.out, List.take_append_of_le_length hlen]; exact HQ.out), (show _ = true by rw [HA.out]; simp; omega), HOW.out, HBW.out⟩
                      case measure => simp [intOf]; omega
                · obtain rfl : j = k := by omega
                  have hall : ids.take j = ids := List.take_of_length_le (by rw [HL.out]; exact Nat.le_refl _)
                  have hqP : q = P := by rw [← HQ.out, hall]; exact HP2.out
                  have hlm : lb = mo := by rw [← HLB.out, hall]; exact HM2.out
                  subst hqP hlm
                  obtain ⟨hs1, hm1, hm2⟩ := OwnS.sl (c := cq) HOW.out
                  have hk1 : q.length = k1 := HK1.out
                  have ho1 : OwnS w.heap.size wb (.slice A1 k1 c1) q := HO3.out.below HBx.out
                  rw [← hk1] at ho1
                  obtain ⟨hs2, hm3, hm4⟩ := OwnS.sl (c := c1) (ho1.below HBW.out)
                  have HEQ := Lib.hid (eqS_is (b := true) A1 Aq q q c1 cq wr hs2 hs1 (Nat.le_trans hm3 hm4) (Nat.le_trans hm1 hm2) (by simp))
                  rw [hk1] at HEQ
                  have HK1' := Lib.hid hk1
                  rw [hk1]
                  clear hs1 hm1 hm2 hk1 ho1 hs2 hm3 hm4 hall hjk
                  go_wp2_with fail
                  refine HEQ.out.mono ?_
                  rintro e w6 ⟨rfl, hb6⟩
                  have HB6 := Lib.hid ((HB.out.trans (HBW.out.mono hwr)).trans (hb6.mono (HB.out.trans (HBW.out.mono hwr)).size))
                  clear hb6
                  go_wp2_with fail
                  go_ret
                  exact ⟨by simp, HB6.out⟩
        · obtain rfl : pe = 3 := by
            rw [← HPE.out]
            unfold preErr
            rw [if_neg (by rw [HL.out]; exact hbig), if_neg HN.out]
          obtain rfl : er = 3 := HER.out
          obtain ⟨p1, p2⟩ := page_bad (s := s) (show pageErr ids n ≠ 0 by rw [HE.out]; decide)
          obtain rfl : P = [] := HP.out.symm.trans p1
          obtain rfl : mo = false := HMO.out.symm.trans p2
          obtain rfl : k1 = 0 := HK1.out.symm
          clear p1 p2 HP HMO HK1 HER HE HPE
          go_wp2_with fail
          go_ret
          exact ⟨rfl, HB.out⟩
end Go.Proofs.Ytodlabohijabnaa
