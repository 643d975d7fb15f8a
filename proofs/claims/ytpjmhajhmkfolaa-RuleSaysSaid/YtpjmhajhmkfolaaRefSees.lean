/- The contract of wyref.Sees. -/
import Derived.Test.YtpjmhajhmkfolaaRefRules2
import Derived.Deep.Cut
set_option linter.unusedVariables false
set_option linter.unusedSimpArgs false
namespace Go.Proofs.Ytpjmhajhmkfolaa
open Go.RowKit

theorem comes_int {a : Option Addr} {n : Nat} {u : Nat → Nat} (cap : Nat) (i k : Int) (w : World) (h : SlV w a n u) (h0 : 0 ≤ i) (hi : i < n) (hk : 0 ≤ k) (hk2 : k < 256) :
    Calls Try.prog 29 #[.slice a n cap, .int .i64 i, .int .i64 k] w fun e w' => e = .returned (.bool ((allU u i.toNat).testBit k.toNat)) ∧ w = w' := by
  obtain ⟨p, rfl⟩ := Int.eq_ofNat_of_zero_le h0
  obtain ⟨q, rfl⟩ := Int.eq_ofNat_of_zero_le hk
  exact comes_valid cap q w h (by omega) p (by omega)

set_option maxRecDepth 100000 in
set_option maxHeartbeats 4000000 in
theorem refSees_ok (a : Option Addr) (m cap : Nat) (u : Nat → Nat) (b : Option Addr) (n capb : Nat) (rs : Nat → RuleL) (x : WhoL) (w : World) (hu : SlV w a m u) (hs : SlR w b n rs) (hn : n ≤ 20) (hok : ∀ k, k < n → (rs k).ok) (hx : x.ok) (hxm : x.role < m) :
    Calls Try.prog 11 #[.slice a m cap, .slice b n capb, x.v] w fun e w' => e = .returned (.tuple #[.int .i64 (seen m u x n rs : Nat), .int .i64 0]) ∧ Below w.heap.size w w' := by
  have hm8 := hu.2.1
  have hxm' : ¬ (m : Int) ≤ x.role := by omega
  have hzz : ∀ k, k < m → 0 ≤ (u k : Int) ∧ (u k : Int) < 2 ^ k := fun k hk => ⟨Int.natCast_nonneg _, cast_lt_pow (hu.2.2 k hk)⟩
  obtain ⟨q, hq⟩ := Int.eq_ofNat_of_zero_le hx.1.1
  have hqm : q < m := by omega
  have HU := Lib.hid hu; have HS := Lib.hid hs; have HOK := Lib.hid hok; have HX := Lib.hid hx; have HZ := Lib.hid hzz; have HQ := Lib.hid hq
  clear hu hs hok hx hzz hq
  go_enter Try.func11, Try.ntmps11
  go_wp2_with fail
  have hA : Below w.heap.size w (w.alloc (.cells #[.int .i64 x.role, .int .i64 x.why, .int .i64 x.time] 25)) := (Below.refl _ _).alloc (Nat.le_refl _) _
  refine (roles_valid a m cap _ _ (HU.out.below hA).1 hm8 HZ.out).mono ?_
  rintro e w' ⟨rfl, rfl⟩
  go_wp2_with fail
  refine (refRules_ok b n capb rs _ (HS.out.below hA) hn HOK.out).mono ?_
  rintro e w1 ⟨rfl, hb1⟩
  have hB1 : Below w.heap.size w w1 := hA.trans (hb1.mono (by simp))
  have x0 : w1.cell? ⟨w.heap.size, 0, none⟩ = some (.int .i64 x.role) := by rw [hb1.cell (by simp)]; simp
  have x1 : w1.cell? ⟨w.heap.size, 1, none⟩ = some (.int .i64 x.why) := by rw [hb1.cell (by simp)]; simp
  have x2 : w1.cell? ⟨w.heap.size, 2, none⟩ = some (.int .i64 x.time) := by rw [hb1.cell (by simp)]; simp
  have hlt1 : w.heap.size < w1.heap.size := by have := hb1.size; simp at this; omega
  clear hb1 hA
  go_wp2_with fail
  refine (refWho_yes x _ HX.out).mono ?_
  rintro e w2 ⟨rfl, hb2, -⟩
  have hB2 : Below w.heap.size w w2 := hB1.trans (hb2.mono hB1.size)
  have y0 : w2.cell? ⟨w.heap.size, 0, none⟩ = some (.int .i64 x.role) := (hb2.cell (p := ⟨_, _, none⟩) hlt1).trans x0
  have y1 : w2.cell? ⟨w.heap.size, 1, none⟩ = some (.int .i64 x.why) := (hb2.cell (p := ⟨_, _, none⟩) hlt1).trans x1
  have y2 : w2.cell? ⟨w.heap.size, 2, none⟩ = some (.int .i64 x.time) := (hb2.cell (p := ⟨_, _, none⟩) hlt1).trans x2
  have hlt2 : w.heap.size < w2.heap.size := Nat.lt_of_lt_of_le hlt1 hb2.size
  clear hb2 x0 x1 x2 hB1 hlt1
  go_wp2_with fail
  have HY := Lib.hid (show WhoAt w2 w.heap.size x from ⟨y0, y1, y2⟩)
  clear y0 y1 y2
  go_loopw [10, 34] (fun o s wr => ∃ i N : Nat, i ≤ 8 ∧ s = .int .i64 i ∧ o = .int .i64 N ∧ Hid (N = seenN m u x n rs i) ∧ N < 256 ∧ Below w.heap.size w wr ∧ Hid (WhoAt wr w.heap.size x)) (fun _ s _ => 8 - (intOf s).toNat)
  case atStart => exact ⟨0, 0, by omega, rfl, rfl, rfl, by omega, hB2, HY⟩
  case round =>
    obtain ⟨i, N, hi, rfl, rfl, hN, hN2, hB, HW⟩ := hrel
    by_cases hlt : i < 8
    · have hlt' : (i : Int) < 8 := by omega
      go_wp2_with fail
      obtain ⟨wo, rfl⟩ : ∃ wo : World, wo = wr := ⟨_, rfl⟩
      go_loopw [12, 13, 39] (fun y z s wr => ∃ (k : Nat) (yb nb : Bool), k ≤ n ∧ s = .int .i64 k ∧ y = .bool yb ∧ z = .bool nb ∧ Hid (yb = yesN m u x i rs k) ∧ Hid (nb = noN m u x i rs k) ∧ Below w.heap.size w wr ∧ Hid (WhoAt wr w.heap.size x)) (fun _ _ s _ => n - (intOf s).toNat)
      case atStart => exact ⟨0, false, false, Nat.zero_le _, rfl, rfl, rfl, rfl, rfl, hB, HW⟩
      case round =>
        obtain ⟨k, yb, nb, hk, rfl, rfl, rfl, hY, hN3, hBr, HWr⟩ := hrel
        by_cases hkn : k < n
        · obtain ⟨bb, off, rfl, hc⟩ := (HS.out.below hBr) k hkn
          have hblt := cell_lt hc.1
          obtain ⟨c0, c1, c2, c3, c4, c5⟩ := hc
          have hu2 := Lib.hid ((HU.out.below hBr).below ((Below.refl _ _).alloc (Nat.le_refl _) (.cells #[.int .i64 (rs k).role, .int .i64 (rs k).why, .int .i64 (rs k).frm, .int .i64 (rs k).til, .int .i64 (rs k).cats, .bool (rs k).allow] 27)))
          have hW2 := HWr.out.below ((Below.refl _ _).alloc (Nat.le_refl _) (.cells #[.int .i64 (rs k).role, .int .i64 (rs k).why, .int .i64 (rs k).frm, .int .i64 (rs k).til, .int .i64 (rs k).cats, .bool (rs k).allow] 27))
          have HW2 := Lib.hid hW2
          have hB2r : Below w.heap.size w (wr.alloc (.cells #[.int .i64 (rs k).role, .int .i64 (rs k).why, .int .i64 (rs k).frm, .int .i64 (rs k).til, .int .i64 (rs k).cats, .bool (rs k).allow] 27)) := hBr.alloc hBr.size _
          have hokk := HOK.out k hkn
          clear hW2
          go_upto_region 19 with (fail)
          go_cut [92] from 43 to 92 (fun s92 wc => s92 = .bool (!speaks m u x i (rs k)) ∧ wc = (wr.alloc (.cells #[.int .i64 (rs k).role, .int .i64 (rs k).why, .int .i64 (rs k).frm, .int .i64 (rs k).til, .int .i64 (rs k).cats, .bool (rs k).allow] 27)))
          case first =>
            have x0 := HW2.out.c0
            have x1 := HW2.out.c1
            have x2 := HW2.out.c2
            have hwlt : w.heap.size < wr.heap.size := cell_lt HWr.out.c0
            clear c0 c1 c2 c3 c4 c5
            obtain ⟨⟨⟨hr1, hr2⟩, hwy, hf0, ht0, hc0, hc2⟩, hft⟩ := hokk
            have htm := kind_tmod (rs k) i hc0
            have ht1 : 0 < (rs k).til := by omega
            have hxr := HX.out.1
            have HXR := Lib.hid hxr
            clear hxr
            cases hki : (rs k).kind i
            · rw [hki, if_neg (by decide)] at htm
              have HSP : Hid (speaks m u x i (rs k) = false) := (speaks_of hki rfl rfl rfl).trans (by simp)
              clear hki
              go_wp2_with (first | (go_at_call 29; refine (comes_int cap x.role (rs k).role _ hu2.out HXR.out.1 hxm (by omega) (by omega)).mono ?_; rintro e w' ⟨rfl, rfl⟩) | (go_at_call 30; refine (within_no x.time (rs k).frm ((rs k).til - 1) _ (by omega)).mono ?_; rintro e w' ⟨rfl, rfl⟩))
              go_meet
              case rel => exact ⟨by rw [HSP.out]; rfl, rfl⟩
            · rw [hki, if_pos rfl] at htm
              by_cases hro : (rs k).role = -1
              · have hro2 : ((rs k).role != -1) = false := by simp [hro]
                have hfr : forRole m u x (rs k) = true := by unfold forRole; rw [decide_eq_true hro]; rfl
                clear hro
                by_cases hw1 : (rs k).why = -1
                · have hw2 : ((rs k).why != -1) = false := by simp [hw1]
                  have hfw : forWhy x (rs k) = true := by unfold forWhy; rw [decide_eq_true hw1]; rfl
                  clear hw1
                  by_cases ht : (rs k).frm ≤ x.time ∧ x.time ≤ (rs k).til - 1
                  · have HSP : Hid (speaks m u x i (rs k) = true) := speaks_of hki hfr hfw (decide_eq_true ht)
                    have HT := Lib.hid ht
                    clear ht hki
                    go_wp2_with (first | (go_at_call 29; refine (comes_int cap x.role (rs k).role _ hu2.out HXR.out.1 hxm (by omega) (by omega)).mono ?_; rintro e w' ⟨rfl, rfl⟩) | (go_at_call 30; refine (within_yes x.time (rs k).frm ((rs k).til - 1) _ HT.out.1 HT.out.2).mono ?_; rintro e w' ⟨rfl, rfl⟩))
                    go_meet
                    case rel => exact ⟨by rw [HSP.out]; rfl, rfl⟩
                  · have HSP : Hid (speaks m u x i (rs k) = false) := speaks_of hki hfr hfw (decide_eq_false ht)
                    have HT := Lib.hid ht
                    clear ht hki
                    go_wp2_with (first | (go_at_call 29; refine (comes_int cap x.role (rs k).role _ hu2.out HXR.out.1 hxm (by omega) (by omega)).mono ?_; rintro e w' ⟨rfl, rfl⟩) | (go_at_call 30; refine (within_no x.time (rs k).frm ((rs k).til - 1) _ HT.out).mono ?_; rintro e w' ⟨rfl, rfl⟩))
                    go_meet
                    case rel => exact ⟨by rw [HSP.out]; rfl, rfl⟩
                · have hw2 : ((rs k).why != -1) = true := by simp [hw1]
                  by_cases hw3 : (rs k).why = x.why
                  · have hw4 : ((rs k).why != x.why) = false := by simp [hw3]
                    have hfw : forWhy x (rs k) = true := by unfold forWhy; rw [decide_eq_true hw3, Bool.or_true]
                    clear hw1 hw3
                    by_cases ht : (rs k).frm ≤ x.time ∧ x.time ≤ (rs k).til - 1
                    · have HSP : Hid (speaks m u x i (rs k) = true) := speaks_of hki hfr hfw (decide_eq_true ht)
                      have HT := Lib.hid ht
                      clear ht hki
                      go_wp2_with (first | (go_at_call 29; refine (comes_int cap x.role (rs k).role _ hu2.out HXR.out.1 hxm (by omega) (by omega)).mono ?_; rintro e w' ⟨rfl, rfl⟩) | (go_at_call 30; refine (within_yes x.time (rs k).frm ((rs k).til - 1) _ HT.out.1 HT.out.2).mono ?_; rintro e w' ⟨rfl, rfl⟩))
                      go_meet
                      case rel => exact ⟨by rw [HSP.out]; rfl, rfl⟩
                    · have HSP : Hid (speaks m u x i (rs k) = false) := speaks_of hki hfr hfw (decide_eq_false ht)
                      have HT := Lib.hid ht
                      clear ht hki
                      go_wp2_with (first | (go_at_call 29; refine (comes_int cap x.role (rs k).role _ hu2.out HXR.out.1 hxm (by omega) (by omega)).mono ?_; rintro e w' ⟨rfl, rfl⟩) | (go_at_call 30; refine (within_no x.time (rs k).frm ((rs k).til - 1) _ HT.out).mono ?_; rintro e w' ⟨rfl, rfl⟩))
                      go_meet
                      case rel => exact ⟨by rw [HSP.out]; rfl, rfl⟩
                  · have hw4 : ((rs k).why != x.why) = true := by simp [hw3]
                    have hfw : forWhy x (rs k) = false := by unfold forWhy; rw [decide_eq_false hw1, decide_eq_false hw3]; rfl
                    have HSP : Hid (speaks m u x i (rs k) = false) := (speaks_of hki hfr hfw rfl).trans (by simp)
                    clear hw1 hw3 hki hfw
                    go_wp2_with (first | (go_at_call 29; refine (comes_int cap x.role (rs k).role _ hu2.out HXR.out.1 hxm (by omega) (by omega)).mono ?_; rintro e w' ⟨rfl, rfl⟩) | (go_at_call 30; refine (within_no x.time (rs k).frm ((rs k).til - 1) _ (by omega)).mono ?_; rintro e w' ⟨rfl, rfl⟩))
                    go_meet
                    case rel => exact ⟨by rw [HSP.out]; rfl, rfl⟩
              · have hro2 : ((rs k).role != -1) = true := by simp [hro]
                have hro3 : 0 ≤ (rs k).role := by omega
                by_cases hrm : (m : Int) ≤ (rs k).role
                · have hfr : forRole m u x (rs k) = false := by unfold forRole; rw [decide_eq_false hro, decide_eq_false (show ¬ (rs k).role < m by omega)]; rfl
                  have HSP : Hid (speaks m u x i (rs k) = false) := (speaks_of hki hfr rfl rfl).trans (by simp)
                  clear hro hki hfr
                  go_wp2_with (first | (go_at_call 29; refine (comes_int cap x.role (rs k).role _ hu2.out HXR.out.1 hxm (by omega) (by omega)).mono ?_; rintro e w' ⟨rfl, rfl⟩) | (go_at_call 30; refine (within_no x.time (rs k).frm ((rs k).til - 1) _ (by omega)).mono ?_; rintro e w' ⟨rfl, rfl⟩))
                  go_meet
                  case rel => exact ⟨by rw [HSP.out]; rfl, rfl⟩
                · cases hco : (allU u x.role.toNat).testBit (rs k).role.toNat
                  · have hfr : forRole m u x (rs k) = false := by unfold forRole; rw [decide_eq_false hro, decide_eq_true (show (rs k).role < m by omega), hco]; rfl
                    have HSP : Hid (speaks m u x i (rs k) = false) := (speaks_of hki hfr rfl rfl).trans (by simp)
                    clear hro hki hfr
                    go_wp2_with (first | (go_at_call 29; refine (comes_int cap x.role (rs k).role _ hu2.out HXR.out.1 hxm (by omega) (by omega)).mono ?_; rintro e w' ⟨rfl, rfl⟩) | (go_at_call 30; refine (within_no x.time (rs k).frm ((rs k).til - 1) _ (by omega)).mono ?_; rintro e w' ⟨rfl, rfl⟩))
                    go_meet
                    case rel => exact ⟨by rw [HSP.out]; rfl, rfl⟩
                  · have hfr : forRole m u x (rs k) = true := by unfold forRole; rw [decide_eq_false hro, decide_eq_true (show (rs k).role < m by omega), hco]; rfl
                    clear hro
                    by_cases hw1 : (rs k).why = -1
                    · have hw2 : ((rs k).why != -1) = false := by simp [hw1]
                      have hfw : forWhy x (rs k) = true := by unfold forWhy; rw [decide_eq_true hw1]; rfl
                      clear hw1
                      by_cases ht : (rs k).frm ≤ x.time ∧ x.time ≤ (rs k).til - 1
                      · have HSP : Hid (speaks m u x i (rs k) = true) := speaks_of hki hfr hfw (decide_eq_true ht)
                        have HT := Lib.hid ht
                        clear ht hki
                        go_wp2_with (first | (go_at_call 29; refine (comes_int cap x.role (rs k).role _ hu2.out HXR.out.1 hxm (by omega) (by omega)).mono ?_; rintro e w' ⟨rfl, rfl⟩) | (go_at_call 30; refine (within_yes x.time (rs k).frm ((rs k).til - 1) _ HT.out.1 HT.out.2).mono ?_; rintro e w' ⟨rfl, rfl⟩))
                        go_meet
                        case rel => exact ⟨by rw [HSP.out]; rfl, rfl⟩
                      · have HSP : Hid (speaks m u x i (rs k) = false) := speaks_of hki hfr hfw (decide_eq_false ht)
                        have HT := Lib.hid ht
                        clear ht hki
                        go_wp2_with (first | (go_at_call 29; refine (comes_int cap x.role (rs k).role _ hu2.out HXR.out.1 hxm (by omega) (by omega)).mono ?_; rintro e w' ⟨rfl, rfl⟩) | (go_at_call 30; refine (within_no x.time (rs k).frm ((rs k).til - 1) _ HT.out).mono ?_; rintro e w' ⟨rfl, rfl⟩))
                        go_meet
                        case rel => exact ⟨by rw [HSP.out]; rfl, rfl⟩
                    · have hw2 : ((rs k).why != -1) = true := by simp [hw1]
                      by_cases hw3 : (rs k).why = x.why
                      · have hw4 : ((rs k).why != x.why) = false := by simp [hw3]
                        have hfw : forWhy x (rs k) = true := by unfold forWhy; rw [decide_eq_true hw3, Bool.or_true]
                        clear hw1 hw3
                        by_cases ht : (rs k).frm ≤ x.time ∧ x.time ≤ (rs k).til - 1
                        · have HSP : Hid (speaks m u x i (rs k) = true) := speaks_of hki hfr hfw (decide_eq_true ht)
                          have HT := Lib.hid ht
                          clear ht hki
                          go_wp2_with (first | (go_at_call 29; refine (comes_int cap x.role (rs k).role _ hu2.out HXR.out.1 hxm (by omega) (by omega)).mono ?_; rintro e w' ⟨rfl, rfl⟩) | (go_at_call 30; refine (within_yes x.time (rs k).frm ((rs k).til - 1) _ HT.out.1 HT.out.2).mono ?_; rintro e w' ⟨rfl, rfl⟩))
                          go_meet
                          case rel => exact ⟨by rw [HSP.out]; rfl, rfl⟩
                        · have HSP : Hid (speaks m u x i (rs k) = false) := speaks_of hki hfr hfw (decide_eq_false ht)
                          have HT := Lib.hid ht
                          clear ht hki
                          go_wp2_with (first | (go_at_call 29; refine (comes_int cap x.role (rs k).role _ hu2.out HXR.out.1 hxm (by omega) (by omega)).mono ?_; rintro e w' ⟨rfl, rfl⟩) | (go_at_call 30; refine (within_no x.time (rs k).frm ((rs k).til - 1) _ HT.out).mono ?_; rintro e w' ⟨rfl, rfl⟩))
                          go_meet
                          case rel => exact ⟨by rw [HSP.out]; rfl, rfl⟩
                      · have hw4 : ((rs k).why != x.why) = true := by simp [hw3]
                        have hfw : forWhy x (rs k) = false := by unfold forWhy; rw [decide_eq_false hw1, decide_eq_false hw3]; rfl
                        have HSP : Hid (speaks m u x i (rs k) = false) := (speaks_of hki hfr hfw rfl).trans (by simp)
                        clear hw1 hw3 hki hfw
                        go_wp2_with (first | (go_at_call 29; refine (comes_int cap x.role (rs k).role _ hu2.out HXR.out.1 hxm (by omega) (by omega)).mono ?_; rintro e w' ⟨rfl, rfl⟩) | (go_at_call 30; refine (within_no x.time (rs k).frm ((rs k).til - 1) _ (by omega)).mono ?_; rintro e w' ⟨rfl, rfl⟩))
                        go_meet
                        case rel => exact ⟨by rw [HSP.out]; rfl, rfl⟩
          case rest =>
            obtain ⟨rfl, rfl⟩ := hcut
            obtain ⟨sp, hsp⟩ : ∃ sp, speaks m u x i (rs k) = sp := ⟨_, rfl⟩
            obtain ⟨al, hal⟩ : ∃ al, (rs k).allow = al := ⟨_, rfl⟩
            rw [hsp]
            have HSP := Lib.hid hsp; have HAL := Lib.hid hal
            clear hsp c0 c1 c2 c3 c4 c5
            cases sp
            · clear hal
              go_wp2_with fail
              go_roundw
              case rel => exact ⟨k + 1, yb, nb, by omega, by go_num, rfl, rfl, by show yb = _; rw [yesN, HSP.out, Bool.false_and, Bool.or_false]; exact hY.out, by show nb = _; rw [noN, HSP.out, Bool.false_and, Bool.or_false]; exact hN3.out, hB2r, HW2⟩
              case measure => simp [intOf]; omega
            · have hW3 := HW2.out
              rw [hal] at hB2r hW3
              have HW3 := Lib.hid hW3
              clear hW3
              cases yb <;> cases nb <;> cases al
              all_goals
                go_wp2_with fail
                go_roundw
                case rel => exact ⟨k + 1, _, _, by omega, by go_num, rfl, rfl, by show _ = yesN m u x i rs (k + 1); rw [yesN, ← hY.out, HSP.out, HAL.out]; rfl, by show _ = noN m u x i rs (k + 1); rw [noN, ← hN3.out, HSP.out, HAL.out]; rfl, hB2r, HW3⟩
                case measure => simp [intOf]; omega
        · obtain rfl : k = n := by omega
          obtain ⟨sn, hsn⟩ : ∃ sn, (yb && !nb) = sn := ⟨_, rfl⟩
          obtain ⟨p, hp⟩ : ∃ p : Nat, Hid (p = 2 ^ i) := ⟨_, rfl⟩
          have hp1 : p ≤ 128 := by rw [hp.out]; exact pow_le_128 hlt
          have hsh : wrap64 ((2 : Int) ^ i) = (p : Int) := by
            have := shl_one hlt
            rw [← hp.out] at this
            exact this
          have HSN := Lib.hid hsn
          clear hsn
          cases yb <;> cases nb
          all_goals
            go_wp2_with fail
            go_roundw
            case rel =>
              first
              | exact ⟨i + 1, N, by omega, by go_num, rfl, by show N = seenN m u x k rs (i + 1); rw [seenN, ← hY.out, ← hN3.out, if_neg (by decide)]; exact hN.out, hN2, hBr, HWr⟩
              | exact ⟨i + 1, N + p, by omega, by go_num, by go_num, by show N + p = seenN m u x k rs (i + 1); rw [seenN, ← hY.out, ← hN3.out, if_pos (by decide), ← hN.out, hp.out], by have := seenN_lt m u x k rs i; rw [← hN.out, ← hp.out] at this; omega, hBr, HWr⟩
            case measure => simp [intOf]; omega
    · obtain rfl : i = 8 := by omega
      have hNe : N = seen m u x n rs := hN.out
      rw [hNe]
      go_wp2_with fail
      go_ret2
      exact ⟨rfl, hB⟩
end Go.Proofs.Ytpjmhajhmkfolaa
