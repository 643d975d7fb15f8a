/- The walk of RuleTimes. -/
import Derived.Test.YtpjmhajhmkfolaaRuleTwo
import Derived.Test.YtpjmhajhmkfolaaApp
import Derived.Test.YtpjmhajhmkfolaaWithin
import Derived.Deep.RegionHeld3
import Derived.Deep.DrawnRows
import Derived.Deep.Cut
import Derived.Deep.CutRange
import Derived.IntWalk
set_option linter.unusedVariables false
set_option linter.unusedSimpArgs false
namespace Go.Proofs.Ytpjmhajhmkfolaa
open Go.RowKit
attribute [local go_sem ↓] Go.wp_at_zero Go.wp_at_succ

/-- a rule for two times, one behind the other -/
theorem split_rule {m : Nat} {u : Nat → Nat} {x : WhoL} {r : RuleL} {i : Nat} {mid : Int} (h1 : r.frm < mid) (h2 : mid < r.til) : (speaks m u x i (r.set 3 mid) || speaks m u x i (r.set 2 mid)) = speaks m u x i r := by
  have e : (forTime x (r.set 3 mid) || forTime x (r.set 2 mid)) = forTime x r := by
    unfold forTime
    show (decide (r.frm ≤ x.time ∧ x.time ≤ mid - 1) || decide (mid ≤ x.time ∧ x.time ≤ r.til - 1)) = decide (r.frm ≤ x.time ∧ x.time ≤ r.til - 1)
    rw [Bool.eq_iff_iff, Bool.or_eq_true, decide_eq_true_iff, decide_eq_true_iff, decide_eq_true_iff]
    omega
  unfold speaks
  rw [← e]
  show ((r.kind i && forRole m u x r && forWhy x r && _) || (r.kind i && forRole m u x r && forWhy x r && _)) = _
  rw [← Bool.and_or_distrib_left]

/-- a rule that is not for then, nor for that -/
theorem idle_rule {m : Nat} {u : Nat → Nat} {x : WhoL} {r : RuleL} {i : Nat} (h : (decide (x.time < r.frm) || decide (r.til ≤ x.time) || (decide (0 ≤ r.why) && decide (r.why ≠ x.why))) = true) : speaks m u x i r = false := by
  unfold speaks forWhy forTime
  simp only [Bool.or_eq_true, Bool.and_eq_true, decide_eq_true_iff] at h
  rcases h with (h | h) | ⟨h1, h2⟩
  · rw [decide_eq_false (show ¬ (r.frm ≤ x.time ∧ x.time ≤ r.til - 1) by omega), Bool.and_false]
  · rw [decide_eq_false (show ¬ (r.frm ≤ x.time ∧ x.time ≤ r.til - 1) by omega), Bool.and_false]
  · rw [decide_eq_false (show ¬ r.why = -1 by omega), decide_eq_false h2, Bool.or_false, Bool.and_false, Bool.false_and]

set_option maxRecDepth 100000 in
set_option maxHeartbeats 4000000 in
theorem ruleTimes_walk (a : Option Addr) (m cap : Nat) (z : Nat → Int) (b : Option Addr) (n capb : Nat) (rs : Nat → RuleL) (x : WhoL) (r : RuleL) (c : Int) (w : World) (hu : Sl w a m z) (hm : m ≤ maxLen) (hs : SlR w b n rs) (hn : n ≤ maxLen) :
    Calls Try.prog 7 #[.slice a m cap, .slice b n capb, x.v, r.v, .int .i64 c] w fun e w' => e = .returned (.bool true) ∧ Below w.heap.size w w' := by
  obtain ⟨V, hV⟩ : ∃ V, seesV m z n rs x = V := ⟨_, rfl⟩
  obtain ⟨E, hE⟩ : ∃ E, seesE m z n rs x = E := ⟨_, rfl⟩
  have HSees : Hid (∀ w', Below w.heap.size w w' → Calls Try.prog 9 #[.slice a m cap, .slice b n capb, x.v] w' fun e w'' => e = .returned (.tuple #[.int .i64 (V : Nat), .int .i64 E]) ∧ Below w'.heap.size w' w'') := fun w' h => by
    rw [← hV, ← hE]
    exact sees_any a m cap z b n capb rs x w' (hu.below h) hm (hs.below h) hn
  have hEc := seesE_cases (m := m) (z := z) (n := n) (rs := rs) (x := x)
  rw [hE] at hEc
  have HV0 : Hid (E ≠ 0 → V = 0) := fun h => by rw [← hV]; exact seesV_err (by rw [hE]; exact h)
  have HU := Lib.hid hu; have HS := Lib.hid hs; have HM := Lib.hid hm; have HN := Lib.hid hn; have HV := Lib.hid hV; have HE := Lib.hid hE
  clear hu hm hs hn hV hE
  have hA : Below w.heap.size w ((w.alloc (.cells #[.int .i64 x.role, .int .i64 x.why, .int .i64 x.time] 25)).alloc (.cells #[.int .i64 r.role, .int .i64 r.why, .int .i64 r.frm, .int .i64 r.til, .int .i64 r.cats, .bool r.allow] 27)) := ((Below.refl _ _).alloc (Nat.le_refl _) _).alloc (by simp) _
  have HX : Hid (XR ((w.alloc (.cells #[.int .i64 x.role, .int .i64 x.why, .int .i64 x.time] 25)).alloc (.cells #[.int .i64 r.role, .int .i64 r.why, .int .i64 r.frm, .int .i64 r.til, .int .i64 r.cats, .bool r.allow] 27)) w.heap.size x r) := ⟨⟨by simp, by simp, by simp⟩, ⟨by simp, by simp, by simp, by simp, by simp, by simp⟩⟩
  have hA1 : Below ((w.alloc (.cells #[.int .i64 x.role, .int .i64 x.why, .int .i64 x.time] 25)).alloc (.cells #[.int .i64 r.role, .int .i64 r.why, .int .i64 r.frm, .int .i64 r.til, .int .i64 r.cats, .bool r.allow] 27)).heap.size ((w.alloc (.cells #[.int .i64 x.role, .int .i64 x.why, .int .i64 x.time] 25)).alloc (.cells #[.int .i64 r.role, .int .i64 r.why, .int .i64 r.frm, .int .i64 r.til, .int .i64 r.cats, .bool r.allow] 27)) ((((w.alloc (.cells #[.int .i64 x.role, .int .i64 x.why, .int .i64 x.time] 25)).alloc (.cells #[.int .i64 r.role, .int .i64 r.why, .int .i64 r.frm, .int .i64 r.til, .int .i64 r.cats, .bool r.allow] 27)).alloc (.cells #[.int .i64 0] 3)).alloc (.cells #[.int .i64 (-1), .int .i64 (-1), .int .i64 1, .int .i64 9, .int .i64 5, .bool true] 27)) := ((Below.refl _ _).alloc (Nat.le_refl _) _).alloc (by simp) _
  have HL1 := Lib.hid (sees_lit (w.heap.size + 2) (w.heap.size + 3) 1 0 (fun _ => ⟨-1, -1, 1, 9, 5, true⟩) ⟨0, 0, 9⟩ ((((w.alloc (.cells #[.int .i64 x.role, .int .i64 x.why, .int .i64 x.time] 25)).alloc (.cells #[.int .i64 r.role, .int .i64 r.why, .int .i64 r.frm, .int .i64 r.til, .int .i64 r.cats, .bool r.allow] 27)).alloc (.cells #[.int .i64 0] 3)).alloc (.cells #[.int .i64 (-1), .int .i64 (-1), .int .i64 1, .int .i64 9, .int .i64 5, .bool true] 27)) (by go_simp) (slr_one ⟨by go_simp, by go_simp, by go_simp, by go_simp, by go_simp, by go_simp⟩) (by decide) (by decide +kernel) (by decide +kernel))
  have HX1 := Lib.hid (HX.out.below hA1)
  have hA1w := hA.trans (hA1.mono hA.size)
  clear hA1 HX hA
  go_enter Try.func7, Try.ntmps7
  go_wp2_with fail
  refine HL1.out.mono ?_
  rintro e w1 ⟨rfl, hb1⟩
  have hB1 : Below w.heap.size w w1 := hA1w.trans (hb1.mono hA1w.size)
  have HX2 := Lib.hid (HX1.out.below hb1)
  have hA2 : Below w1.heap.size w1 ((w1.alloc (.cells #[.int .i64 0] 3)).alloc (.cells #[.int .i64 (-1), .int .i64 (-1), .int .i64 1, .int .i64 9, .int .i64 5, .bool true] 27)) := ((Below.refl _ _).alloc (Nat.le_refl _) _).alloc (by simp) _
  have HL2 := Lib.hid (sees_lit w1.heap.size (w1.heap.size + 1) 1 5 (fun _ => ⟨-1, -1, 1, 9, 5, true⟩) ⟨0, 0, 8⟩ ((w1.alloc (.cells #[.int .i64 0] 3)).alloc (.cells #[.int .i64 (-1), .int .i64 (-1), .int .i64 1, .int .i64 9, .int .i64 5, .bool true] 27)) (by simp) (slr_one ⟨by simp, by simp, by simp, by simp, by simp, by simp⟩) (by decide) (by decide +kernel) (by decide +kernel))
  have HX3 := Lib.hid (HX2.out.below hA2)
  have hA2w := hB1.trans (hA2.mono hB1.size)
  clear HL1 hb1 HX1 hA1w HX2 hA2 hB1
  go_wp2_with fail
  refine HL2.out.mono ?_
  rintro e w2 ⟨rfl, hb2⟩
  have hB2 : Below w.heap.size w w2 := hA2w.trans (hb2.mono hA2w.size)
  have HX4 := Lib.hid (HX3.out.below hb2)
  clear HL2 hb2 HX3 hA2w
  obtain ⟨⟨x0, x1, x2⟩, -⟩ := HX4.out
  go_wp2_with fail
  refine (HSees.out _ hB2).mono ?_
  rintro e w3 ⟨rfl, hb3⟩
  have hB3 : Below w.heap.size w w3 := hB2.trans (hb3.mono hB2.size)
  have HX5 := Lib.hid (HX4.out.below hb3)
  clear hb3 HX4 hB2 x0 x1 x2
  by_cases h0 : E = 0
  · subst h0
    clear hEc HV0
    have hn20 := (seesE_parts HE.out).2.1
    obtain ⟨-, r0, r1, r2, r3, r4, r5⟩ := HX5.out
    go_wp2_with fail
    refine (one_any r _).mono ?_
    rintro e w4 ⟨rfl, hb4⟩
    have hB4 : Below w.heap.size w w4 := hB3.trans (hb4.mono hB3.size)
    have HX6 := Lib.hid (HX5.out.below hb4)
    have hT4 : w.heap.size + 1 < w4.heap.size := cell_lt HX6.out.2.1
    clear hb4 HX5 hB3 r0 r1 r2 r3 r4 r5
    by_cases hr : r.ok
    · rw [RuleL.err_ok hr]
      by_cases hn18 : n ≤ 18
      · have hlen : ¬ (20 : Int) < (n : Int) + 2 := by omega
        have HR := Lib.hid hr
        clear hr
        have HE1 := Lib.hid (seesE_join (q := fun _ => r) (k := 1) HE.out (by omega) fun _ _ => HR.out)
        obtain ⟨V1, hV1⟩ : ∃ V1, seesV m z (n + 1) (joinR n rs fun _ => r) x = V1 := ⟨_, rfl⟩
        have HV1 := Lib.hid hV1
        clear hV1
        have HClone : Hid (∀ w', Below w.heap.size w w' → w.heap.size + 1 < w'.heap.size → Calls Try.prog 21 #[.slice b n capb] w' (NewT (w.heap.size + 1) n rs w')) := fun w' h hT => cloneR_T (HS.out.below h) (by omega) hT
        have HSees1 : Hid (∀ w' B A c, Below w.heap.size w w' → OwnR B w' (.slice A (n + 1) c) (n + 1) (joinR n rs fun _ => r) → Calls Try.prog 9 #[.slice a m cap, .slice A (n + 1) c, x.v] w' fun e w'' => e = .returned (.tuple #[.int .i64 (V1 : Nat), .int .i64 0]) ∧ Below w'.heap.size w' w'') := fun w' B A c h ho => by
          have h1 := sees_any a m cap z A (n + 1) c _ x w' (HU.out.below h) HM.out ho.slr.1 (Nat.le_trans ho.slr.2.1 ho.slr.2.2)
          rw [HE1.out, HV1.out] at h1
          exact h1
        have HST := startXR HX6.out hB4 hT4
        have hn1000 : n + 1 ≤ 1000 := by omega
        have hwT : w.heap.size ≤ w.heap.size + 1 := by omega
        have hT0 : w.heap.size ≤ w.heap.size + 1 := by omega
        have hT1 : w.heap.size + 1 ≤ w.heap.size + 1 := by omega
        go_upto_region 10 with (fail)
        go_cut [17, 18] from 77 to 87 (fun s t wc => s = .int .i64 (V1 : Nat) ∧ t = .int .i64 0 ∧ Below w.heap.size w wc ∧ w.heap.size + 1 < wc.heap.size ∧ wc.cell? ⟨w.heap.size, 0, none⟩ = some (.int .i64 x.role) ∧ wc.cell? ⟨w.heap.size, 1, none⟩ = some (.int .i64 x.why) ∧ wc.cell? ⟨w.heap.size, 2, none⟩ = some (.int .i64 x.time) ∧ wc.cell? ⟨(w.heap.size + 1), 0, none⟩ = some (.int .i64 r.role) ∧ wc.cell? ⟨(w.heap.size + 1), 1, none⟩ = some (.int .i64 r.why) ∧ wc.cell? ⟨(w.heap.size + 1), 2, none⟩ = some (.int .i64 r.frm) ∧ wc.cell? ⟨(w.heap.size + 1), 3, none⟩ = some (.int .i64 r.til) ∧ wc.cell? ⟨(w.heap.size + 1), 4, none⟩ = some (.int .i64 r.cats) ∧ wc.cell? ⟨(w.heap.size + 1), 5, none⟩ = some (.bool r.allow))
        case first =>
          go_region_held3 (fun w' => Below w.heap.size w w' ∧ w.heap.size + 1 < w'.heap.size ∧ w'.cell? ⟨w.heap.size, 0, none⟩ = some (.int .i64 x.role) ∧ w'.cell? ⟨w.heap.size, 1, none⟩ = some (.int .i64 x.why) ∧ w'.cell? ⟨w.heap.size, 2, none⟩ = some (.int .i64 x.time) ∧ w'.cell? ⟨(w.heap.size + 1), 0, none⟩ = some (.int .i64 r.role) ∧ w'.cell? ⟨(w.heap.size + 1), 1, none⟩ = some (.int .i64 r.why) ∧ w'.cell? ⟨(w.heap.size + 1), 2, none⟩ = some (.int .i64 r.frm) ∧ w'.cell? ⟨(w.heap.size + 1), 3, none⟩ = some (.int .i64 r.til) ∧ w'.cell? ⟨(w.heap.size + 1), 4, none⟩ = some (.int .i64 r.cats) ∧ w'.cell? ⟨(w.heap.size + 1), 5, none⟩ = some (.bool r.allow)) (first | exact keepXR hT0 hT1 (by assumption) (by assumption) (by first | assumption | exact And.left (And.right (by assumption))) hwT | exact keepXR hT0 hT1 (by assumption) ((Below.refl _ _).alloc (Nat.le_refl _) _) (And.left (And.right (by assumption))) hwT | exact HST)
            (first
              | (go_at_call 21; refine (HClone.out _ (And.left (by assumption)) (And.left (And.right (by assumption)))).mono ?_; rintro e w' ⟨v, A, c, rfl, rfl, hown, hb, hTB⟩)
              | (go_at_call 9; refine (HSees1.out _ _ _ _ (And.left (by assumption)) (by assumption)).mono ?_; rintro e w' ⟨rfl, hb⟩)
              | (refine step_app _ rfl _ _ rfl _ (by rfl) (by first | assumption | exact OwnR.alloc (by assumption)) _ 1 _ _ (by rfl) (by first | exact slr_lit1 _ _ | exact slr_lit1d (by assumption) (by simp)) (by omega) hn1000 (by first | exact Below.size (by assumption) | exact le_alloc (by assumption)) ?_; intro A2 cap2 w2 hown2 hbA))
          all_goals
            go_wp2_with fail
            go_meet
          all_goals
            case rel => exact ⟨rfl, rfl, by assumption⟩
        case rest =>
          obtain ⟨rfl, rfl, hB5, hT5, x0, x1, x2, r0, r1, r2, r3, r4, r5⟩ := hcut
          clear HST HClone HSees1 hB4 hT4 HX6
          obtain ⟨tst, htst⟩ : ∃ tst : Bool, tst = (decide (x.time < r.frm) || decide (r.til ≤ x.time) || (decide (0 ≤ r.why) && decide (r.why ≠ x.why))) := ⟨_, rfl⟩
          have HTST := Lib.hid htst
          clear htst
          have HIDLE : Hid (tst = true → V1 = V) := fun h => by
            rw [← HV1.out, ← HV.out]
            refine seesV_idle HE.out (by omega) HR.out fun i => ?_
            rw [HTST.out] at h
            exact idle_rule h
          go_upto_region 13 with (fail)
          go_cut [113] from 90 to 112 (fun s wc' => s = .bool tst ∧ wc' = wc)
          case first =>
            by_cases t1 : x.time < r.frm
            · have HQ : Hid (tst = true) := by show _ = _; rw [HTST.out]; simp [t1]
              go_wp2_with fail
              go_meet
              case rel => exact ⟨by rw [HQ.out], rfl⟩
            · by_cases t2 : r.til ≤ x.time
              · have HQ : Hid (tst = true) := by show _ = _; rw [HTST.out]; simp [t2]
                go_wp2_with fail
                go_meet
                case rel => exact ⟨by rw [HQ.out], rfl⟩
              · by_cases t3 : 0 ≤ r.why
                · by_cases t4 : r.why = x.why
                  · have t5 : (r.why != x.why) = false := by simp [t4]
                    have HQ : Hid (tst = false) := by show _ = _; rw [HTST.out]; simp [t1, t2, t4]
                    clear t4
                    go_wp2_with fail
                    go_meet
                    case rel => exact ⟨by rw [HQ.out], rfl⟩
                  · have t5 : (r.why != x.why) = true := by simp [t4]
                    have HQ : Hid (tst = true) := by show _ = _; rw [HTST.out]; simp [t3, t4]
                    clear t4
                    go_wp2_with fail
                    go_meet
                    case rel => exact ⟨by rw [HQ.out], rfl⟩
                · have HQ : Hid (tst = false) := by show _ = _; rw [HTST.out]; simp [t1, t2, t3]
                  go_wp2_with fail
                  go_meet
                  case rel => exact ⟨by rw [HQ.out], rfl⟩
          case rest =>
            obtain ⟨rfl, rfl⟩ := hcut
            go_upto_if 113 with (fail)
            go_cut [] from 114 to 116 (fun wc' => wc' = wc)
            case first =>
              cases tst
              · go_wp2_with fail
                go_meet
                case rel => rfl
              · obtain rfl := HIDLE.out rfl
                go_wp2_with fail
                go_meet
                case rel => rfl
            case rest =>
              obtain rfl := hcut
              obtain ⟨b1, b2, b3⟩ : 0 ≤ r.frm ∧ r.til ≤ 1000 ∧ r.frm < r.til := ⟨HR.out.1.2.2.1, HR.out.1.2.2.2.1, HR.out.2⟩
              by_cases hs2 : r.til - r.frm < 2
              · go_wp2_with fail
                go_ret
                exact ⟨rfl, hB5⟩
              · have hT6 : w.heap.size < wc.heap.size := by omega
                have hT7 : w.heap.size ≤ wc.heap.size := by omega
                have hT8 : w.heap.size < wc.heap.size + 1 := by omega
                go_upto_region 18 with (fail)
                go_cut [19, 20] from 123 to 124 (fun s t wc' => TwoAt w x r r r s t wc')
                case first =>
                  go_region
                  all_goals
                    go_wp2_with fail
                    go_meet
                  all_goals
                    case rel =>
                      first
                      | exact twoAt_ab ⟨⟨x0, x1, x2⟩, r0, r1, r2, r3, r4, r5⟩ hB5 hT5
                      | exact twoAt_ba ⟨⟨x0, x1, x2⟩, r0, r1, r2, r3, r4, r5⟩ hB5 hT5
                case rest =>
                  obtain ⟨ga, gb, rfl, rfl, hTW⟩ := hcut
                  obtain ⟨mid, hmid, hm1, hm2⟩ : ∃ mid : Int, mid = r.frm + 1 + (wit c (r.til - r.frm - 1) : Nat) ∧ r.frm < mid ∧ mid < r.til := ⟨_, rfl, by omega, by have := wit_lt c (r.til - r.frm - 1) (by omega); omega⟩
                  have hwl := wit_lt c (r.til - r.frm - 1) (by omega)
                  obtain ⟨k, hk⟩ : ∃ k : Nat, wit c (r.til - r.frm - 1) = k := ⟨_, rfl⟩
                  rw [hk] at hmid hwl
                  have HMID := Lib.hid hmid; have HTW := Lib.hid hTW; have HK := Lib.hid hk
                  clear x0 x1 x2 r0 r1 r2 r3 r4 r5 hB5 hT5 hT6 hT7 hT8 hmid hTW hk HTST HIDLE
                  go_upto_region 19 with (fail)
                  go_cut [] from 125 to 137 (fun wc' => TwoIs w x r (r.set 3 mid) r ga gb wc')
                  case first =>
                    obtain ⟨⟨g1, g2, g3⟩, ⟨-, -, -, a3, -, -⟩, -, ⟨fa, -⟩, ⟨-, r0, r1, r2, r3, r4, r5⟩, -⟩ := HTW.out
                    have fa3 := fa 3
                    rw [Nat.zero_add] at a3 r1 r2 r3 r4 r5
                    have hne : ga ≠ w.heap.size + 1 := by omega
                    have e1 : IntKind.i64.wrap (r.frm + 1) = r.frm + 1 := IntWalk.i64_in _ (by omega)
                    have e2 : IntKind.i64.wrap (r.til - r.frm) = r.til - r.frm := IntWalk.i64_in _ (by omega)
                    have e3 : IntKind.i64.wrap (r.til - r.frm - 1) = r.til - r.frm - 1 := IntWalk.i64_in _ (by omega)
                    have e4 : IntKind.i64.wrap (r.frm + 1 + (k : Int)) = mid := by rw [HMID.out]; exact IntWalk.i64_in _ (by omega)
                    clear fa r0 r1 r4 r5
                    go_region_held3 (fun w' => w'.cell? ⟨w.heap.size + 1, 2, none⟩ = some (.int .i64 r.frm) ∧ w'.cell? ⟨w.heap.size + 1, 3, none⟩ = some (.int .i64 r.til)) (go_keep)
                      (first
                        | (go_at_call 19; refine (within_any c (r.til - r.frm - 1) _ (by omega) (by omega)).mono ?_; rintro e w' ⟨rfl, rfl⟩; rw [HK.out]))
                    all_goals
                      go_wp2_with fail
                      go_meet
                    all_goals
                      case rel => exact TwoIs.drew (HTW.out.putA 3 (.inr (.inl rfl)) mid)
                  case rest =>
                    obtain ⟨-, ⟨-, -, -, a3, -, -⟩, ⟨-, -, b2', -, -, -⟩, ⟨-, fb⟩, -, -⟩ := id hcut
                    have fb2 := fb 2
                    rw [Nat.zero_add] at a3 b2'
                    have HW3 := Lib.hid (hcut.putB 2 (.inl rfl) mid)
                    have a3' : wc.cell? ⟨ga, 3, none⟩ = some (.int .i64 mid) := a3
                    clear hcut fb HTW a3 HK HMID hwl
                    go_upto_region 20 with (fail)
                    go_wp2_with fail
                    clear a3' b2' fb2
                    obtain ⟨A, hA⟩ : ∃ A, r.set 3 mid = A := ⟨_, rfl⟩
                    obtain ⟨B, hB⟩ : ∃ B, r.set 2 mid = B := ⟨_, rfl⟩
                    have HSP : Hid (∀ i, (speaks m (nats z) x i A || speaks m (nats z) x i B) = speaks m (nats z) x i r) := fun i => by rw [← hA, ← hB]; exact split_rule hm1 hm2
                    have HAok : A.ok := by rw [← hA]; exact ⟨⟨HR.out.1.1, HR.out.1.2.1, HR.out.1.2.2.1, (by show mid ≤ 1000; omega), HR.out.1.2.2.2.2⟩, hm1⟩
                    have HBok : B.ok := by rw [← hB]; exact ⟨⟨HR.out.1.1, HR.out.1.2.1, (by show 0 ≤ mid; omega), HR.out.1.2.2.2.1, HR.out.1.2.2.2.2⟩, hm2⟩
                    have HAL : A.allow = r.allow := by rw [← hA]; rfl
                    have HBL : B.allow = r.allow := by rw [← hB]; rfl
                    have HV2 : Hid (seesV m z (n + 2) (joinR n rs (twoR A B)) x = V1) := by
                      show _ = V1
                      rw [← HV1.out]
                      exact seesV_two HE.out (by omega) HR.out HAok HBok (fun i _ => HSP.out i) HAL HBL
                    have HE2 := Lib.hid (seesE_join (q := twoR A B) (k := 2) HE.out (by omega) (twoR_ok HAok HBok))
                    have HW4 : Hid (TwoIs w x r A B ga gb (wc.setCell ⟨gb, 2, none⟩ (.int .i64 mid))) := by rw [← hA, ← hB]; exact HW3.out
                    clear HW3 hA hB HSP HAok HBok HAL HBL
                    obtain ⟨T, hT0, hT1, hT2, hTS⟩ := HW4.out.top
                    have hwT := hT0
                    have HST := startTwo HW4.out hTS
                    have HClone : Hid (∀ w', Below w.heap.size w w' → T < w'.heap.size → Calls Try.prog 21 #[.slice b n capb] w' (NewT T n rs w')) := fun w' h hT => cloneR_T (HS.out.below h) (by omega) hT
                    have HSees2 : Hid (∀ w' B' A' c, Below w.heap.size w w' → OwnR B' w' (.slice A' (n + 2) c) (n + 2) (joinR n rs (twoR A B)) → Calls Try.prog 9 #[.slice a m cap, .slice A' (n + 2) c, x.v] w' fun e w'' => e = .returned (.tuple #[.int .i64 (V1 : Nat), .int .i64 0]) ∧ Below w'.heap.size w' w'') := fun w' B' A' c h ho => by
                      have h1 := sees_any a m cap z A' (n + 2) c _ x w' (HU.out.below h) HM.out ho.slr.1 (Nat.le_trans ho.slr.2.1 ho.slr.2.2)
                      rw [HE2.out, HV2.out] at h1
                      exact h1
                    clear hn1000
                    have hn1000 : n + 2 ≤ 1000 := by omega
                    go_cut [21, 22] from 141 to 152 (fun s t wc => s = .int .i64 (V1 : Nat) ∧ t = .int .i64 0 ∧ Below w.heap.size w wc ∧ T < wc.heap.size ∧ wc.cell? ⟨w.heap.size, 0, none⟩ = some (.int .i64 x.role) ∧ wc.cell? ⟨w.heap.size, 1, none⟩ = some (.int .i64 x.why) ∧ wc.cell? ⟨w.heap.size, 2, none⟩ = some (.int .i64 x.time) ∧ wc.cell? ⟨ga, 0, none⟩ = some (.int .i64 A.role) ∧ wc.cell? ⟨ga, 1, none⟩ = some (.int .i64 A.why) ∧ wc.cell? ⟨ga, 2, none⟩ = some (.int .i64 A.frm) ∧ wc.cell? ⟨ga, 3, none⟩ = some (.int .i64 A.til) ∧ wc.cell? ⟨ga, 4, none⟩ = some (.int .i64 A.cats) ∧ wc.cell? ⟨ga, 5, none⟩ = some (.bool A.allow) ∧ wc.cell? ⟨gb, 0, none⟩ = some (.int .i64 B.role) ∧ wc.cell? ⟨gb, 1, none⟩ = some (.int .i64 B.why) ∧ wc.cell? ⟨gb, 2, none⟩ = some (.int .i64 B.frm) ∧ wc.cell? ⟨gb, 3, none⟩ = some (.int .i64 B.til) ∧ wc.cell? ⟨gb, 4, none⟩ = some (.int .i64 B.cats) ∧ wc.cell? ⟨gb, 5, none⟩ = some (.bool B.allow))
                    case first =>
                      go_region_held3 (fun w' => Below w.heap.size w w' ∧ T < w'.heap.size ∧ w'.cell? ⟨w.heap.size, 0, none⟩ = some (.int .i64 x.role) ∧ w'.cell? ⟨w.heap.size, 1, none⟩ = some (.int .i64 x.why) ∧ w'.cell? ⟨w.heap.size, 2, none⟩ = some (.int .i64 x.time) ∧ w'.cell? ⟨ga, 0, none⟩ = some (.int .i64 A.role) ∧ w'.cell? ⟨ga, 1, none⟩ = some (.int .i64 A.why) ∧ w'.cell? ⟨ga, 2, none⟩ = some (.int .i64 A.frm) ∧ w'.cell? ⟨ga, 3, none⟩ = some (.int .i64 A.til) ∧ w'.cell? ⟨ga, 4, none⟩ = some (.int .i64 A.cats) ∧ w'.cell? ⟨ga, 5, none⟩ = some (.bool A.allow) ∧ w'.cell? ⟨gb, 0, none⟩ = some (.int .i64 B.role) ∧ w'.cell? ⟨gb, 1, none⟩ = some (.int .i64 B.why) ∧ w'.cell? ⟨gb, 2, none⟩ = some (.int .i64 B.frm) ∧ w'.cell? ⟨gb, 3, none⟩ = some (.int .i64 B.til) ∧ w'.cell? ⟨gb, 4, none⟩ = some (.int .i64 B.cats) ∧ w'.cell? ⟨gb, 5, none⟩ = some (.bool B.allow)) (first | exact keepTwo hT0 hT1 hT2 (by assumption) (by assumption) (by first | assumption | exact And.left (And.right (by assumption))) hwT | exact keepTwo hT0 hT1 hT2 (by assumption) ((Below.refl _ _).alloc (Nat.le_refl _) _) (And.left (And.right (by assumption))) hwT | exact HST)
                        (first
                          | (go_at_call 21; refine (HClone.out _ (And.left (by assumption)) (And.left (And.right (by assumption)))).mono ?_; rintro e w' ⟨v, A, c, rfl, rfl, hown, hb, hTB⟩)
                          | (go_at_call 9; refine (HSees2.out _ _ _ _ (And.left (by assumption)) (by assumption)).mono ?_; rintro e w' ⟨rfl, hb⟩)
                          | (refine step_app _ rfl _ _ rfl _ (by rfl) (by first | assumption | exact OwnR.alloc (by assumption)) _ 2 _ _ (by rfl) (by first | exact slr_lit2 _ _ | exact slr_lit2d (by assumption) (by simp)) (by omega) hn1000 (by first | exact Below.size (by assumption) | exact le_alloc (by assumption)) ?_; intro A2 cap2 w2 hown2 hbA))
                      all_goals
                        go_wp2_with fail
                        go_meet
                      all_goals
                        case rel => exact ⟨rfl, rfl, by assumption⟩
                    case rest =>
                      obtain ⟨rfl, rfl, hB6, -⟩ := hcut
                      clear HST HClone HSees2
                      go_wp2_with fail
                      go_ret
                      exact ⟨rfl, hB6⟩
      · have hlen : (20 : Int) < (n : Int) + 2 := by omega
        clear HX6
        go_wp2_with fail
        go_ret
        exact ⟨rfl, hB4⟩
    · have hv := RuleL.err_ne hr
      obtain ⟨v, hv2⟩ : ∃ v, r.err = v := ⟨_, rfl⟩
      rw [hv2] at hv ⊢
      clear hv2 HX6 hr
      rcases hv with rfl | rfl
      all_goals
        go_wp2_with fail
        go_ret
        exact ⟨rfl, hB4⟩
  · obtain rfl := HV0.out h0
    clear HX5
    rcases hEc with rfl | rfl | rfl | rfl | rfl
    · exact absurd rfl h0
    all_goals
      clear h0
      go_wp2_with fail
      go_ret
      exact ⟨rfl, hB3⟩
end Go.Proofs.Ytpjmhajhmkfolaa
