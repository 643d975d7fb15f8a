/- The walk of RuleSays. -/
import Derived.Test.YtpjmhajhmkfolaaSeesLit
import Derived.Test.YtpjmhajhmkfolaaRefAny
import Derived.Deep.RegionHeld3
import Derived.Deep.DrawnRows
set_option linter.unusedVariables false
set_option linter.unusedSimpArgs false
namespace Go.Proofs.Ytpjmhajhmkfolaa
open Go.RowKit
attribute [local go_sem ↓] Go.wp_at_zero Go.wp_at_succ

/-- the two structs that RuleSays was handed -/
def XR (w : World) (B : Nat) (x : WhoL) (r : RuleL) : Prop := WhoAt w B x ∧ RuleAt w (B + 1) 0 r
theorem XR.below {w w' : World} {B : Nat} {x : WhoL} {r : RuleL} (h : XR w B x r) (hb : Below w.heap.size w w') : XR w' B x r := ⟨h.1.below hb, h.2.below hb⟩

/- all that the last statement reads -/
theorem says_all {w w' : World} {x : WhoL} {r : RuleL} (h : XR w' w.heap.size x r) (hB : Below w.heap.size w w') : (Below w.heap.size w w' ∧ w.heap.size + 1 < w'.heap.size ∧ w'.cell? ⟨w.heap.size, 0, none⟩ = some (.int .i64 x.role) ∧ w'.cell? ⟨w.heap.size, 1, none⟩ = some (.int .i64 x.why) ∧ w'.cell? ⟨w.heap.size, 2, none⟩ = some (.int .i64 x.time) ∧ w'.cell? ⟨w.heap.size + 1, 0, none⟩ = some (.int .i64 r.role) ∧ w'.cell? ⟨w.heap.size + 1, 1, none⟩ = some (.int .i64 r.why) ∧ w'.cell? ⟨w.heap.size + 1, 2, none⟩ = some (.int .i64 r.frm) ∧ w'.cell? ⟨w.heap.size + 1, 3, none⟩ = some (.int .i64 r.til) ∧ w'.cell? ⟨w.heap.size + 1, 4, none⟩ = some (.int .i64 r.cats) ∧ w'.cell? ⟨w.heap.size + 1, 5, none⟩ = some (.bool r.allow)) :=
  ⟨hB, cell_lt h.2.1, h.1.c0, h.1.c1, h.1.c2, h.2.1, h.2.2.1, h.2.2.2.1, h.2.2.2.2.1, h.2.2.2.2.2.1, h.2.2.2.2.2.2⟩
theorem says_keep {w w1 w' : World} {x : WhoL} {r : RuleL} (h : (Below w.heap.size w w1 ∧ w.heap.size + 1 < w1.heap.size ∧ w1.cell? ⟨w.heap.size, 0, none⟩ = some (.int .i64 x.role) ∧ w1.cell? ⟨w.heap.size, 1, none⟩ = some (.int .i64 x.why) ∧ w1.cell? ⟨w.heap.size, 2, none⟩ = some (.int .i64 x.time) ∧ w1.cell? ⟨w.heap.size + 1, 0, none⟩ = some (.int .i64 r.role) ∧ w1.cell? ⟨w.heap.size + 1, 1, none⟩ = some (.int .i64 r.why) ∧ w1.cell? ⟨w.heap.size + 1, 2, none⟩ = some (.int .i64 r.frm) ∧ w1.cell? ⟨w.heap.size + 1, 3, none⟩ = some (.int .i64 r.til) ∧ w1.cell? ⟨w.heap.size + 1, 4, none⟩ = some (.int .i64 r.cats) ∧ w1.cell? ⟨w.heap.size + 1, 5, none⟩ = some (.bool r.allow))) (hb : Below w1.heap.size w1 w') : (Below w.heap.size w w' ∧ w.heap.size + 1 < w'.heap.size ∧ w'.cell? ⟨w.heap.size, 0, none⟩ = some (.int .i64 x.role) ∧ w'.cell? ⟨w.heap.size, 1, none⟩ = some (.int .i64 x.why) ∧ w'.cell? ⟨w.heap.size, 2, none⟩ = some (.int .i64 x.time) ∧ w'.cell? ⟨w.heap.size + 1, 0, none⟩ = some (.int .i64 r.role) ∧ w'.cell? ⟨w.heap.size + 1, 1, none⟩ = some (.int .i64 r.why) ∧ w'.cell? ⟨w.heap.size + 1, 2, none⟩ = some (.int .i64 r.frm) ∧ w'.cell? ⟨w.heap.size + 1, 3, none⟩ = some (.int .i64 r.til) ∧ w'.cell? ⟨w.heap.size + 1, 4, none⟩ = some (.int .i64 r.cats) ∧ w'.cell? ⟨w.heap.size + 1, 5, none⟩ = some (.bool r.allow)) := by
  obtain ⟨h1, _, h2, h3, h4, h5, h6, h7, h8, h9, h10⟩ := h
  exact says_all ((XR.below (x := x) (r := r) ⟨⟨h2, h3, h4⟩, ⟨h5, h6, h7, h8, h9, h10⟩⟩ hb)) (h1.trans (hb.mono h1.size))

theorem says_drew {w w' : World} {x : WhoL} {r : RuleL} (h : XR w' w.heap.size x r) (hB : Below w.heap.size w w') : (Below w.heap.size w w'.drew ∧ w.heap.size + 1 < w'.drew.heap.size ∧ w'.drew.cell? ⟨w.heap.size, 0, none⟩ = some (.int .i64 x.role) ∧ w'.drew.cell? ⟨w.heap.size, 1, none⟩ = some (.int .i64 x.why) ∧ w'.drew.cell? ⟨w.heap.size, 2, none⟩ = some (.int .i64 x.time) ∧ w'.drew.cell? ⟨w.heap.size + 1, 0, none⟩ = some (.int .i64 r.role) ∧ w'.drew.cell? ⟨w.heap.size + 1, 1, none⟩ = some (.int .i64 r.why) ∧ w'.drew.cell? ⟨w.heap.size + 1, 2, none⟩ = some (.int .i64 r.frm) ∧ w'.drew.cell? ⟨w.heap.size + 1, 3, none⟩ = some (.int .i64 r.til) ∧ w'.drew.cell? ⟨w.heap.size + 1, 4, none⟩ = some (.int .i64 r.cats) ∧ w'.drew.cell? ⟨w.heap.size + 1, 5, none⟩ = some (.bool r.allow)) :=
  says_all (w' := w'.drew) ⟨⟨h.1.c0, h.1.c1, h.1.c2⟩, h.2⟩ ⟨hB.os, hB.tape, hB.output, hB.size, hB.block⟩

set_option maxRecDepth 100000 in
set_option maxHeartbeats 2000000 in
theorem ruleSays_walk (a : Option Addr) (m cap : Nat) (z : Nat → Int) (b : Option Addr) (n capb : Nat) (rs : Nat → RuleL) (x : WhoL) (r : RuleL) (cats : Int) (w : World) (hu : Sl w a m z) (hm : m ≤ maxLen) (hs : SlR w b n rs) (hn : n ≤ maxLen) :
    Calls Try.prog 3 #[.slice a m cap, .slice b n capb, x.v, r.v, .int .i64 cats] w fun e w' => e = .returned (.bool true) ∧ Below w.heap.size w w' := by
  have HSees : Hid (∀ w', Below w.heap.size w w' → Calls Try.prog 9 #[.slice a m cap, .slice b n capb, x.v] w' fun e w'' => e = .returned (.tuple #[.int .i64 (seesV m z n rs x : Nat), .int .i64 (seesE m z n rs x)]) ∧ Below w'.heap.size w' w'') := fun w' h => sees_any a m cap z b n capb rs x w' (hu.below h) hm (hs.below h) hn
  have HMay : Hid (∀ w', Below w.heap.size w w' → Calls Try.prog 10 #[.slice a m cap, .slice b n capb, x.v, .int .i64 cats] w' fun e w'' => e = .returned (.tuple #[.bool (mayV m z n rs x cats), .int .i64 (mayE m z n rs x cats)]) ∧ Below w'.heap.size w' w'') := fun w' h => may_any a m cap z b n capb rs x cats w' (hu.below h) hm (hs.below h) hn
  have HRS : Hid (∀ w', Below w.heap.size w w' → Calls Try.prog 11 #[.slice a m cap, .slice b n capb, x.v] w' fun e w'' => e = .returned (.tuple #[.int .i64 (seesV m z n rs x : Nat), .int .i64 (seesE m z n rs x)]) ∧ Below w'.heap.size w' w'') := fun w' h => refSees_any a m cap z b n capb rs x w' (hu.below h) hm (hs.below h) hn
  have HRM : Hid (∀ w', Below w.heap.size w w' → Calls Try.prog 12 #[.slice a m cap, .slice b n capb, x.v, .int .i64 cats] w' fun e w'' => e = .returned (.tuple #[.bool (mayV m z n rs x cats), .int .i64 (mayE m z n rs x cats)]) ∧ Below w'.heap.size w' w'') := fun w' h => refMay_any a m cap z b n capb rs x cats w' (hu.below h) hm (hs.below h) hn
  have HC : Hid (∀ w', Below w.heap.size w w' → Calls Try.prog 15 #[.slice b n capb] w' fun e w'' => e = .returned (.int .i64 (rulesErr n rs)) ∧ Below w'.heap.size w' w'') := fun w' h => rules_any b n capb rs w' (hs.below h) hn
  have HCR : Hid (∀ w', Below w.heap.size w w' → Calls Try.prog 16 #[.slice b n capb] w' fun e w'' => e = .returned (.int .i64 (rulesErr n rs)) ∧ Below w'.heap.size w' w'') := fun w' h => refRules_any b n capb rs w' (hs.below h) hn
  clear hu hs hm hn
  have hA : Below w.heap.size w ((w.alloc (.cells #[.int .i64 x.role, .int .i64 x.why, .int .i64 x.time] 25)).alloc (.cells #[.int .i64 r.role, .int .i64 r.why, .int .i64 r.frm, .int .i64 r.til, .int .i64 r.cats, .bool r.allow] 27)) := ((Below.refl _ _).alloc (Nat.le_refl _) _).alloc (by simp) _
  have HX : Hid (XR ((w.alloc (.cells #[.int .i64 x.role, .int .i64 x.why, .int .i64 x.time] 25)).alloc (.cells #[.int .i64 r.role, .int .i64 r.why, .int .i64 r.frm, .int .i64 r.til, .int .i64 r.cats, .bool r.allow] 27)) w.heap.size x r) := ⟨⟨by simp, by simp, by simp⟩, ⟨by simp, by simp, by simp, by simp, by simp, by simp⟩⟩
  obtain ⟨V, hV⟩ : ∃ V, seesV m z n rs x = V := ⟨_, rfl⟩
  obtain ⟨E, hE⟩ : ∃ E, seesE m z n rs x = E := ⟨_, rfl⟩
  obtain ⟨MV, hMV⟩ : ∃ V, mayV m z n rs x cats = V := ⟨_, rfl⟩
  obtain ⟨ME, hME⟩ : ∃ E, mayE m z n rs x cats = E := ⟨_, rfl⟩
  rw [hV, hE] at HSees HRS
  rw [hMV, hME] at HMay HRM
  clear hV hE hMV hME
  go_enter Try.func3, Try.ntmps3
  go_wp2_with fail
  refine (HSees.out _ hA).mono ?_
  rintro e w1 ⟨rfl, hb1⟩
  have hB1 : Below w.heap.size w w1 := hA.trans (hb1.mono hA.size)
  have HX1 := Lib.hid (HX.out.below hb1)
  obtain ⟨⟨x0, x1, x2⟩, -⟩ := HX1.out
  clear hb1
  go_wp2_with fail
  clear x0 x1 x2
  refine (HMay.out _ hB1).mono ?_
  rintro e w2 ⟨rfl, hb2⟩
  have hB2 : Below w.heap.size w w2 := hB1.trans (hb2.mono hB1.size)
  have HX2 := Lib.hid (HX1.out.below hb2)
  obtain ⟨⟨x0, x1, x2⟩, -⟩ := HX2.out
  clear hb2
  go_wp2_with fail
  clear x0 x1 x2
  refine (HRS.out _ hB2).mono ?_
  rintro e w3 ⟨rfl, hb3⟩
  have hB3 : Below w.heap.size w w3 := hB2.trans (hb3.mono hB2.size)
  have HX3 := Lib.hid (HX2.out.below hb3)
  obtain ⟨⟨x0, x1, x2⟩, -⟩ := HX3.out
  clear hb3
  go_wp2_with fail
  clear x0 x1 x2
  refine (HRM.out _ hB3).mono ?_
  rintro e w4 ⟨rfl, hb4⟩
  have hB4 : Below w.heap.size w w4 := hB3.trans (hb4.mono hB3.size)
  have HX4 := Lib.hid (HX3.out.below hb4)
  obtain ⟨⟨x0, x1, x2⟩, -⟩ := HX4.out
  clear hb4
  go_wp2_with fail
  have HL := Lib.hid (sees_lit w4.heap.size (w4.heap.size + 1) 1 5 (fun _ => ⟨-1, -1, 0, 9, 5, true⟩) ⟨0, 0, 0⟩ ((w4.alloc (.cells #[.int .i64 0] 3)).alloc (.cells #[.int .i64 (-1), .int .i64 (-1), .int .i64 0, .int .i64 9, .int .i64 5, .bool true] 27)) (by simp) (slr_one ⟨by simp, by simp, by simp, by simp, by simp, by simp⟩) (by decide) (by decide +kernel) (by decide +kernel))
  refine HL.out.mono ?_
  rintro e w5 ⟨rfl, hb5⟩
  have hA5 : Below w4.heap.size w4 ((w4.alloc (.cells #[.int .i64 0] 3)).alloc (.cells #[.int .i64 (-1), .int .i64 (-1), .int .i64 0, .int .i64 9, .int .i64 5, .bool true] 27)) := ((Below.refl _ _).alloc (Nat.le_refl _) _).alloc (by simp) _
  have hA6 := hA5.trans (hb5.mono hA5.size)
  have hB5 : Below w.heap.size w w5 := hB4.trans (hA6.mono hB4.size)
  have HX5 := Lib.hid (HX4.out.below hA6)
  clear hb5 hA5 hA6 HL hA x0 x1 x2
  obtain ⟨R, hR⟩ : ∃ R, rulesErr n rs = R := ⟨_, rfl⟩
  rw [hR] at HC HCR
  clear hR
  go_wp2_with fail
  have HST := says_drew HX5.out hB5
  go_region_held3 (fun w' => (Below w.heap.size w w' ∧ w.heap.size + 1 < w'.heap.size ∧ w'.cell? ⟨w.heap.size, 0, none⟩ = some (.int .i64 x.role) ∧ w'.cell? ⟨w.heap.size, 1, none⟩ = some (.int .i64 x.why) ∧ w'.cell? ⟨w.heap.size, 2, none⟩ = some (.int .i64 x.time) ∧ w'.cell? ⟨w.heap.size + 1, 0, none⟩ = some (.int .i64 r.role) ∧ w'.cell? ⟨w.heap.size + 1, 1, none⟩ = some (.int .i64 r.why) ∧ w'.cell? ⟨w.heap.size + 1, 2, none⟩ = some (.int .i64 r.frm) ∧ w'.cell? ⟨w.heap.size + 1, 3, none⟩ = some (.int .i64 r.til) ∧ w'.cell? ⟨w.heap.size + 1, 4, none⟩ = some (.int .i64 r.cats) ∧ w'.cell? ⟨w.heap.size + 1, 5, none⟩ = some (.bool r.allow))) (first | exact says_keep (by assumption) (by assumption) | exact HST)
    (first
      | (go_at_call 13; refine (one_any r _).mono ?_; rintro e w' ⟨rfl, hb⟩)
      | (go_at_call 14; refine (refRule_any r _).mono ?_; rintro e w' ⟨rfl, hb, -⟩)
      | (go_at_call 15; refine (HC.out _ (And.left (by assumption))).mono ?_; rintro e w' ⟨rfl, hb⟩)
      | (go_at_call 16; refine (HCR.out _ (And.left (by assumption))).mono ?_; rintro e w' ⟨rfl, hb⟩)
      | (go_at_call 17; refine (who_any x _).mono ?_; rintro e w' ⟨rfl, hb⟩)
      | (go_at_call 18; refine (refWho_any x _).mono ?_; rintro e w' ⟨rfl, hb⟩))
  all_goals
    go_wp2_with fail
    go_ret
    exact ⟨rfl, And.left (by assumption)⟩
end Go.Proofs.Ytpjmhajhmkfolaa
