/- The contracts of wyref.Roles, wyref.Sees and wyref.May, whatever is handed in. -/
import Derived.Test.YtpjmhajhmkfolaaRefMay
set_option linter.unusedVariables false
set_option linter.unusedSimpArgs false
namespace Go.Proofs.Ytpjmhajhmkfolaa
open Go.RowKit

theorem refRoles_any (a : Option Addr) (n cap : Nat) (z : Nat → Int) (w : World) (hs : Sl w a n z) (hm : n ≤ maxLen) :
    Calls Try.prog 28 #[.slice a n cap] w fun e w' => e = .returned (.int .i64 (rolesErr n z)) ∧ w = w' := by
  unfold rolesErr
  by_cases hn : 8 < n
  · rw [if_pos hn]
    exact roles_long a n cap w hn hm
  · rw [if_neg hn]
    rcases roles_split z n with h | ⟨j, h1, h2, h3⟩
    · rw [rolesN_ok h]
      exact roles_valid a n cap z w hs (by omega) h
    · rw [rolesN_bad h2 h3 h1]
      exact roles_bad a n cap z w hs (by omega) j h1 h2 h3

theorem refWho_any (x : WhoL) (w : World) :
    Calls Try.prog 18 #[x.v] w fun e w' => e = .returned (.bool (decide x.ok)) ∧ Below w.heap.size w w' := by
  by_cases h : x.ok
  · rw [decide_eq_true h]
    exact (refWho_yes x w h).mono fun _ _ ⟨h1, h2, _⟩ => ⟨h1, h2⟩
  · rw [decide_eq_false h]
    exact (refWho_no x w h).mono fun _ _ ⟨h1, h2, _⟩ => ⟨h1, h2⟩

theorem refSees_any (a : Option Addr) (m cap : Nat) (z : Nat → Int) (b : Option Addr) (n capb : Nat) (rs : Nat → RuleL) (x : WhoL) (w : World) (hu : Sl w a m z) (hm : m ≤ maxLen) (hs : SlR w b n rs) (hn : n ≤ maxLen) :
    Calls Try.prog 11 #[.slice a m cap, .slice b n capb, x.v] w fun e w' => e = .returned (.tuple #[.int .i64 (seesV m z n rs x : Nat), .int .i64 (seesE m z n rs x)]) ∧ Below w.heap.size w w' := by
  by_cases h1 : rolesErr m z = 0
  · have hv := slv_of hu h1
    by_cases h2 : rulesErr n rs = 0
    · have h2' := rulesErr_zero h2
      by_cases h3 : x.ok
      · by_cases h4 : x.role < (m : Int)
        · have h0 := seesE_ok (askE_ok h1 h2 h3) h4
          rw [seesV_ok h0, h0]
          exact refSees_ok a m cap _ b n capb rs x w hv hs h2'.1 h2'.2 h3 h4
        · have h0 := seesE_none (askE_ok h1 h2 h3) (show (m : Int) ≤ x.role by omega)
          rw [seesV_err (by rw [h0]; decide), h0]
          exact refSees_none a m cap _ b n capb rs x w hv hs h2' h3 (by omega)
      · have h0 := (seesE_ask (by rw [askE_who h1 h2 h3]; decide)).trans (askE_who h1 h2 h3)
        rw [seesV_err (by rw [h0]; decide), h0]
        exact refSees_who a m cap _ b n capb rs x w hv hs h2' h3
    · have h0 := (seesE_ask (by rw [askE_rules h1 h2]; exact h2)).trans (askE_rules (x := x) h1 h2)
      rw [seesV_err (by rw [h0]; exact h2), h0]
      exact refSees_rules a m cap _ b n capb rs x w hv hs hn h2
  · have h0 := (seesE_ask (by rw [askE_roles h1]; exact h1)).trans (askE_roles (n := n) (rs := rs) (x := x) h1)
    rw [seesV_err (by rw [h0]; exact h1), h0]
    refine refSees_roles a m cap b n capb x w _ ?_ fun w' hb => refRoles_any a m cap z w' (hu.below hb) hm
    rcases rolesErr_cases m z with h | h
    · exact absurd h h1
    · exact h

theorem refMay_any (a : Option Addr) (m cap : Nat) (z : Nat → Int) (b : Option Addr) (n capb : Nat) (rs : Nat → RuleL) (x : WhoL) (cats : Int) (w : World) (hu : Sl w a m z) (hm : m ≤ maxLen) (hs : SlR w b n rs) (hn : n ≤ maxLen) :
    Calls Try.prog 12 #[.slice a m cap, .slice b n capb, x.v, .int .i64 cats] w fun e w' => e = .returned (.tuple #[.bool (mayV m z n rs x cats), .int .i64 (mayE m z n rs x cats)]) ∧ Below w.heap.size w w' := by
  have hI : SeesIs a m cap b n capb x (seesV m z n rs x) (seesE m z n rs x) w := ⟨seesV_lt, seesV_err, fun w' hb => refSees_any a m cap z b n capb rs x w' (hu.below hb) hm (hs.below hb) hn⟩
  unfold mayV mayE
  by_cases h0 : seesE m z n rs x = 0
  · rw [if_neg (by simp [h0])]
    rw [h0] at hI
    by_cases hc : 0 ≤ cats ∧ cats ≤ 255
    · rw [if_pos hc, decide_eq_true (rfl : (0 : Int) = 0), Bool.true_and]
      exact refMay_ok a m cap b n capb x _ cats w hI hc
    · rw [if_neg hc, decide_eq_false (show ¬ (1 : Int) = 0 by decide), Bool.false_and]
      exact refMay_cats a m cap b n capb x _ cats w hI hc
  · rw [if_pos h0, decide_eq_false h0, Bool.false_and]
    refine refMay_err a m cap b n capb x _ cats w ?_ (by rw [seesV_err h0] at hI; exact hI)
    have := seesE_cases (m := m) (z := z) (n := n) (rs := rs) (x := x)
    omega
end Go.Proofs.Ytpjmhajhmkfolaa
