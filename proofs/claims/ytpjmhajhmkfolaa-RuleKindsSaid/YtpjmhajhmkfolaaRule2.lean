/- Contracts of role.Check and of rule.checkAsked, isFor, Sees and May, whatever is handed in. -/
import Derived.Test.YtpjmhajhmkfolaaRole
import Derived.Test.YtpjmhajhmkfolaaRule1
import Derived.Test.YtpjmhajhmkfolaaRuleMath
set_option linter.unusedVariables false
set_option linter.unusedSimpArgs false
namespace Go.Proofs.Ytpjmhajhmkfolaa
open Go.RowKit

theorem role_any (a : Option Addr) (n cap : Nat) (z : Nat → Int) (w : World) (hs : Sl w a n z) (hm : n ≤ maxLen) :
    Calls Try.prog 38 #[.slice a n cap] w fun e w' => e = .returned (.int .i64 (rolesErr n z)) ∧ w = w' := by
  unfold rolesErr
  by_cases hn : 8 < n
  · rw [if_pos hn]
    exact check_long a n cap w hn hm
  · rw [if_neg hn]
    rcases roles_split z n with h | ⟨j, h1, h2, h3⟩
    · rw [rolesN_ok h]
      exact check_valid a n cap z w hs (by omega) h
    · rw [rolesN_bad h2 h3 h1]
      exact check_bad1 a n cap z w hs (by omega) j h1 h2 h3

set_option maxHeartbeats 1000000 in
theorem ask_any (a : Option Addr) (m cap : Nat) (z : Nat → Int) (b : Option Addr) (n capb : Nat) (rs : Nat → RuleL) (x : WhoL) (w : World) (hu : Sl w a m z) (hm : m ≤ maxLen) (hs : SlR w b n rs) (hn : n ≤ maxLen) :
    Calls Try.prog 24 #[.slice a m cap, .slice b n capb, x.v] w fun e w' => e = .returned (.int .i64 (askE m z n rs x)) ∧ Below w.heap.size w w' := by
  have hA : Below w.heap.size w (w.alloc (.cells #[.int .i64 x.role, .int .i64 x.why, .int .i64 x.time] 25)) := (Below.refl _ _).alloc (Nat.le_refl _) _
  have HU := Lib.hid (hu.below hA); have HS := Lib.hid (hs.below hA); have HM := Lib.hid hm; have HN := Lib.hid hn
  clear hu hs hm hn
  by_cases h1 : rolesErr m z = 0
  · by_cases h2 : rulesErr n rs = 0
    · have H1 := Lib.hid h1; have H2 := Lib.hid h2
      obtain ⟨ok, hok⟩ : ∃ ok, decide x.ok = ok := ⟨_, rfl⟩
      have HOK := Lib.hid hok
      have hE : Hid (askE m z n rs x = if ok then 0 else 1) := by
        show askE m z n rs x = _
        cases ok
        · exact askE_who h1 h2 (by simpa using hok)
        · exact askE_ok h1 h2 (by simpa using hok)
      clear h1 h2 hok
      cases ok
      all_goals
        go_enter Try.func24, Try.ntmps24
        go_wp2_with fail
        refine (role_any a m cap z _ HU.out HM.out).mono ?_
        rintro e w' ⟨rfl, rfl⟩
        rw [H1.out]
        go_wp2_with fail
        refine (rules_any b n capb rs _ HS.out HN.out).mono ?_
        rintro e w1 ⟨rfl, hb1⟩
        rw [H2.out]
        have hB1 : Below w.heap.size w w1 := hA.trans (hb1.mono (by simp))
        have x0 : w1.cell? ⟨w.heap.size, 0, none⟩ = some (.int .i64 x.role) := by rw [hb1.cell (by simp)]; simp
        have x1 : w1.cell? ⟨w.heap.size, 1, none⟩ = some (.int .i64 x.why) := by rw [hb1.cell (by simp)]; simp
        have x2 : w1.cell? ⟨w.heap.size, 2, none⟩ = some (.int .i64 x.time) := by rw [hb1.cell (by simp)]; simp
        clear hb1
        go_wp2_with fail
        refine (who_any x _).mono ?_
        rintro e w2 ⟨rfl, hb2⟩
        rw [HOK.out]
        go_wp2_with fail
        go_ret
        exact ⟨ret_int (by rw [hE.out]; rfl), hB1.trans (hb2.mono hB1.size)⟩
    · have hE := Lib.hid (askE_rules (x := x) h1 h2)
      have H1 := Lib.hid h1
      obtain ⟨v, hv⟩ : ∃ v, rulesErr n rs = v := ⟨_, rfl⟩
      have hcs : v = 1 ∨ v = 2 ∨ v = 3 := by have := rulesErr_cases n rs; omega
      have HV := Lib.hid hv
      clear h1 h2 hv
      rcases hcs with rfl | rfl | rfl
      all_goals
        go_enter Try.func24, Try.ntmps24
        go_wp2_with fail
        refine (role_any a m cap z _ HU.out HM.out).mono ?_
        rintro e w' ⟨rfl, rfl⟩
        rw [H1.out]
        go_wp2_with fail
        refine (rules_any b n capb rs _ HS.out HN.out).mono ?_
        rintro e w1 ⟨rfl, hb1⟩
        rw [HV.out]
        have hB1 : Below w.heap.size w w1 := hA.trans (hb1.mono (by simp))
        clear hb1
        go_wp2_with fail
        go_ret
        exact ⟨ret_int (by rw [hE.out, HV.out]), hB1⟩
  · have hE := Lib.hid (askE_roles (n := n) (rs := rs) (x := x) h1)
    obtain ⟨v, hv⟩ : ∃ v, rolesErr m z = v := ⟨_, rfl⟩
    have hcs : v = 1 ∨ v = 2 := by have := rolesErr_cases m z; omega
    have HV := Lib.hid hv
    clear h1 hv
    rcases hcs with rfl | rfl
    all_goals
      go_enter Try.func24, Try.ntmps24
      go_wp2_with fail
      refine (role_any a m cap z _ HU.out HM.out).mono ?_
      rintro e w' ⟨rfl, rfl⟩
      rw [HV.out]
      go_wp2_with fail
      go_ret
      exact ⟨ret_int (by rw [hE.out, HV.out]), hA⟩
end Go.Proofs.Ytpjmhajhmkfolaa
