/- Contracts of wyref.Who and wyref.Rules. -/
import Derived.Test.YtpjmhajhmkfolaaRefRules
set_option linter.unusedVariables false
set_option linter.unusedSimpArgs false
namespace Go.Proofs.Ytpjmhajhmkfolaa
open Go.RowKit

set_option maxHeartbeats 400000 in
theorem refWho_yes (x : WhoL) (w : World) (h : x.ok) :
    Calls Try.prog 18 #[x.v] w fun e w' => e = .returned (.bool true) ∧ Below w.heap.size w w' ∧ w'.heap.size = w.heap.size + 1 := by
  have H := Lib.hid h
  clear h
  go_enter Try.func18, Try.ntmps18
  go_wp2_with fail
  refine (within_yes x.role 0 7 _ H.out.1.1 H.out.1.2).mono ?_
  rintro e w' ⟨rfl, rfl⟩
  go_wp2_with fail
  refine (within_yes x.why 0 3 _ H.out.2.1.1 H.out.2.1.2).mono ?_
  rintro e w' ⟨rfl, rfl⟩
  go_wp2_with fail
  refine (within_yes x.time 0 999 _ H.out.2.2.1 H.out.2.2.2).mono ?_
  rintro e w' ⟨rfl, rfl⟩
  go_wp2_with fail
  go_ret
  exact ⟨rfl, by go_grown, by simp⟩

set_option maxHeartbeats 400000 in
theorem refWho_no (x : WhoL) (w : World) (h : ¬ x.ok) :
    Calls Try.prog 18 #[x.v] w fun e w' => e = .returned (.bool false) ∧ Below w.heap.size w w' ∧ w'.heap.size = w.heap.size + 1 := by
  by_cases hr : 0 ≤ x.role ∧ x.role ≤ 7
  · by_cases hy : 0 ≤ x.why ∧ x.why ≤ 3
    · have ht : ¬ (0 ≤ x.time ∧ x.time ≤ 999) := fun ht => h ⟨hr, hy, ht⟩
      have HR := Lib.hid hr; have HY := Lib.hid hy; have HT := Lib.hid ht
      clear hr hy ht h
      go_enter Try.func18, Try.ntmps18
      go_wp2_with fail
      refine (within_yes x.role 0 7 _ HR.out.1 HR.out.2).mono ?_
      rintro e w' ⟨rfl, rfl⟩
      go_wp2_with fail
      refine (within_yes x.why 0 3 _ HY.out.1 HY.out.2).mono ?_
      rintro e w' ⟨rfl, rfl⟩
      go_wp2_with fail
      refine (within_no x.time 0 999 _ HT.out).mono ?_
      rintro e w' ⟨rfl, rfl⟩
      go_wp2_with fail
      go_ret
      exact ⟨rfl, by go_grown, by simp⟩
    · have HR := Lib.hid hr; have HY := Lib.hid hy
      clear hr hy h
      go_enter Try.func18, Try.ntmps18
      go_wp2_with fail
      refine (within_yes x.role 0 7 _ HR.out.1 HR.out.2).mono ?_
      rintro e w' ⟨rfl, rfl⟩
      go_wp2_with fail
      refine (within_no x.why 0 3 _ HY.out).mono ?_
      rintro e w' ⟨rfl, rfl⟩
      go_wp2_with fail
      go_ret
      exact ⟨rfl, by go_grown, by simp⟩
  · have HR := Lib.hid hr
    clear hr h
    go_enter Try.func18, Try.ntmps18
    go_wp2_with fail
    refine (within_no x.role 0 7 _ HR.out).mono ?_
    rintro e w' ⟨rfl, rfl⟩
    go_wp2_with fail
    go_ret
    exact ⟨rfl, by go_grown, by simp⟩

set_option maxRecDepth 100000 in
set_option maxHeartbeats 1000000 in
theorem refRules_ok (a : Option Addr) (n cap : Nat) (rs : Nat → RuleL) (w : World) (hs : SlR w a n rs) (hn : n ≤ 20) (hok : ∀ k, k < n → (rs k).ok) :
    Calls Try.prog 16 #[.slice a n cap] w fun e w' => e = .returned (.int .i64 0) ∧ Below w.heap.size w w' := by
  have hn' : ¬ (20 : Int) < n := by omega
  have HS := Lib.hid hs; have HOK := Lib.hid hok
  clear hs hok
  go_enter Try.func16, Try.ntmps16
  go_wp2_with fail
  go_loopw [11] (fun s wr => ∃ k : Nat, k ≤ n ∧ s = .int .i64 k ∧ Below w.heap.size w wr) (fun s _ => n - (intOf s).toNat)
  case atStart => exact ⟨0, Nat.zero_le _, rfl, Below.refl _ _⟩
  case round =>
    obtain ⟨k, hk, rfl, hB⟩ := hrel
    by_cases hlt : k < n
    · obtain ⟨b, off, rfl, hc⟩ := (HS.out.below hB) k hlt
      have hblt := cell_lt hc.1
      obtain ⟨c0, c1, c2, c3, c4, c5⟩ := hc
      have he := RuleL.err_ok (HOK.out k hlt)
      go_wp2_with fail
      refine (refRule_any (rs k) _).mono ?_
      rintro e w1 ⟨rfl, hb1, -⟩
      have hB1 : Below w.heap.size w w1 := (hB.alloc hB.size _).trans (hb1.mono (by have := hB.size; simp; omega))
      clear c0 c1 c2 c3 c4 c5 hb1
      go_wp2_with fail
      go_roundw
      case rel => exact ⟨k + 1, by omega, by go_num, hB1⟩
      case measure => simp [intOf]; omega
    · go_wp2_with fail
      go_ret
      exact ⟨rfl, hB⟩

set_option maxRecDepth 100000 in
set_option maxHeartbeats 1000000 in
theorem refRules_bad (a : Option Addr) (n cap : Nat) (rs : Nat → RuleL) (w : World) (hs : SlR w a n rs) (hn : n ≤ 20) (j : Nat) (hj : j < n) (hok : ∀ k, k < j → (rs k).ok) (hbad : ¬ (rs j).ok) :
    Calls Try.prog 16 #[.slice a n cap] w fun e w' => e = .returned (.int .i64 (rs j).err) ∧ Below w.heap.size w w' := by
  have hn' : ¬ (20 : Int) < n := by omega
  have HS := Lib.hid hs; have HOK := Lib.hid hok; have HBAD := Lib.hid hbad
  clear hs hok hbad
  go_enter Try.func16, Try.ntmps16
  go_wp2_with fail
  go_loopw [11] (fun s wr => ∃ k : Nat, k ≤ j ∧ s = .int .i64 k ∧ Below w.heap.size w wr) (fun s _ => n - (intOf s).toNat)
  case atStart => exact ⟨0, Nat.zero_le _, rfl, Below.refl _ _⟩
  case round =>
    obtain ⟨k, hk, rfl, hB⟩ := hrel
    have hlt : k < n := by omega
    obtain ⟨b, off, rfl, hc⟩ := (HS.out.below hB) k hlt
    have hblt := cell_lt hc.1
    obtain ⟨c0, c1, c2, c3, c4, c5⟩ := hc
    by_cases hkj : k < j
    · have he := RuleL.err_ok (HOK.out k hkj)
      go_wp2_with fail
      refine (refRule_any (rs k) _).mono ?_
      rintro e w1 ⟨rfl, hb1, -⟩
      have hB1 : Below w.heap.size w w1 := (hB.alloc hB.size _).trans (hb1.mono (by have := hB.size; simp; omega))
      clear c0 c1 c2 c3 c4 c5 hb1
      go_wp2_with fail
      go_roundw
      case rel => exact ⟨k + 1, by omega, by go_num, hB1⟩
      case measure => simp [intOf]; omega
    · obtain rfl : k = j := by omega
      obtain ⟨v, hv⟩ : ∃ v, (rs k).err = v := ⟨_, rfl⟩
      have hv2 : v = 1 ∨ v = 3 := by rw [← hv]; exact RuleL.err_ne HBAD.out
      go_wp2_with fail
      refine (refRule_any (rs k) _).mono ?_
      rintro e w1 ⟨rfl, hb1, -⟩
      have hB1 : Below w.heap.size w w1 := (hB.alloc hB.size _).trans (hb1.mono (by have := hB.size; simp; omega))
      clear c0 c1 c2 c3 c4 c5 hb1
      rw [hv]
      have HV := Lib.hid hv
      clear hv
      rcases hv2 with rfl | rfl
      all_goals
        go_wp2_with fail
        go_ret
        exact ⟨ret_int HV.out.symm, hB1⟩

set_option maxHeartbeats 400000 in
theorem refRules_long (a : Option Addr) (n cap : Nat) (w : World) (hn : 20 < n) (hm : n ≤ maxLen) :
    Calls Try.prog 16 #[.slice a n cap] w fun e w' => e = .returned (.int .i64 2) ∧ Below w.heap.size w w' := by
  have hn' : (20 : Int) < n := by omega
  go_enter Try.func16, Try.ntmps16
  go_wp2_with fail
  go_ret
  exact ⟨rfl, Below.refl _ _⟩

theorem refRules_any (a : Option Addr) (n cap : Nat) (rs : Nat → RuleL) (w : World) (hs : SlR w a n rs) (hm : n ≤ maxLen) :
    Calls Try.prog 16 #[.slice a n cap] w fun e w' => e = .returned (.int .i64 (rulesErr n rs)) ∧ Below w.heap.size w w' := by
  unfold rulesErr
  by_cases hn : 20 < n
  · rw [if_pos hn]
    exact refRules_long a n cap w hn hm
  · rw [if_neg hn]
    rcases rules_split rs n with h | ⟨j, h1, h2, h3⟩
    · rw [errN_ok h]
      exact refRules_ok a n cap rs w hs (by omega) h
    · rw [errN_bad h2 h3 h1]
      exact refRules_bad a n cap rs w hs (by omega) j h1 h2 h3
end Go.Proofs.Ytpjmhajhmkfolaa
