/- Contracts of wyref's within, Roles and Comes. -/
import Derived.Test.YtpjmhajhmkfolaaBase
set_option linter.unusedVariables false
set_option linter.unusedSimpArgs false
namespace Go.Proofs.Ytpjmhajhmkfolaa
open Go.RowKit

set_option maxHeartbeats 400000 in
theorem within_yes (x a b : Int) (w : World) (h1 : a ≤ x) (h2 : x ≤ b) :
    Calls Try.prog 30 #[.int .i64 x, .int .i64 a, .int .i64 b] w fun e w' => e = .returned (.bool true) ∧ w = w' := by
  go_enter Try.func30, Try.ntmps30
  go_wp2
  go_ret
  exact ⟨rfl, rfl⟩

set_option maxHeartbeats 400000 in
theorem within_no (x a b : Int) (w : World) (h : ¬ (a ≤ x ∧ x ≤ b)) :
    Calls Try.prog 30 #[.int .i64 x, .int .i64 a, .int .i64 b] w fun e w' => e = .returned (.bool false) ∧ w = w' := by
  by_cases h1 : a ≤ x
  · have h2 : ¬ x ≤ b := by omega
    clear h
    go_enter Try.func30, Try.ntmps30
    go_wp2
    go_ret
    exact ⟨rfl, rfl⟩
  · clear h
    go_enter Try.func30, Try.ntmps30
    go_wp2
    go_ret
    exact ⟨rfl, rfl⟩

set_option maxHeartbeats 400000 in
theorem roles_valid (a : Option Addr) (n cap : Nat) (z : Nat → Int) (w : World) (hs : Sl w a n z) (h8 : n ≤ 8) (hz : ∀ k, k < n → 0 ≤ z k ∧ z k < 2 ^ k) :
    Calls Try.prog 28 #[.slice a n cap] w fun e w' => e = .returned (.int .i64 0) ∧ w = w' := by
  have h8' : ¬ (8 : Int) < n := by omega
  go_enter Try.func28, Try.ntmps28
  go_wp2_with fail
  go_loop [3, 11] (fun t i => ∃ k p : Nat, k ≤ n ∧ i = .int .i64 k ∧ t = .int .i64 p ∧ Hid (p = 2 ^ k)) (fun _ i => n - (intOf i).toNat)
  case atStart => exact ⟨0, 1, Nat.zero_le _, rfl, rfl, rfl⟩
  case round =>
    obtain ⟨k, p, hk, rfl, rfl, hp⟩ := hrel
    have hp1 : p ≤ 256 := by rw [hp.out]; exact pow_le_256 (by omega)
    by_cases hlt : k < n
    · obtain ⟨b, off, rfl, hc⟩ := hs k hlt
      obtain ⟨z0, z1⟩ := hz k hlt
      have e : (2 : Int) ^ k = (p : Int) := by rw [hp.out]; simp
      rw [e] at z1
      have z2 : z k ≤ (p : Int) - 1 := by omega
      clear hz hs e
      go_wp2_with (go_at_call 30; refine (within_yes _ _ _ _ z0 z2).mono ?_; rintro e w' ⟨rfl, rfl⟩)
      go_round
      case rel => exact ⟨k + 1, p + p, by omega, by go_num, by go_num, by rw [hp.out]; show _ = _; rw [Nat.pow_succ]; omega⟩
      case measure => simp [intOf]; omega
    · go_wp2_with fail
      go_ret
      exact ⟨rfl, rfl⟩

set_option maxHeartbeats 400000 in
theorem roles_long (a : Option Addr) (n cap : Nat) (w : World) (h8 : 8 < n) (hm : n ≤ maxLen) :
    Calls Try.prog 28 #[.slice a n cap] w fun e w' => e = .returned (.int .i64 2) ∧ w = w' := by
  have h8' : (8 : Int) < n := by omega
  go_enter Try.func28, Try.ntmps28
  go_wp2_with fail
  go_ret
  exact ⟨rfl, rfl⟩

set_option maxHeartbeats 400000 in
theorem roles_bad (a : Option Addr) (n cap : Nat) (z : Nat → Int) (w : World) (hs : Sl w a n z) (h8 : n ≤ 8) (j : Nat) (hj : j < n) (hz : ∀ k, k < j → 0 ≤ z k ∧ z k < 2 ^ k) (hbad : ¬ (0 ≤ z j ∧ z j < 2 ^ j)) :
    Calls Try.prog 28 #[.slice a n cap] w fun e w' => e = .returned (.int .i64 1) ∧ w = w' := by
  have h8' : ¬ (8 : Int) < n := by omega
  go_enter Try.func28, Try.ntmps28
  go_wp2_with fail
  go_loop [3, 11] (fun t i => ∃ k p : Nat, k ≤ j ∧ i = .int .i64 k ∧ t = .int .i64 p ∧ Hid (p = 2 ^ k)) (fun _ i => n - (intOf i).toNat)
  case atStart => exact ⟨0, 1, Nat.zero_le _, rfl, rfl, rfl⟩
  case round =>
    obtain ⟨k, p, hk, rfl, rfl, hp⟩ := hrel
    have hp1 : p ≤ 256 := by rw [hp.out]; exact pow_le_256 (by omega)
    have hlt : k < n := by omega
    obtain ⟨b, off, rfl, hc⟩ := hs k hlt
    have e : (2 : Int) ^ k = (p : Int) := by rw [hp.out]; simp
    by_cases hkj : k < j
    · obtain ⟨z0, z1⟩ := hz k hkj
      rw [e] at z1
      have z2 : z k ≤ (p : Int) - 1 := by omega
      clear hz hs e hbad
      go_wp2_with (go_at_call 30; refine (within_yes _ _ _ _ z0 z2).mono ?_; rintro e w' ⟨rfl, rfl⟩)
      go_round
      case rel => exact ⟨k + 1, p + p, by omega, by go_num, by go_num, by rw [hp.out]; show _ = _; rw [Nat.pow_succ]; omega⟩
      case measure => simp [intOf]; omega
    · obtain rfl : k = j := by omega
      have z2 : ¬ (0 ≤ z k ∧ z k ≤ (p : Int) - 1) := by rw [e] at hbad; omega
      have Z2 := Lib.hid z2
      clear hz hs e hbad z2
      go_wp2_with (go_at_call 30; refine (within_no _ _ _ _ Z2.out).mono ?_; rintro e w' ⟨rfl, rfl⟩)
      go_ret
      exact ⟨rfl, rfl⟩

set_option maxHeartbeats 1000000 in
theorem comes_valid {a : Option Addr} {n : Nat} {u : Nat → Nat} (cap k : Nat) (w : World) (h : SlV w a n u) (hk : k < 256) : ∀ i : Nat, i < n →
    Calls Try.prog 29 #[.slice a n cap, .int .i64 i, .int .i64 k] w fun e w' => e = .returned (.bool ((allU u i).testBit k)) ∧ w = w' := by
  intro i
  induction i using Nat.strongRecOn with
  | ind i ih =>
    intro hi
    have hv := h.2
    by_cases hik : i = k
    · subst hik
      have ht : (allU u i).testBit i = true := (allU_spec hv hi i).2 (.refl _)
      go_enter Try.func29, Try.ntmps29
      go_wp2_with fail
      go_ret
      exact ⟨ret_bool ht.symm, rfl⟩
    · have hik1 : ((i : Int) == (k : Int)) = false := by simp; omega
      have hik2 : (i == k) = false := by simp; omega
      obtain ⟨b, off, rfl, hc⟩ := h.1 i hi
      have hn8 := hv.1
      have IH := Lib.hid ih; have HV := Lib.hid hv; have HH := Lib.hid h; have HK := Lib.hid hik
      clear ih hv h hik
      go_enter Try.func29, Try.ntmps29
      go_wp2_with fail
      go_loop [12] (fun s => ∃ l : Nat, l ≤ i ∧ s = .int .i64 l ∧ Hid (∀ l', l' < l → (u i).testBit l' = true → (allU u l').testBit k = false)) (fun s => i - (intOf s).toNat)
      case atStart => exact ⟨0, Nat.zero_le _, rfl, fun l' hl => absurd hl (Nat.not_lt_zero l')⟩
      case round =>
        obtain ⟨l, hl, rfl, hall⟩ := hrel
        by_cases hlt : l < i
        · have hx := bit_mod (u i) l
          cases hb : (u i).testBit l
          · rw [hb] at hx
            have HB := Lib.hid hb
            clear hb
            go_wp2_with fail
            go_round
            case rel =>
              refine ⟨l + 1, by omega, by go_num, fun l' hl' hbl => ?_⟩
              by_cases e : l' = l
              · subst e
                rw [HB.out] at hbl
                cases hbl
              · exact hall.out l' (by omega) hbl
            case measure => simp [intOf]; omega
          · rw [hb] at hx
            have HB := Lib.hid hb
            clear hb
            cases hr : (allU u l).testBit k
            · have HR := Lib.hid hr
              go_wp2_with fail
              refine (IH.out l hlt (by omega)).mono ?_
              rintro e w' ⟨rfl, rfl⟩
              go_wp2_with fail
              go_round
              case rel =>
                refine ⟨l + 1, by omega, by go_num, fun l' hl' hbl => ?_⟩
                by_cases e : l' = l
                · subst e
                  exact HR.out
                · exact hall.out l' (by omega) hbl
              case measure => simp [intOf]; omega
            · have ht : (allU u i).testBit k = true := (allU_spec HV.out hi k).2 (.step HB.out ((allU_spec HV.out (show l < n by omega) k).1 hr))
              have HT := Lib.hid ht
              clear ht
              go_wp2_with fail
              refine (IH.out l hlt (by omega)).mono ?_
              rintro e w' ⟨rfl, rfl⟩
              go_wp2_with fail
              go_ret
              exact ⟨ret_bool HT.out.symm, rfl⟩
        · obtain rfl : l = i := by omega
          have ht : (allU u l).testBit k = false := by
            cases hc' : (allU u l).testBit k
            · rfl
            · have hr := (allU_spec HV.out hi k).1 hc'
              rcases Reach.iff.1 hr with e | ⟨l', h1, h2⟩
              · exact absurd e HK.out
              · have hll := HV.out.lt hi h1
                have := hall.out l' hll h1
                rw [(allU_spec HV.out (show l' < n by omega) k).2 h2] at this
                cases this
          have HT := Lib.hid ht
          clear ht
          go_wp2_with fail
          go_ret
          exact ⟨ret_bool HT.out.symm, rfl⟩
end Go.Proofs.Ytpjmhajhmkfolaa
