/- Contracts of role.Check, role.All and what they call. -/
import Derived.Test.YtpjmhajhmkfolaaBase
set_option linter.unusedVariables false
set_option linter.unusedSimpArgs false
namespace Go.Proofs.Ytpjmhajhmkfolaa
open Go.RowKit

set_option maxHeartbeats 400000 in
theorem has_any (m k : Nat) (w : World) (hm : m < 256) (hk : k < 64) :
    Calls Try.prog 37 #[.int .i64 m, .int .i64 k] w fun e w' => e = .returned (.bool (m.testBit k)) ∧ w = w' := by
  have H : Hid (bits .and .i64 (((m : Int) / 2 ^ k)) 1 = ((m / 2 ^ k % 2 : Nat) : Int)) := by
    have := i64_and_any ((m : Int) / 2 ^ k) 1 1 rfl (by omega)
    exact this.trans (by simp)
  go_enter Try.func37, Try.ntmps37
  go_wp2
  go_ret
  exact ⟨ret_bool (by rw [H.out, ← bit_eq]; exact cast_eq_one _), rfl⟩

set_option maxHeartbeats 400000 in
theorem isRole_yes (a : Option Addr) (n cap : Nat) (i : Int) (w : World) (h0 : 0 ≤ i) (h1 : i < n) :
    Calls Try.prog 36 #[.slice a n cap, .int .i64 i] w fun e w' => e = .returned (.bool true) ∧ w = w' := by
  go_enter Try.func36, Try.ntmps36
  go_wp2
  go_ret
  exact ⟨rfl, rfl⟩

set_option maxHeartbeats 400000 in
theorem isRole_no (a : Option Addr) (n cap : Nat) (i : Int) (w : World) (h : ¬ (0 ≤ i ∧ i < n)) :
    Calls Try.prog 36 #[.slice a n cap, .int .i64 i] w fun e w' => e = .returned (.bool false) ∧ w = w' := by
  by_cases h0 : 0 ≤ i
  · have h1 : ¬ i < n := by omega
    clear h
    go_enter Try.func36, Try.ntmps36
    go_wp2
    go_ret
    exact ⟨rfl, rfl⟩
  · clear h
    go_enter Try.func36, Try.ntmps36
    go_wp2
    go_ret
    exact ⟨rfl, rfl⟩

set_option maxHeartbeats 400000 in
theorem check_valid (a : Option Addr) (n cap : Nat) (z : Nat → Int) (w : World) (hs : Sl w a n z) (h8 : n ≤ 8) (hz : ∀ k, k < n → 0 ≤ z k ∧ z k < 2 ^ k) :
    Calls Try.prog 38 #[.slice a n cap] w fun e w' => e = .returned (.int .i64 0) ∧ w = w' := by
  have h8' : ¬ (8 : Int) < n := by omega
  go_enter Try.func38, Try.ntmps38
  go_wp2
  go_loop [10] (fun i => ∃ k : Nat, k ≤ n ∧ i = .int .i64 k) (fun i => n - (intOf i).toNat)
  case atStart => exact ⟨0, Nat.zero_le _, rfl⟩
  case round =>
    obtain ⟨k, hk, rfl⟩ := hrel
    by_cases hlt : k < n
    · obtain ⟨b, off, rfl, hc⟩ := hs k hlt
      obtain ⟨z0, z1⟩ := hz k hlt
      have g1 : ¬ z k < 0 := by omega
      have g2 : ¬ wrap64 ((2 : Int) ^ k) ≤ z k := by
        rw [shl_one (by omega)]
        simp
        omega
      clear hz hs z0 z1
      go_wp2
      go_round
      case rel => exact ⟨k + 1, by omega, by go_num⟩
      case measure => simp [intOf]; omega
    · go_wp2
      go_ret
      exact ⟨rfl, rfl⟩

set_option maxHeartbeats 400000 in
theorem check_long (a : Option Addr) (n cap : Nat) (w : World) (h8 : 8 < n) (hm : n ≤ maxLen) :
    Calls Try.prog 38 #[.slice a n cap] w fun e w' => e = .returned (.int .i64 2) ∧ w = w' := by
  have h8' : (8 : Int) < n := by omega
  go_enter Try.func38, Try.ntmps38
  go_wp2
  go_ret
  exact ⟨rfl, rfl⟩

/-- the first that may not be -/
theorem check_bad1 (a : Option Addr) (n cap : Nat) (z : Nat → Int) (w : World) (hs : Sl w a n z) (h8 : n ≤ 8) (j : Nat) (hj : j < n) (hz : ∀ k, k < j → 0 ≤ z k ∧ z k < 2 ^ k) (hbad : ¬ (0 ≤ z j ∧ z j < 2 ^ j)) :
    Calls Try.prog 38 #[.slice a n cap] w fun e w' => e = .returned (.int .i64 1) ∧ w = w' := by
  have h8' : ¬ (8 : Int) < n := by omega
  go_enter Try.func38, Try.ntmps38
  go_wp2
  go_loop [10] (fun i => ∃ k : Nat, k ≤ j ∧ i = .int .i64 k) (fun i => n - (intOf i).toNat)
  case atStart => exact ⟨0, Nat.zero_le _, rfl⟩
  case round =>
    obtain ⟨k, hk, rfl⟩ := hrel
    have hlt : k < n := by omega
    obtain ⟨b, off, rfl, hc⟩ := hs k hlt
    by_cases hkj : k < j
    · obtain ⟨z0, z1⟩ := hz k hkj
      have g1 : ¬ z k < 0 := by omega
      have g2 : ¬ wrap64 ((2 : Int) ^ k) ≤ z k := by
        rw [shl_one (by omega)]
        simp
        omega
      clear hz hs z0 z1 hbad
      go_wp2
      go_round
      case rel => exact ⟨k + 1, by omega, by go_num⟩
      case measure => simp [intOf]; omega
    · obtain rfl : k = j := by omega
      by_cases g1 : z k < 0
      · clear hz hs hbad
        go_wp2
        go_ret
        exact ⟨rfl, rfl⟩
      · have g2 : wrap64 ((2 : Int) ^ k) ≤ z k := by
          rw [shl_one (by omega)]
          simp
          omega
        clear hz hs hbad
        go_wp2
        go_ret
        exact ⟨rfl, rfl⟩

theorem SlV.check {w : World} {a : Option Addr} {n : Nat} {u : Nat → Nat} (h : SlV w a n u) (cap : Nat) :
    Calls Try.prog 38 #[.slice a n cap] w fun e w' => e = .returned (.int .i64 0) ∧ w = w' :=
  check_valid a n cap _ w h.1 h.2.1 fun k hk => ⟨Int.natCast_nonneg _, cast_lt_pow (h.2.2 k hk)⟩

set_option maxHeartbeats 400000 in
theorem checkRole_yes {a : Option Addr} {n : Nat} {u : Nat → Nat} (cap i : Nat) (w : World) (h : SlV w a n u) (hi : i < n) :
    Calls Try.prog 39 #[.slice a n cap, .int .i64 i] w fun e w' => e = .returned (.int .i64 0) ∧ w = w' := by
  go_enter Try.func39, Try.ntmps39
  go_wp2_with fail
  refine (h.check cap).mono ?_
  rintro e w' ⟨rfl, rfl⟩
  go_wp2_with fail
  refine (isRole_yes a n cap i _ (by omega) (by omega)).mono ?_
  rintro e w' ⟨rfl, rfl⟩
  go_wp2_with fail
  go_ret
  exact ⟨rfl, rfl⟩

set_option maxHeartbeats 400000 in
theorem checkRole_none {a : Option Addr} {n : Nat} {u : Nat → Nat} (cap : Nat) (i : Int) (w : World) (h : SlV w a n u) (hi : ¬ (0 ≤ i ∧ i < n)) :
    Calls Try.prog 39 #[.slice a n cap, .int .i64 i] w fun e w' => e = .returned (.int .i64 4) ∧ w = w' := by
  go_enter Try.func39, Try.ntmps39
  go_wp2_with fail
  refine (h.check cap).mono ?_
  rintro e w' ⟨rfl, rfl⟩
  go_wp2_with fail
  refine (isRole_no a n cap i _ hi).mono ?_
  rintro e w' ⟨rfl, rfl⟩
  go_wp2_with fail
  go_ret
  exact ⟨rfl, rfl⟩

/-- .. of roles that may not be: Check's error -/
theorem checkRole_bad {a : Option Addr} {n cap : Nat} (i c : Int) (w : World) (hc : c = 1 ∨ c = 2) (h : ∀ w, Calls Try.prog 38 #[.slice a n cap] w fun e w' => e = .returned (.int .i64 c) ∧ w = w') :
    Calls Try.prog 39 #[.slice a n cap, .int .i64 i] w fun e w' => e = .returned (.int .i64 c) ∧ w = w' := by
  rcases hc with rfl | rfl
  all_goals
    go_enter Try.func39, Try.ntmps39
    go_wp2_with fail
    refine (h _).mono ?_
    rintro e w' ⟨rfl, rfl⟩
    go_wp2_with fail
    go_ret
    exact ⟨rfl, rfl⟩

set_option maxHeartbeats 400000 in
theorem all_valid {a : Option Addr} {n : Nat} {u : Nat → Nat} (cap i : Nat) (w : World) (h : SlV w a n u) (hi : i < n) :
    Calls Try.prog 25 #[.slice a n cap, .int .i64 i] w fun e w' => e = .returned (.tuple #[.int .i64 (allU u i : Nat), .int .i64 0]) ∧ w = w' := by
  have hn := h.2.1
  obtain ⟨p, hp⟩ : ∃ p : Nat, Hid (p = 2 ^ i) := ⟨_, rfl⟩
  have hsh : Hid (wrap64 ((2 : Int) ^ i) = (p : Int)) := by
    have := shl_one (k := i) (by omega)
    rw [← hp.out] at this
    exact this
  go_enter Try.func25, Try.ntmps25
  go_wp2_with fail
  refine (checkRole_yes cap i _ h hi).mono ?_
  rintro e w' ⟨rfl, rfl⟩
  go_wp2_with fail
  rw [hsh.out]
  go_loop [7, 8] (fun m k => ∃ (x : Nat) (l : Nat), l ≤ i + 1 ∧ k = .int .i64 ((l : Int) - 1) ∧ m = .int .i64 x ∧ x < 256 ∧ allN u l x = allU u i) (fun _ k => (intOf k + 1).toNat)
  case atStart => exact ⟨p, i + 1, Nat.le_refl _, by go_num, rfl, by rw [hp.out]; exact pow_lt_256 (by omega), by rw [hp.out]; rfl⟩
  case round =>
    obtain ⟨x, l, hl, rfl, rfl, hx, hr⟩ := hrel
    cases l with
    | zero =>
      have hxr : Hid (x = allU u i) := hr
      clear hr
      rw [show ((0 : Nat) : Int) - 1 = -1 from rfl]
      go_wp2
      go_ret2
      exact ⟨by rw [← hxr.out]; rfl, rfl⟩
    | succ k =>
      have hkn : k < n := by omega
      obtain ⟨b, off, rfl, hc⟩ := h.1 k hkn
      have hu := h.2.2 k hkn
      have hu2 : u k < 256 := Nat.lt_trans hu (pow_lt_256 (by omega))
      have H : Hid (bits .or .i64 (x : Int) (u k : Int) = ((x ||| u k : Nat) : Int)) := i64_or x (u k) (by omega) (by omega)
      rw [show ((k + 1 : Nat) : Int) - 1 = (k : Int) by omega]
      have hr' : Hid (allN u (k + 1) x = allU u i) := hr
      clear hr hsh
      by_cases hb : x.testBit k = true
      · go_wp2_with (go_at_call 37; refine (has_any x k _ hx (by omega)).mono ?_; rintro e w' ⟨rfl, rfl⟩)
        go_round
        case rel =>
          refine ⟨x ||| u k, k, by omega, rfl, by rw [H.out], Nat.or_lt_two_pow (n := 8) hx hu2, ?_⟩
          rw [← hr'.out, allN, if_pos hb]
        case measure => simp [intOf]
      · have hb' : x.testBit k = false := by simpa using hb
        go_wp2_with (go_at_call 37; refine (has_any x k _ hx (by omega)).mono ?_; rintro e w' ⟨rfl, rfl⟩)
        go_round
        case rel =>
          refine ⟨x, k, by omega, rfl, rfl, hx, ?_⟩
          rw [← hr'.out, allN, if_neg hb]
        case measure => simp [intOf]

set_option maxHeartbeats 400000 in
/-- the error of checkRole is All's -/
theorem all_err {a : Option Addr} {n cap : Nat} (i c : Int) (w : World) (hc : c = 1 ∨ c = 2 ∨ c = 4) (h : Calls Try.prog 39 #[.slice a n cap, .int .i64 i] w fun e w' => e = .returned (.int .i64 c) ∧ w = w') :
    Calls Try.prog 25 #[.slice a n cap, .int .i64 i] w fun e w' => e = .returned (.tuple #[.int .i64 0, .int .i64 c]) ∧ w = w' := by
  rcases hc with rfl | rfl | rfl
  all_goals
    go_enter Try.func25, Try.ntmps25
    go_wp2_with fail
    refine h.mono ?_
    rintro e w' ⟨rfl, rfl⟩
    go_wp2_with fail
    go_ret2
    exact ⟨rfl, rfl⟩
end Go.Proofs.Ytpjmhajhmkfolaa
