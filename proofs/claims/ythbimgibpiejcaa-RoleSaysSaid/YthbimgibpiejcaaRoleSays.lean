/- The walk of RoleSays. -/
import Derived.Test.YthbimgibpiejcaaRefs
import Derived.Test.YthbimgibpiejcaaDeep
set_option linter.unusedVariables false
set_option linter.unusedSimpArgs false
namespace Go.Proofs.Ythbimgibpiejcaa
open Go.RowKit

/-- the first that may not be -/
theorem first_bad (z : Nat → Int) : ∀ n : Nat, (∀ k, k < n → 0 ≤ z k ∧ z k < 2 ^ k) ∨ ∃ j, j < n ∧ (∀ k, k < j → 0 ≤ z k ∧ z k < 2 ^ k) ∧ ¬ (0 ≤ z j ∧ z j < 2 ^ j)
  | 0 => .inl fun k hk => absurd hk (Nat.not_lt_zero k)
  | n + 1 => by
    rcases first_bad z n with h | ⟨j, h1, h2, h3⟩
    · by_cases hn : 0 ≤ z n ∧ z n < 2 ^ n
      · refine .inl fun k hk => ?_
        by_cases e : k = n
        · subst e
          exact hn
        · exact h k (by omega)
      · exact .inr ⟨n, by omega, h, hn⟩
    · exact .inr ⟨j, by omega, h2, h3⟩

theorem sl_one (w : World) : Sl (w.alloc (.cells #[.int .i64 1] 3)) (some ⟨w.heap.size, 0, none⟩) 1 (fun _ => 1) := fun k hk => by
  obtain rfl : k = 0 := by omega
  exact ⟨_, _, rfl, by simp⟩
/-- Check of one role that comes with itself -/
theorem check_one (w : World) : Calls Try.prog 27 #[.slice (some ⟨w.heap.size, 0, none⟩) 1 1] (w.alloc (.cells #[.int .i64 1] 3)) fun e w' => e = .returned (.int .i64 1) ∧ (w.alloc (.cells #[.int .i64 1] 3)) = w' :=
  check_bad1 _ 1 1 (fun _ => 1) _ (sl_one w) (by omega) 0 (by omega) (fun k hk => absurd hk (Nat.not_lt_zero k)) (by decide)

/-- The errors at one world alone. -/
theorem all_err' {a : Option Addr} {n cap : Nat} (i c : Int) (w : World) (hc : c = 1 ∨ c = 2 ∨ c = 4) (h : Calls Try.prog 41 #[.slice a n cap, .int .i64 i] w fun e w' => e = .returned (.int .i64 c) ∧ w = w') :
    Calls Try.prog 23 #[.slice a n cap, .int .i64 i] w fun e w' => e = .returned (.tuple #[.int .i64 0, .int .i64 c]) ∧ w = w' := by
  rcases hc with rfl | rfl | rfl
  all_goals
    go_enter Try.func23, Try.ntmps23
    go_wp2_with fail
    refine h.mono ?_
    rintro e w' ⟨rfl, rfl⟩
    go_wp2_with fail
    go_ret2
    exact ⟨rfl, rfl⟩
theorem has_err' {a : Option Addr} {n cap : Nat} (i k c : Int) (w : World) (hc : c = 1 ∨ c = 2 ∨ c = 4) (h : Calls Try.prog 41 #[.slice a n cap, .int .i64 i] w fun e w' => e = .returned (.int .i64 c) ∧ w = w') :
    Calls Try.prog 24 #[.slice a n cap, .int .i64 i, .int .i64 k] w fun e w' => e = .returned (.tuple #[.bool false, .int .i64 c]) ∧ w = w' := by
  have H := Lib.hid (all_err' i c w hc h)
  clear h
  rcases hc with rfl | rfl | rfl
  all_goals
    go_enter Try.func24, Try.ntmps24
    go_wp2_with fail
    refine H.out.mono ?_
    rintro e w' ⟨rfl, rfl⟩
    go_wp2_with fail
    go_ret2
    exact ⟨rfl, rfl⟩
theorem deep_err' {a : Option Addr} {n cap : Nat} (i c : Int) (w : World) (hc : c = 1 ∨ c = 2 ∨ c = 4) (h : Calls Try.prog 41 #[.slice a n cap, .int .i64 i] w fun e w' => e = .returned (.int .i64 c) ∧ w = w') :
    Calls Try.prog 25 #[.slice a n cap, .int .i64 i] w fun e w' => e = .returned (.tuple #[.int .i64 0, .int .i64 c]) ∧ w = w' := by
  rcases hc with rfl | rfl | rfl
  all_goals
    go_enter Try.func25, Try.ntmps25
    go_wp2_with fail
    refine h.mono ?_
    rintro e w' ⟨rfl, rfl⟩
    go_wp2_with fail
    go_ret2
    exact ⟨rfl, rfl⟩
theorem checkRole_bad' {a : Option Addr} {n cap : Nat} (i c : Int) (w : World) (hc : c = 1 ∨ c = 2) (h : Calls Try.prog 27 #[.slice a n cap] w fun e w' => e = .returned (.int .i64 c) ∧ w = w') :
    Calls Try.prog 41 #[.slice a n cap, .int .i64 i] w fun e w' => e = .returned (.int .i64 c) ∧ w = w' := by
  rcases hc with rfl | rfl
  all_goals
    go_enter Try.func41, Try.ntmps41
    go_wp2_with fail
    refine h.mono ?_
    rintro e w' ⟨rfl, rfl⟩
    go_wp2_with fail
    go_ret
    exact ⟨rfl, rfl⟩

set_option maxHeartbeats 1000000 in
theorem roleSays_long (a0 : Option Addr) (n cap0 : Nat) (z : Nat → Int) (a1 a2 : Int) (w : World) (hs : Sl w a0 n z) (hm : n ≤ maxLen) (h8 : 8 < n) :
    Calls Try.prog 4 #[.slice a0 n cap0, .int .i64 a1, .int .i64 a2] w fun e w' => e = .returned (.bool true) ∧ Below w.heap.size w w' := by
  have hrole : ∀ w', Sl w' a0 n z → Calls Try.prog 41 #[.slice a0 n cap0, .int .i64 a1] w' fun e w'' => e = .returned (.int .i64 2) ∧ w' = w'' := fun w' _ => checkRole_bad' a1 2 w' (by omega) (check_long a0 n cap0 w' h8 hm)
  have hroles : Calls Try.prog 26 #[.slice a0 n cap0] w fun e w' => e = .returned (.int .i64 2) ∧ w = w' := roles_long a0 n cap0 w h8 hm
  have hcheck : Calls Try.prog 27 #[.slice a0 n cap0] w fun e w' => e = .returned (.int .i64 2) ∧ w = w' := check_long a0 n cap0 w h8 hm
  unfold maxLen at hm
  have HS := Lib.hid hs
  have HR := Lib.hid hrole; have HO := Lib.hid hroles; have HC := Lib.hid hcheck
  clear hs hrole hroles hcheck 
  go_enter Try.func4, Try.ntmps4
  go_wp2_with fail
  refine (all_err' a1 2 _ (by omega) (HR.out _ HS.out)).mono ?_
  rintro e w' ⟨rfl, rfl⟩
  go_wp2_with fail
  refine (has_err' a1 a2 2 _ (by omega) (HR.out _ HS.out)).mono ?_
  rintro e w' ⟨rfl, rfl⟩
  go_wp2_with fail
  refine (deep_err' a1 2 _ (by omega) (HR.out _ HS.out)).mono ?_
  rintro e w' ⟨rfl, rfl⟩
  go_wp2_with fail
  refine HO.out.mono ?_
  rintro e w' ⟨rfl, rfl⟩
  go_wp2_with fail
  refine HC.out.mono ?_
  rintro e w' ⟨rfl, rfl⟩
  go_wp2_with fail
  refine (check_one w).mono ?_
  rintro e w' ⟨rfl, rfl⟩
  go_wp2_with fail
  all_goals go_ret
  all_goals exact ⟨rfl, (Below.refl _ _).alloc (Nat.le_refl _) _⟩

set_option maxHeartbeats 1000000 in
theorem roleSays_bad (a0 : Option Addr) (n cap0 : Nat) (z : Nat → Int) (a1 a2 : Int) (w : World) (hs : Sl w a0 n z) (hm : n ≤ maxLen) (h8 : n ≤ 8) (j : Nat) (hj : j < n) (hz : ∀ k, k < j → 0 ≤ z k ∧ z k < 2 ^ k) (hbad : ¬ (0 ≤ z j ∧ z j < 2 ^ j)) :
    Calls Try.prog 4 #[.slice a0 n cap0, .int .i64 a1, .int .i64 a2] w fun e w' => e = .returned (.bool true) ∧ Below w.heap.size w w' := by
  have hrole : ∀ w', Sl w' a0 n z → Calls Try.prog 41 #[.slice a0 n cap0, .int .i64 a1] w' fun e w'' => e = .returned (.int .i64 1) ∧ w' = w'' := fun w' hs' => checkRole_bad' a1 1 w' (by omega) (check_bad1 a0 n cap0 z w' hs' h8 j hj hz hbad)
  have hroles : Calls Try.prog 26 #[.slice a0 n cap0] w fun e w' => e = .returned (.int .i64 1) ∧ w = w' := roles_bad a0 n cap0 z w hs h8 j hj hz hbad
  have hcheck : Calls Try.prog 27 #[.slice a0 n cap0] w fun e w' => e = .returned (.int .i64 1) ∧ w = w' := check_bad1 a0 n cap0 z w hs h8 j hj hz hbad
  unfold maxLen at hm
  have HS := Lib.hid hs
  have HR := Lib.hid hrole; have HO := Lib.hid hroles; have HC := Lib.hid hcheck
  clear hs hrole hroles hcheck hz hbad
  go_enter Try.func4, Try.ntmps4
  go_wp2_with fail
  refine (all_err' a1 1 _ (by omega) (HR.out _ HS.out)).mono ?_
  rintro e w' ⟨rfl, rfl⟩
  go_wp2_with fail
  refine (has_err' a1 a2 1 _ (by omega) (HR.out _ HS.out)).mono ?_
  rintro e w' ⟨rfl, rfl⟩
  go_wp2_with fail
  refine (deep_err' a1 1 _ (by omega) (HR.out _ HS.out)).mono ?_
  rintro e w' ⟨rfl, rfl⟩
  go_wp2_with fail
  refine HO.out.mono ?_
  rintro e w' ⟨rfl, rfl⟩
  go_wp2_with fail
  refine HC.out.mono ?_
  rintro e w' ⟨rfl, rfl⟩
  go_wp2_with fail
  refine (check_one w).mono ?_
  rintro e w' ⟨rfl, rfl⟩
  go_wp2_with fail
  all_goals go_ret
  all_goals exact ⟨rfl, (Below.refl _ _).alloc (Nat.le_refl _) _⟩

set_option maxHeartbeats 1000000 in
theorem roleSays_none (a0 : Option Addr) (n cap0 : Nat) (z : Nat → Int) (a1 a2 : Int) (w : World) (hs : Sl w a0 n z) (hm : n ≤ maxLen) (u : Nat → Nat) (hu : Valid n u) (hzu : z = fun k => (u k : Int)) (hi : ¬ (0 ≤ a1 ∧ a1 < n)) (hor : a1 < 0 ∨ ¬ a1 < 0) :
    Calls Try.prog 4 #[.slice a0 n cap0, .int .i64 a1, .int .i64 a2] w fun e w' => e = .returned (.bool true) ∧ Below w.heap.size w w' := by
  have hs2 : Sl w a0 n (fun k => (u k : Int)) := hzu ▸ hs
  have hzz : ∀ k, k < n → 0 ≤ z k ∧ z k < 2 ^ k := fun k hk => by
    rw [hzu]
    exact ⟨Int.natCast_nonneg _, cast_lt_pow (hu.2 k hk)⟩
  have hrole : ∀ w', Sl w' a0 n z → Calls Try.prog 41 #[.slice a0 n cap0, .int .i64 a1] w' fun e w'' => e = .returned (.int .i64 4) ∧ w' = w'' := fun w' hs' => checkRole_none cap0 a1 w' ⟨hzu ▸ hs', hu⟩ hi
  have hroles : Calls Try.prog 26 #[.slice a0 n cap0] w fun e w' => e = .returned (.int .i64 0) ∧ w = w' := roles_valid a0 n cap0 z w hs hu.1 hzz
  have hcheck : Calls Try.prog 27 #[.slice a0 n cap0] w fun e w' => e = .returned (.int .i64 0) ∧ w = w' := (SlV.check ⟨hs2, hu⟩ cap0)
  unfold maxLen at hm
  have HS := Lib.hid hs
  have HR := Lib.hid hrole; have HO := Lib.hid hroles; have HC := Lib.hid hcheck
  clear hs hrole hroles hcheck hs2 hzz hzu
  have hi2 : ¬ a1 < 0 → (n : Int) ≤ a1 := by omega
  rcases hor with hneg | hneg
  all_goals
    try have hge := hi2 hneg
    clear hi2 hi
    go_enter Try.func4, Try.ntmps4
    go_wp2_with fail
    refine (all_err' a1 4 _ (by omega) (HR.out _ HS.out)).mono ?_
    rintro e w' ⟨rfl, rfl⟩
    go_wp2_with fail
    refine (has_err' a1 a2 4 _ (by omega) (HR.out _ HS.out)).mono ?_
    rintro e w' ⟨rfl, rfl⟩
    go_wp2_with fail
    refine (deep_err' a1 4 _ (by omega) (HR.out _ HS.out)).mono ?_
    rintro e w' ⟨rfl, rfl⟩
    go_wp2_with fail
    refine HO.out.mono ?_
    rintro e w' ⟨rfl, rfl⟩
    go_wp2_with fail
    refine HC.out.mono ?_
    rintro e w' ⟨rfl, rfl⟩
    go_wp2_with fail
    refine (check_one w).mono ?_
    rintro e w' ⟨rfl, rfl⟩
    go_wp2_with fail
    go_ret
    exact ⟨rfl, (Below.refl _ _).alloc (Nat.le_refl _) _⟩

set_option maxHeartbeats 1000000 in
theorem roleSays_valid (a0 : Option Addr) (n cap0 : Nat) (u : Nat → Nat) (i : Nat) (a2 : Int) (w : World) (hs : SlV w a0 n u) (hi : i < n) :
    Calls Try.prog 4 #[.slice a0 n cap0, .int .i64 i, .int .i64 a2] w fun e w' => e = .returned (.bool true) ∧ Below w.heap.size w w' := by
  have hn8 := hs.2.1
  have hzz : ∀ k, k < n → 0 ≤ (u k : Int) ∧ (u k : Int) < 2 ^ k := fun k hk => ⟨Int.natCast_nonneg _, cast_lt_pow (hs.2.2 k hk)⟩
  have HZ := Lib.hid hzz
  have HS := Lib.hid hs
  clear hzz hs
  have hi1 : ¬ (i : Int) < 0 := by omega
  have hi2 : ¬ (n : Int) ≤ i := by omega
  by_cases hk : 0 ≤ a2 ∧ a2 < n
  · obtain ⟨k, rfl⟩ := Int.eq_ofNat_of_zero_le hk.1
    have hkn : k < n := by omega
    have hk1 : ¬ (k : Int) < 0 := by omega
    have hk2 : ¬ (n : Int) ≤ k := by omega
    clear hk
    go_enter Try.func4, Try.ntmps4
    go_wp2_with fail
    refine (all_valid cap0 i _ HS.out hi).mono ?_
    rintro e w' ⟨rfl, rfl⟩
    go_wp2_with fail
    refine (has_valid cap0 i k _ HS.out hi hkn).mono ?_
    rintro e w' ⟨rfl, rfl⟩
    go_wp2_with fail
    refine (deep_valid cap0 i _ HS.out hi).mono ?_
    rintro e w1 ⟨rfl, hB1, -⟩
    go_wp2_with fail
    refine (roles_valid a0 n cap0 _ _ (HS.out.below hB1).1 hn8 HZ.out).mono ?_
    rintro e w' ⟨rfl, rfl⟩
    go_wp2_with fail
    refine ((HS.out.below hB1).check cap0).mono ?_
    rintro e w' ⟨rfl, rfl⟩
    go_wp2_with fail
    refine (check_one w1).mono ?_
    rintro e w' ⟨rfl, rfl⟩
    have hB2 : Below w.heap.size w (w1.alloc (.cells #[.int .i64 1] 3)) := hB1.alloc hB1.size _
    go_wp2_with fail
    refine (refAll_valid cap0 i _ (HS.out.below hB2) hi).mono ?_
    rintro e w' ⟨rfl, rfl⟩
    go_wp2_with fail
    refine (refDeep_valid cap0 _ (HS.out.below hB2) i hi).mono ?_
    rintro e w' ⟨rfl, rfl⟩
    go_wp2_with fail
    refine (comes_valid cap0 k _ (HS.out.below hB2) (by omega) i hi).mono ?_
    rintro e w' ⟨rfl, rfl⟩
    go_wp2_with fail
    go_ret
    exact ⟨rfl, hB2⟩
  · have hk1 : a2 < 0 ∨ ¬ a2 < 0 := by omega
    have hk2 : ¬ a2 < 0 → (n : Int) ≤ a2 := by omega
    have HK := Lib.hid hk
    clear hk
    rcases hk1 with hneg | hneg
    all_goals
      try have hge := hk2 hneg
      clear hk2
      go_enter Try.func4, Try.ntmps4
      go_wp2_with fail
      refine (all_valid cap0 i _ HS.out hi).mono ?_
      rintro e w' ⟨rfl, rfl⟩
      go_wp2_with fail
      refine (has_nok cap0 i a2 _ HS.out hi HK.out).mono ?_
      rintro e w' ⟨rfl, rfl⟩
      go_wp2_with fail
      refine (deep_valid cap0 i _ HS.out hi).mono ?_
      rintro e w1 ⟨rfl, hB1, -⟩
      go_wp2_with fail
      refine (roles_valid a0 n cap0 _ _ (HS.out.below hB1).1 hn8 HZ.out).mono ?_
      rintro e w' ⟨rfl, rfl⟩
      go_wp2_with fail
      refine ((HS.out.below hB1).check cap0).mono ?_
      rintro e w' ⟨rfl, rfl⟩
      go_wp2_with fail
      refine (check_one w1).mono ?_
      rintro e w' ⟨rfl, rfl⟩
      have hB2 : Below w.heap.size w (w1.alloc (.cells #[.int .i64 1] 3)) := hB1.alloc hB1.size _
      go_wp2_with fail
      refine (refAll_valid cap0 i _ (HS.out.below hB2) hi).mono ?_
      rintro e w' ⟨rfl, rfl⟩
      go_wp2_with fail
      refine (refDeep_valid cap0 _ (HS.out.below hB2) i hi).mono ?_
      rintro e w' ⟨rfl, rfl⟩
      go_wp2_with fail
      go_ret
      exact ⟨rfl, hB2⟩

theorem roleSays_walk (a0 : Option Addr) (n cap0 : Nat) (zs : List Int) (a1 a2 : Int) (w : World) (h : IsRow .i64 w a0 n cap0 zs) :
    Calls Try.prog 4 #[.slice a0 n cap0, .int .i64 a1, .int .i64 a2] w fun e w' => e = .returned (.bool true) ∧ Below w.heap.size w w' := by
  obtain ⟨hs, hn, hcap⟩ := h.sl
  rcases Nat.lt_or_ge 8 n with h8 | h8
  · exact roleSays_long a0 n cap0 _ a1 a2 w hs (Nat.le_trans hn hcap) h8
  · rcases first_bad (fun k => zs.getD k 0) n with hv | ⟨j, hj, h1, h2⟩
    · obtain ⟨u, hu⟩ : ∃ u : Nat → Nat, u = fun k => (zs.getD k 0).toNat := ⟨_, rfl⟩
      have hval : Valid n u := ⟨h8, fun k hk => by
        obtain ⟨z0, z1⟩ := hv k hk
        have e : (2 : Int) ^ k = ((2 ^ k : Nat) : Int) := by simp
        rw [e] at z1
        rw [hu]
        show (zs.getD k 0).toNat < 2 ^ k
        omega⟩
      have hs2 : Sl w a0 n (fun k => (u k : Int)) := fun k hk => by
        obtain ⟨b, off, he, hc⟩ := hs k hk
        refine ⟨b, off, he, ?_⟩
        have := (hv k hk).1
        have e : ((u k : Nat) : Int) = zs.getD k 0 := by
          rw [hu]
          show (((zs.getD k 0).toNat : Nat) : Int) = _
          omega
        show w.cell? ⟨b, off + k, none⟩ = some (Value.int .i64 ((u k : Nat) : Int))
        rw [e]
        exact hc
      by_cases hi : 0 ≤ a1 ∧ a1 < n
      · obtain ⟨i, rfl⟩ := Int.eq_ofNat_of_zero_le hi.1
        exact roleSays_valid a0 n cap0 u i a2 w ⟨hs2, hval⟩ (by omega)
      · exact roleSays_none a0 n cap0 _ a1 a2 w hs2 (Nat.le_trans hn hcap) u hval rfl hi (by omega)
    · exact roleSays_bad a0 n cap0 _ a1 a2 w hs (Nat.le_trans hn hcap) h8 j hj h1 h2
end Go.Proofs.Ythbimgibpiejcaa
