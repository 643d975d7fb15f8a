/- Contracts of packages role, label and rule. -/
import Derived.Test.YteimdhkajbldjaaGreatBase
import Derived.Test.YteimdhkajbldjaaGreatRuleA
set_option linter.unusedVariables false
set_option linter.unusedSimpArgs false
set_option maxRecDepth 100000
namespace Go.Proofs.YteimdhkajbldjaaGreat
open Go.RowKit

set_option maxHeartbeats 400000 in
theorem has_any (m k : Nat) (w : World) (hm : m < 256) (hk : k < 64) :
    Calls Tryz.prog 72 #[.int .i64 m, .int .i64 k] w fun e w' => e = .returned (.bool (m.testBit k)) ∧ w = w' := by
  have H : Hid (bits .and .i64 (((m : Int) / 2 ^ k)) 1 = ((m / 2 ^ k % 2 : Nat) : Int)) := by
    have := i64_and_any ((m : Int) / 2 ^ k) 1 1 rfl (by omega)
    exact this.trans (by simp)
  go_enter Tryz.func72, Tryz.ntmps72
  go_wp2
  go_ret
  exact ⟨ret_bool (by rw [H.out, ← bit_eq]; exact cast_eq_one _), rfl⟩

set_option maxHeartbeats 400000 in
theorem isRole_yes (a : Option Addr) (n cap : Nat) (i : Int) (w : World) (h0 : 0 ≤ i) (h1 : i < n) :
    Calls Tryz.prog 114 #[.slice a n cap, .int .i64 i] w fun e w' => e = .returned (.bool true) ∧ w = w' := by
  go_enter Tryz.func114, Tryz.ntmps114
  go_wp2
  go_ret
  exact ⟨rfl, rfl⟩

set_option maxHeartbeats 400000 in
theorem isRole_no (a : Option Addr) (n cap : Nat) (i : Int) (w : World) (h : ¬ (0 ≤ i ∧ i < n)) :
    Calls Tryz.prog 114 #[.slice a n cap, .int .i64 i] w fun e w' => e = .returned (.bool false) ∧ w = w' := by
  by_cases h0 : 0 ≤ i
  · have h1 : ¬ i < n := by omega
    clear h
    go_enter Tryz.func114, Tryz.ntmps114
    go_wp2
    go_ret
    exact ⟨rfl, rfl⟩
  · clear h
    go_enter Tryz.func114, Tryz.ntmps114
    go_wp2
    go_ret
    exact ⟨rfl, rfl⟩

set_option maxHeartbeats 400000 in
theorem check_valid (a : Option Addr) (n cap : Nat) (z : Nat → Int) (w : World) (hs : Sl w a n z) (h8 : n ≤ 8) (hz : ∀ k, k < n → 0 ≤ z k ∧ z k < 2 ^ k) :
    Calls Tryz.prog 95 #[.slice a n cap] w fun e w' => e = .returned (.int .i64 0) ∧ w = w' := by
  have h8' : ¬ (8 : Int) < n := by omega
  go_enter Tryz.func95, Tryz.ntmps95
  go_wp2
  go_loop [10] (fun i => ∃ k : Nat, k ≤ n ∧ i = .int .i64 k) (fun i => n - (intOf i).toNat)
  case atStart => exact ⟨0, Nat.zero_le _, rfl⟩
  case round =>
    obtain ⟨k, hk, rfl⟩ := hrel
    by_cases hlt : k < n
    · obtain ⟨b, off, rfl, hc⟩ := hs k hlt
      obtain ⟨z0, z1⟩ := hz k hlt
      have g1 : ¬ z k < 0 := by omega
      have g2 : ¬ wrap64 ((2 : Int) ^ k) ≤ z k := by
        rw [shl_one (by omega)]
        simp
        omega
      clear hz hs z0 z1
      go_wp2
      go_round
      case rel => exact ⟨k + 1, by omega, by go_num⟩
      case measure => simp [intOf]; omega
    · go_wp2
      go_ret
      exact ⟨rfl, rfl⟩

set_option maxHeartbeats 400000 in
theorem check_long (a : Option Addr) (n cap : Nat) (w : World) (h8 : 8 < n) (hm : n ≤ maxLen) :
    Calls Tryz.prog 95 #[.slice a n cap] w fun e w' => e = .returned (.int .i64 2) ∧ w = w' := by
  have h8' : (8 : Int) < n := by omega
  go_enter Tryz.func95, Tryz.ntmps95
  go_wp2
  go_ret
  exact ⟨rfl, rfl⟩

/-- the first that may not be -/
theorem check_bad1 (a : Option Addr) (n cap : Nat) (z : Nat → Int) (w : World) (hs : Sl w a n z) (h8 : n ≤ 8) (j : Nat) (hj : j < n) (hz : ∀ k, k < j → 0 ≤ z k ∧ z k < 2 ^ k) (hbad : ¬ (0 ≤ z j ∧ z j < 2 ^ j)) :
    Calls Tryz.prog 95 #[.slice a n cap] w fun e w' => e = .returned (.int .i64 1) ∧ w = w' := by
  have h8' : ¬ (8 : Int) < n := by omega
  go_enter Tryz.func95, Tryz.ntmps95
  go_wp2
  go_loop [10] (fun i => ∃ k : Nat, k ≤ j ∧ i = .int .i64 k) (fun i => n - (intOf i).toNat)
  case atStart => exact ⟨0, Nat.zero_le _, rfl⟩
  case round =>
    obtain ⟨k, hk, rfl⟩ := hrel
    have hlt : k < n := by omega
    obtain ⟨b, off, rfl, hc⟩ := hs k hlt
    by_cases hkj : k < j
    · obtain ⟨z0, z1⟩ := hz k hkj
      have g1 : ¬ z k < 0 := by omega
      have g2 : ¬ wrap64 ((2 : Int) ^ k) ≤ z k := by
        rw [shl_one (by omega)]
        simp
        omega
      clear hz hs z0 z1 hbad
      go_wp2
      go_round
      case rel => exact ⟨k + 1, by omega, by go_num⟩
      case measure => simp [intOf]; omega
    · obtain rfl : k = j := by omega
      by_cases g1 : z k < 0
      · clear hz hs hbad
        go_wp2
        go_ret
        exact ⟨rfl, rfl⟩
      · have g2 : wrap64 ((2 : Int) ^ k) ≤ z k := by
          rw [shl_one (by omega)]
          simp
          omega
        clear hz hs hbad
        go_wp2
        go_ret
        exact ⟨rfl, rfl⟩

theorem SlV.check {w : World} {a : Option Addr} {n : Nat} {u : Nat → Nat} (h : SlV w a n u) (cap : Nat) :
    Calls Tryz.prog 95 #[.slice a n cap] w fun e w' => e = .returned (.int .i64 0) ∧ w = w' :=
  check_valid a n cap _ w h.1 h.2.1 fun k hk => ⟨Int.natCast_nonneg _, cast_lt_pow (h.2.2 k hk)⟩

set_option maxHeartbeats 400000 in
theorem checkRole_yes {a : Option Addr} {n : Nat} {u : Nat → Nat} (cap i : Nat) (w : World) (h : SlV w a n u) (hi : i < n) :
    Calls Tryz.prog 71 #[.slice a n cap, .int .i64 i] w fun e w' => e = .returned (.int .i64 0) ∧ w = w' := by
  go_enter Tryz.func71, Tryz.ntmps71
  go_wp2_with fail
  refine (h.check cap).mono ?_
  rintro e w' ⟨rfl, rfl⟩
  go_wp2_with fail
  refine (isRole_yes a n cap i _ (by omega) (by omega)).mono ?_
  rintro e w' ⟨rfl, rfl⟩
  go_wp2_with fail
  go_ret
  exact ⟨rfl, rfl⟩

set_option maxHeartbeats 400000 in
theorem checkRole_none {a : Option Addr} {n : Nat} {u : Nat → Nat} (cap : Nat) (i : Int) (w : World) (h : SlV w a n u) (hi : ¬ (0 ≤ i ∧ i < n)) :
    Calls Tryz.prog 71 #[.slice a n cap, .int .i64 i] w fun e w' => e = .returned (.int .i64 4) ∧ w = w' := by
  go_enter Tryz.func71, Tryz.ntmps71
  go_wp2_with fail
  refine (h.check cap).mono ?_
  rintro e w' ⟨rfl, rfl⟩
  go_wp2_with fail
  refine (isRole_no a n cap i _ hi).mono ?_
  rintro e w' ⟨rfl, rfl⟩
  go_wp2_with fail
  go_ret
  exact ⟨rfl, rfl⟩

/-- .. of roles that may not be: Check's error -/
theorem checkRole_bad {a : Option Addr} {n cap : Nat} (i c : Int) (w : World) (hc : c = 1 ∨ c = 2) (h : ∀ w, Calls Tryz.prog 95 #[.slice a n cap] w fun e w' => e = .returned (.int .i64 c) ∧ w = w') :
    Calls Tryz.prog 71 #[.slice a n cap, .int .i64 i] w fun e w' => e = .returned (.int .i64 c) ∧ w = w' := by
  rcases hc with rfl | rfl
  all_goals
    go_enter Tryz.func71, Tryz.ntmps71
    go_wp2_with fail
    refine (h _).mono ?_
    rintro e w' ⟨rfl, rfl⟩
    go_wp2_with fail
    go_ret
    exact ⟨rfl, rfl⟩

set_option maxHeartbeats 400000 in
theorem all_valid {a : Option Addr} {n : Nat} {u : Nat → Nat} (cap i : Nat) (w : World) (h : SlV w a n u) (hi : i < n) :
    Calls Tryz.prog 26 #[.slice a n cap, .int .i64 i] w fun e w' => e = .returned (.tuple #[.int .i64 (allU u i : Nat), .int .i64 0]) ∧ w = w' := by
  have hn := h.2.1
  obtain ⟨p, hp⟩ : ∃ p : Nat, Hid (p = 2 ^ i) := ⟨_, rfl⟩
  have hsh : Hid (wrap64 ((2 : Int) ^ i) = (p : Int)) := by
    have := shl_one (k := i) (by omega)
    rw [← hp.out] at this
    exact this
  go_enter Tryz.func26, Tryz.ntmps26
  go_wp2_with fail
  refine (checkRole_yes cap i _ h hi).mono ?_
  rintro e w' ⟨rfl, rfl⟩
  go_wp2_with fail
  rw [hsh.out]
  go_loop [7, 8] (fun m k => ∃ (x : Nat) (l : Nat), l ≤ i + 1 ∧ k = .int .i64 ((l : Int) - 1) ∧ m = .int .i64 x ∧ x < 256 ∧ allN u l x = allU u i) (fun _ k => (intOf k + 1).toNat)
  case atStart => exact ⟨p, i + 1, Nat.le_refl _, by go_num, rfl, by rw [hp.out]; exact pow_lt_256 (by omega), by rw [hp.out]; rfl⟩
  case round =>
    obtain ⟨x, l, hl, rfl, rfl, hx, hr⟩ := hrel
    cases l with
    | zero =>
      have hxr : Hid (x = allU u i) := hr
      clear hr
      rw [show ((0 : Nat) : Int) - 1 = -1 from rfl]
      go_wp2
      go_ret2
      exact ⟨by rw [← hxr.out]; rfl, rfl⟩
    | succ k =>
      have hkn : k < n := by omega
      obtain ⟨b, off, rfl, hc⟩ := h.1 k hkn
      have hu := h.2.2 k hkn
      have hu2 : u k < 256 := Nat.lt_trans hu (pow_lt_256 (by omega))
      have H : Hid (bits .or .i64 (x : Int) (u k : Int) = ((x ||| u k : Nat) : Int)) := i64_or x (u k) (by omega) (by omega)
      rw [show ((k + 1 : Nat) : Int) - 1 = (k : Int) by omega]
      have hr' : Hid (allN u (k + 1) x = allU u i) := hr
      clear hr hsh
      by_cases hb : x.testBit k = true
      · go_wp2_with (go_at_call 72; refine (has_any x k _ hx (by omega)).mono ?_; rintro e w' ⟨rfl, rfl⟩)
        go_round
        case rel =>
          refine ⟨x ||| u k, k, by omega, rfl, by rw [H.out], Nat.or_lt_two_pow (n := 8) hx hu2, ?_⟩
          rw [← hr'.out, allN, if_pos hb]
        case measure => simp [intOf]
      · have hb' : x.testBit k = false := by simpa using hb
        go_wp2_with (go_at_call 72; refine (has_any x k _ hx (by omega)).mono ?_; rintro e w' ⟨rfl, rfl⟩)
        go_round
        case rel =>
          refine ⟨x, k, by omega, rfl, rfl, hx, ?_⟩
          rw [← hr'.out, allN, if_neg hb]
        case measure => simp [intOf]

set_option maxHeartbeats 400000 in
/-- the error of checkRole is All's -/
theorem all_err {a : Option Addr} {n cap : Nat} (i c : Int) (w : World) (hc : c = 1 ∨ c = 2 ∨ c = 4) (h : Calls Tryz.prog 71 #[.slice a n cap, .int .i64 i] w fun e w' => e = .returned (.int .i64 c) ∧ w = w') :
    Calls Tryz.prog 26 #[.slice a n cap, .int .i64 i] w fun e w' => e = .returned (.tuple #[.int .i64 0, .int .i64 c]) ∧ w = w' := by
  rcases hc with rfl | rfl | rfl
  all_goals
    go_enter Tryz.func26, Tryz.ntmps26
    go_wp2_with fail
    refine h.mono ?_
    rintro e w' ⟨rfl, rfl⟩
    go_wp2_with fail
    go_ret2
    exact ⟨rfl, rfl⟩
end Go.Proofs.YteimdhkajbldjaaGreat
namespace Go.Proofs.YteimdhkajbldjaaGreat
open Go.RowKit

set_option maxHeartbeats 400000 in
theorem check_ok (l c : Int) (w : World) (h1 : 0 ≤ l) (h2 : l ≤ 3) (h3 : 0 ≤ c) (h4 : c ≤ 255) :
    Calls Tryz.prog 126 #[.agg #[.int .i64 l, .int .i64 c]] w fun e w' => e = .returned (.int .i64 0) ∧ Below w.heap.size w w' ∧ w'.heap.size = w.heap.size + 1 := by
  have k1 : ¬ l < 0 := by omega
  have k2 : ¬ 3 < l := by omega
  have k4 : c < 256 := by omega
  go_enter Tryz.func126, Tryz.ntmps126
  go_wp2
  all_goals go_ret
  all_goals exact ⟨rfl, by go_grown, by simp⟩

set_option maxHeartbeats 400000 in
theorem check_bad (l c : Int) (w : World) (h : ¬ (0 ≤ l ∧ l ≤ 3 ∧ 0 ≤ c ∧ c ≤ 255)) :
    Calls Tryz.prog 126 #[.agg #[.int .i64 l, .int .i64 c]] w fun e w' => e = .returned (.int .i64 1) ∧ Below w.heap.size w w' ∧ w'.heap.size = w.heap.size + 1 := by
  by_cases h1 : l < 0
  · clear h
    go_enter Tryz.func126, Tryz.ntmps126
    go_wp2
    all_goals go_ret
    all_goals exact ⟨rfl, by go_grown, by simp⟩
  · by_cases h2 : 3 < l
    · clear h
      go_enter Tryz.func126, Tryz.ntmps126
      go_wp2
      all_goals go_ret
      all_goals exact ⟨rfl, by go_grown, by simp⟩
    · by_cases h3 : 0 ≤ c
      · have h4 : ¬ c < 256 := by omega
        clear h
        go_enter Tryz.func126, Tryz.ntmps126
        go_wp2
        all_goals go_ret
        all_goals exact ⟨rfl, by go_grown, by simp⟩
      · clear h
        go_enter Tryz.func126, Tryz.ntmps126
        go_wp2
        all_goals go_ret
        all_goals exact ⟨rfl, by go_grown, by simp⟩
end Go.Proofs.YteimdhkajbldjaaGreat
namespace Go.Proofs.YteimdhkajbldjaaGreat
open Go.RowKit

theorem errN_keep {rs : Nat → RuleL} {k : Nat} {v : Int} (h : errN rs k = v) (hv : v ≠ 0) : ∀ {n : Nat}, k ≤ n → errN rs n = v
  | 0, hn => by
    obtain rfl : k = 0 := by omega
    exact h
  | n + 1, hn => by
    by_cases e : k = n + 1
    · subst e
      exact h
    · have ih := errN_keep h hv (n := n) (by omega)
      unfold errN
      rw [if_neg (by rw [ih]; exact hv), ih]

set_option maxHeartbeats 400000 in
theorem isBelow_yes (x n : Int) (w : World) (h : 0 ≤ x ∧ x < n) :
    Calls Tryz.prog 128 #[.int .i64 x, .int .i64 n] w fun e w' => e = .returned (.bool true) ∧ w = w' := by
  obtain ⟨h0, h1⟩ := h
  go_enter Tryz.func128, Tryz.ntmps128
  go_wp2
  go_ret
  exact ⟨rfl, rfl⟩
set_option maxHeartbeats 400000 in
theorem isBelow_no (x n : Int) (w : World) (h : ¬ (0 ≤ x ∧ x < n)) :
    Calls Tryz.prog 128 #[.int .i64 x, .int .i64 n] w fun e w' => e = .returned (.bool false) ∧ w = w' := by
  by_cases h0 : 0 ≤ x
  · have h1 : ¬ x < n := by omega
    clear h
    go_enter Tryz.func128, Tryz.ntmps128
    go_wp2
    go_ret
    exact ⟨rfl, rfl⟩
  · clear h
    go_enter Tryz.func128, Tryz.ntmps128
    go_wp2
    go_ret
    exact ⟨rfl, rfl⟩
set_option maxHeartbeats 400000 in
theorem isOrAny_yes (x n : Int) (w : World) (h : -1 ≤ x ∧ x < n) :
    Calls Tryz.prog 152 #[.int .i64 x, .int .i64 n] w fun e w' => e = .returned (.bool true) ∧ w = w' := by
  by_cases h0 : x = -1
  · subst h0
    clear h
    go_enter Tryz.func152, Tryz.ntmps152
    go_wp2_with fail
    go_ret
    exact ⟨rfl, rfl⟩
  · have h1 : (x == -1) = false := by simp [h0]
    have H : Hid (0 ≤ x ∧ x < n) := by show _ ∧ _; omega
    clear h h0
    go_enter Tryz.func152, Tryz.ntmps152
    go_wp2_with fail
    refine (isBelow_yes x n _ H.out).mono ?_
    rintro e w' ⟨rfl, rfl⟩
    go_wp2_with fail
    go_ret
    exact ⟨rfl, rfl⟩
set_option maxHeartbeats 400000 in
theorem isOrAny_no (x n : Int) (w : World) (h : ¬ (-1 ≤ x ∧ x < n)) (hn : 0 ≤ n) :
    Calls Tryz.prog 152 #[.int .i64 x, .int .i64 n] w fun e w' => e = .returned (.bool false) ∧ w = w' := by
  have h1 : (x == -1) = false := by simp; omega
  have H : Hid (¬ (0 ≤ x ∧ x < n)) := by show ¬ _; omega
  clear h
  go_enter Tryz.func152, Tryz.ntmps152
  go_wp2_with fail
  refine (isBelow_no x n _ H.out).mono ?_
  rintro e w' ⟨rfl, rfl⟩
  go_wp2_with fail
  go_ret
  exact ⟨rfl, rfl⟩
set_option maxHeartbeats 400000 in
theorem isCats_yes (c : Int) (w : World) (h : 0 ≤ c ∧ c ≤ 255) :
    Calls Tryz.prog 153 #[.int .i64 c] w fun e w' => e = .returned (.bool true) ∧ Below w.heap.size w w' ∧ w'.heap.size = w.heap.size + 1 := by
  have H := Lib.hid h
  clear h
  go_enter Tryz.func153, Tryz.ntmps153
  go_wp2_with fail
  refine (check_ok 0 c _ (by omega) (by omega) H.out.1 H.out.2).mono ?_
  rintro e w1 ⟨rfl, hb1, hz1⟩
  go_wp2_with fail
  go_ret
  exact ⟨rfl, hb1, hz1⟩
set_option maxHeartbeats 400000 in
theorem isCats_no (c : Int) (w : World) (h : ¬ (0 ≤ c ∧ c ≤ 255)) :
    Calls Tryz.prog 153 #[.int .i64 c] w fun e w' => e = .returned (.bool false) ∧ Below w.heap.size w w' ∧ w'.heap.size = w.heap.size + 1 := by
  have H := Lib.hid h
  clear h
  go_enter Tryz.func153, Tryz.ntmps153
  go_wp2_with fail
  refine (check_bad 0 c _ (fun h => H.out ⟨h.2.2.1, h.2.2.2⟩)).mono ?_
  rintro e w1 ⟨rfl, hb1, hz1⟩
  go_wp2_with fail
  go_ret
  exact ⟨rfl, hb1, hz1⟩
set_option maxHeartbeats 400000 in
theorem one_ok (r : RuleL) (w : World) (h : r.argOk) (h2 : r.frm < r.til) :
    Calls Tryz.prog 127 #[r.v] w fun e w' => e = .returned (.int .i64 0) ∧ Below w.heap.size w w' := by
  obtain ⟨hr, hy, hf, ht, hc⟩ := h
  have hf' : ¬ r.frm < 0 := by omega
  have ht' : ¬ 1000 < r.til := by omega
  have HR := Lib.hid hr; have HY := Lib.hid hy; have HC := Lib.hid hc
  clear hr hy hf ht hc
  have h2' : ¬ r.til ≤ r.frm := by omega
  have hA : Below w.heap.size w (w.alloc (.cells #[.int .i64 r.role, .int .i64 r.why, .int .i64 r.frm, .int .i64 r.til, .int .i64 r.cats, .bool r.allow] 59)) := (Below.refl _ _).alloc (Nat.le_refl _) _
  go_enter Tryz.func127, Tryz.ntmps127
  go_wp2_with fail
  refine (isOrAny_yes r.role 8 _ (by have := HR.out; omega)).mono ?_
  rintro e w' ⟨rfl, rfl⟩
  go_wp2_with fail
  refine (isOrAny_yes r.why 4 _ (by have := HY.out; omega)).mono ?_
  rintro e w' ⟨rfl, rfl⟩
  go_wp2_with fail
  refine (isCats_yes r.cats _ HC.out).mono ?_
  rintro e w1 ⟨rfl, hb1, hz1⟩
  have hB1 : Below w.heap.size w w1 := hA.trans (hb1.mono (by simp))
  obtain ⟨hc1, hf1⟩ := bcell hb1
  go_wp2_with fail
  go_ret
  exact ⟨rfl, hB1⟩
set_option maxHeartbeats 400000 in
theorem one_form (r : RuleL) (w : World) (h : r.argOk) (h2 : ¬ r.frm < r.til) :
    Calls Tryz.prog 127 #[r.v] w fun e w' => e = .returned (.int .i64 3) ∧ Below w.heap.size w w' := by
  obtain ⟨hr, hy, hf, ht, hc⟩ := h
  have hf' : ¬ r.frm < 0 := by omega
  have ht' : ¬ 1000 < r.til := by omega
  have HR := Lib.hid hr; have HY := Lib.hid hy; have HC := Lib.hid hc
  clear hr hy hf ht hc
  have h2' : r.til ≤ r.frm := by omega
  clear h2
  have hA : Below w.heap.size w (w.alloc (.cells #[.int .i64 r.role, .int .i64 r.why, .int .i64 r.frm, .int .i64 r.til, .int .i64 r.cats, .bool r.allow] 59)) := (Below.refl _ _).alloc (Nat.le_refl _) _
  go_enter Tryz.func127, Tryz.ntmps127
  go_wp2_with fail
  refine (isOrAny_yes r.role 8 _ (by have := HR.out; omega)).mono ?_
  rintro e w' ⟨rfl, rfl⟩
  go_wp2_with fail
  refine (isOrAny_yes r.why 4 _ (by have := HY.out; omega)).mono ?_
  rintro e w' ⟨rfl, rfl⟩
  go_wp2_with fail
  refine (isCats_yes r.cats _ HC.out).mono ?_
  rintro e w1 ⟨rfl, hb1, hz1⟩
  have hB1 : Below w.heap.size w w1 := hA.trans (hb1.mono (by simp))
  obtain ⟨hc1, hf1⟩ := bcell hb1
  go_wp2_with fail
  go_ret
  exact ⟨rfl, hB1⟩
set_option maxHeartbeats 400000 in
theorem one_role (r : RuleL) (w : World) (h : ¬ (-1 ≤ r.role ∧ r.role ≤ 7)) :
    Calls Tryz.prog 127 #[r.v] w fun e w' => e = .returned (.int .i64 1) ∧ Below w.heap.size w w' := by
  have H := Lib.hid h
  clear h
  have hA : Below w.heap.size w (w.alloc (.cells #[.int .i64 r.role, .int .i64 r.why, .int .i64 r.frm, .int .i64 r.til, .int .i64 r.cats, .bool r.allow] 59)) := (Below.refl _ _).alloc (Nat.le_refl _) _
  go_enter Tryz.func127, Tryz.ntmps127
  go_wp2_with fail
  refine (isOrAny_no r.role 8 _ (by have := H.out; omega) (by omega)).mono ?_
  rintro e w' ⟨rfl, rfl⟩
  go_wp2_with fail
  go_ret
  exact ⟨rfl, hA⟩
set_option maxHeartbeats 400000 in
theorem one_why (r : RuleL) (w : World) (hr : -1 ≤ r.role ∧ r.role ≤ 7) (h : ¬ (-1 ≤ r.why ∧ r.why ≤ 3)) :
    Calls Tryz.prog 127 #[r.v] w fun e w' => e = .returned (.int .i64 1) ∧ Below w.heap.size w w' := by
  have H := Lib.hid h
  clear h
  have HR := Lib.hid hr
  clear hr
  have hA : Below w.heap.size w (w.alloc (.cells #[.int .i64 r.role, .int .i64 r.why, .int .i64 r.frm, .int .i64 r.til, .int .i64 r.cats, .bool r.allow] 59)) := (Below.refl _ _).alloc (Nat.le_refl _) _
  go_enter Tryz.func127, Tryz.ntmps127
  go_wp2_with fail
  refine (isOrAny_yes r.role 8 _ (by have := HR.out; omega)).mono ?_
  rintro e w' ⟨rfl, rfl⟩
  go_wp2_with fail
  refine (isOrAny_no r.why 4 _ (by have := H.out; omega) (by omega)).mono ?_
  rintro e w' ⟨rfl, rfl⟩
  go_wp2_with fail
  go_ret
  exact ⟨rfl, hA⟩
set_option maxHeartbeats 400000 in
theorem one_frm (r : RuleL) (w : World) (hr : -1 ≤ r.role ∧ r.role ≤ 7) (hy : -1 ≤ r.why ∧ r.why ≤ 3) (h : r.frm < 0) :
    Calls Tryz.prog 127 #[r.v] w fun e w' => e = .returned (.int .i64 1) ∧ Below w.heap.size w w' := by
  have HR := Lib.hid hr; have HY := Lib.hid hy
  clear hr hy
  have hA : Below w.heap.size w (w.alloc (.cells #[.int .i64 r.role, .int .i64 r.why, .int .i64 r.frm, .int .i64 r.til, .int .i64 r.cats, .bool r.allow] 59)) := (Below.refl _ _).alloc (Nat.le_refl _) _
  go_enter Tryz.func127, Tryz.ntmps127
  go_wp2_with fail
  refine (isOrAny_yes r.role 8 _ (by have := HR.out; omega)).mono ?_
  rintro e w' ⟨rfl, rfl⟩
  go_wp2_with fail
  refine (isOrAny_yes r.why 4 _ (by have := HY.out; omega)).mono ?_
  rintro e w' ⟨rfl, rfl⟩
  go_wp2_with fail
  go_ret
  exact ⟨rfl, hA⟩
set_option maxHeartbeats 400000 in
theorem one_til (r : RuleL) (w : World) (hr : -1 ≤ r.role ∧ r.role ≤ 7) (hy : -1 ≤ r.why ∧ r.why ≤ 3) (hf : ¬ r.frm < 0) (h : 1000 < r.til) :
    Calls Tryz.prog 127 #[r.v] w fun e w' => e = .returned (.int .i64 1) ∧ Below w.heap.size w w' := by
  have HR := Lib.hid hr; have HY := Lib.hid hy
  clear hr hy
  have hA : Below w.heap.size w (w.alloc (.cells #[.int .i64 r.role, .int .i64 r.why, .int .i64 r.frm, .int .i64 r.til, .int .i64 r.cats, .bool r.allow] 59)) := (Below.refl _ _).alloc (Nat.le_refl _) _
  go_enter Tryz.func127, Tryz.ntmps127
  go_wp2_with fail
  refine (isOrAny_yes r.role 8 _ (by have := HR.out; omega)).mono ?_
  rintro e w' ⟨rfl, rfl⟩
  go_wp2_with fail
  refine (isOrAny_yes r.why 4 _ (by have := HY.out; omega)).mono ?_
  rintro e w' ⟨rfl, rfl⟩
  go_wp2_with fail
  go_ret
  exact ⟨rfl, hA⟩
set_option maxHeartbeats 400000 in
theorem one_cats (r : RuleL) (w : World) (hr : -1 ≤ r.role ∧ r.role ≤ 7) (hy : -1 ≤ r.why ∧ r.why ≤ 3) (hf : ¬ r.frm < 0) (ht : ¬ 1000 < r.til) (h : ¬ (0 ≤ r.cats ∧ r.cats ≤ 255)) :
    Calls Tryz.prog 127 #[r.v] w fun e w' => e = .returned (.int .i64 1) ∧ Below w.heap.size w w' := by
  have H := Lib.hid h
  clear h
  have HR := Lib.hid hr; have HY := Lib.hid hy
  clear hr hy
  have hA : Below w.heap.size w (w.alloc (.cells #[.int .i64 r.role, .int .i64 r.why, .int .i64 r.frm, .int .i64 r.til, .int .i64 r.cats, .bool r.allow] 59)) := (Below.refl _ _).alloc (Nat.le_refl _) _
  go_enter Tryz.func127, Tryz.ntmps127
  go_wp2_with fail
  refine (isOrAny_yes r.role 8 _ (by have := HR.out; omega)).mono ?_
  rintro e w' ⟨rfl, rfl⟩
  go_wp2_with fail
  refine (isOrAny_yes r.why 4 _ (by have := HY.out; omega)).mono ?_
  rintro e w' ⟨rfl, rfl⟩
  go_wp2_with fail
  refine (isCats_no r.cats _ H.out).mono ?_
  rintro e w1 ⟨rfl, hb1, hz1⟩
  have hB1 : Below w.heap.size w w1 := hA.trans (hb1.mono (by simp))
  obtain ⟨hc1, hf1⟩ := bcell hb1
  go_wp2_with fail
  go_ret
  exact ⟨rfl, hB1⟩

theorem one_any (r : RuleL) (w : World) :
    Calls Tryz.prog 127 #[r.v] w fun e w' => e = .returned (.int .i64 r.err) ∧ Below w.heap.size w w' := by
  by_cases hr : -1 ≤ r.role ∧ r.role ≤ 7
  · by_cases hy : -1 ≤ r.why ∧ r.why ≤ 3
    · by_cases hf : r.frm < 0
      · rw [RuleL.err_arg (fun h => by have := h.2.2.1; omega)]
        exact one_frm r w hr hy hf
      · by_cases ht : 1000 < r.til
        · rw [RuleL.err_arg (fun h => by have := h.2.2.2.1; omega)]
          exact one_til r w hr hy hf ht
        · by_cases hc : 0 ≤ r.cats ∧ r.cats ≤ 255
          · have ha : r.argOk := ⟨hr, hy, by omega, by omega, hc⟩
            by_cases h2 : r.frm < r.til
            · rw [RuleL.err_ok ⟨ha, h2⟩]
              exact one_ok r w ha h2
            · rw [RuleL.err_form ha h2]
              exact one_form r w ha h2
          · rw [RuleL.err_arg (fun h => hc h.2.2.2.2)]
            exact one_cats r w hr hy hf ht hc
    · rw [RuleL.err_arg (fun h => hy h.2.1)]
      exact one_why r w hr hy
  · rw [RuleL.err_arg (fun h => hr h.1)]
    exact one_role r w hr

set_option maxRecDepth 100000 in
set_option maxHeartbeats 1000000 in
theorem rules_any (a : Option Addr) (n cap : Nat) (rs : Nat → RuleL) (w : World) (hs : SlR w a n rs) (hm : n ≤ maxLen) :
    Calls Tryz.prog 97 #[.slice a n cap] w fun e w' => e = .returned (.int .i64 (rulesErr n rs)) ∧ Below w.heap.size w w' := by
  unfold maxLen at hm
  by_cases hn : 20 < n
  · have hr : Hid (rulesErr n rs = 2) := if_pos hn
    have hn' : (20 : Int) < n := by omega
    go_enter Tryz.func97, Tryz.ntmps97
    go_wp2_with fail
    go_ret
    exact ⟨ret_int hr.out.symm, Below.refl _ _⟩
  · have hr : Hid (rulesErr n rs = errN rs n) := if_neg hn
    have hn' : ¬ (20 : Int) < n := by omega
    have HS := Lib.hid hs
    clear hs
    go_enter Tryz.func97, Tryz.ntmps97
    go_wp2_with fail
    go_loopw [11] (fun s wr => ∃ k : Nat, k ≤ n ∧ s = .int .i64 k ∧ Hid (errN rs k = 0) ∧ Below w.heap.size w wr) (fun s _ => n - (intOf s).toNat)
    case atStart => exact ⟨0, Nat.zero_le _, rfl, rfl, Below.refl _ _⟩
    case round =>
      obtain ⟨k, hk, rfl, hE, hB⟩ := hrel
      by_cases hlt : k < n
      · obtain ⟨b, off, rfl, hc⟩ := (HS.out.below hB) k hlt
        have hblt := cell_lt hc.1
        obtain ⟨c0, c1, c2, c3, c4, c5⟩ := hc
        obtain ⟨v, hv⟩ : ∃ v, (rs k).err = v := ⟨_, rfl⟩
        have hv2 : v = 0 ∨ v = 1 ∨ v = 3 := by
          rw [← hv]
          by_cases h : (rs k).ok
          · exact .inl (RuleL.err_ok h)
          · exact .inr (RuleL.err_ne h)
        have HV := Lib.hid hv
        clear hv
        have hst : Hid (errN rs (k + 1) = v) := by show errN rs (k + 1) = v; unfold errN; rw [if_pos hE.out]; exact HV.out
        go_wp2_with fail
        refine (one_any (rs k) _).mono ?_
        rintro e w1 ⟨rfl, hb1⟩
        have hB1 : Below w.heap.size w w1 := (hB.alloc hB.size _).trans (hb1.mono (by have := hB.size; simp; omega))
        clear c0 c1 c2 c3 c4 c5 hb1
        rw [HV.out]
        rcases hv2 with rfl | rfl | rfl
        · go_wp2_with fail
          go_roundw
          case rel => exact ⟨k + 1, by omega, by go_num, hst, hB1⟩
          case measure => simp [intOf]; omega
        · have hfin : Hid (rulesErr n rs = 1) := by show _ = _; rw [hr.out]; exact errN_keep hst.out (by decide) (by omega)
          go_wp2_with fail
          go_ret
          exact ⟨ret_int hfin.out.symm, hB1⟩
        · have hfin : Hid (rulesErr n rs = 3) := by show _ = _; rw [hr.out]; exact errN_keep hst.out (by decide) (by omega)
          go_wp2_with fail
          go_ret
          exact ⟨ret_int hfin.out.symm, hB1⟩
      · obtain rfl : k = n := by omega
        have hfin : Hid (rulesErr k rs = 0) := by show _ = _; rw [hr.out]; exact hE.out
        go_wp2_with fail
        go_ret
        exact ⟨ret_int hfin.out.symm, hB⟩
set_option maxHeartbeats 400000 in
theorem who_yes (x : WhoL) (w : World) (hr : 0 ≤ x.role ∧ x.role ≤ 7) (hy : 0 ≤ x.why ∧ x.why ≤ 3) (ht : 0 ≤ x.time ∧ x.time ≤ 999) :
    Calls Tryz.prog 98 #[x.v] w fun e w' => e = .returned (.bool true) ∧ Below w.heap.size w w' := by
  have hA : Below w.heap.size w (w.alloc (.cells #[.int .i64 x.role, .int .i64 x.why, .int .i64 x.time] 30)) := (Below.refl _ _).alloc (Nat.le_refl _) _
  have HR := Lib.hid hr; have HY := Lib.hid hy; have HT := Lib.hid ht
  clear hr hy ht
  go_enter Tryz.func98, Tryz.ntmps98
  go_wp2_with fail
  refine (isBelow_yes x.role 8 _ (by have := HR.out; omega)).mono ?_
  rintro e w' ⟨rfl, rfl⟩
  go_wp2_with fail
  refine (isBelow_yes x.why 4 _ (by have := HY.out; omega)).mono ?_
  rintro e w' ⟨rfl, rfl⟩
  go_wp2_with fail
  refine (isBelow_yes x.time 1000 _ (by have := HT.out; omega)).mono ?_
  rintro e w' ⟨rfl, rfl⟩
  go_wp2_with fail
  go_ret
  exact ⟨rfl, hA⟩
set_option maxHeartbeats 400000 in
theorem who_time (x : WhoL) (w : World) (hr : 0 ≤ x.role ∧ x.role ≤ 7) (hy : 0 ≤ x.why ∧ x.why ≤ 3) (ht : ¬ (0 ≤ x.time ∧ x.time ≤ 999)) :
    Calls Tryz.prog 98 #[x.v] w fun e w' => e = .returned (.bool false) ∧ Below w.heap.size w w' := by
  have hA : Below w.heap.size w (w.alloc (.cells #[.int .i64 x.role, .int .i64 x.why, .int .i64 x.time] 30)) := (Below.refl _ _).alloc (Nat.le_refl _) _
  have HR := Lib.hid hr; have HY := Lib.hid hy; have HT := Lib.hid ht
  clear hr hy ht
  go_enter Tryz.func98, Tryz.ntmps98
  go_wp2_with fail
  refine (isBelow_yes x.role 8 _ (by have := HR.out; omega)).mono ?_
  rintro e w' ⟨rfl, rfl⟩
  go_wp2_with fail
  refine (isBelow_yes x.why 4 _ (by have := HY.out; omega)).mono ?_
  rintro e w' ⟨rfl, rfl⟩
  go_wp2_with fail
  refine (isBelow_no x.time 1000 _ (by have := HT.out; omega)).mono ?_
  rintro e w' ⟨rfl, rfl⟩
  go_wp2_with fail
  go_ret
  exact ⟨rfl, hA⟩
set_option maxHeartbeats 400000 in
theorem who_why (x : WhoL) (w : World) (hr : 0 ≤ x.role ∧ x.role ≤ 7) (hy : ¬ (0 ≤ x.why ∧ x.why ≤ 3)) :
    Calls Tryz.prog 98 #[x.v] w fun e w' => e = .returned (.bool false) ∧ Below w.heap.size w w' := by
  have hA : Below w.heap.size w (w.alloc (.cells #[.int .i64 x.role, .int .i64 x.why, .int .i64 x.time] 30)) := (Below.refl _ _).alloc (Nat.le_refl _) _
  have HR := Lib.hid hr; have HY := Lib.hid hy
  clear hr hy
  go_enter Tryz.func98, Tryz.ntmps98
  go_wp2_with fail
  refine (isBelow_yes x.role 8 _ (by have := HR.out; omega)).mono ?_
  rintro e w' ⟨rfl, rfl⟩
  go_wp2_with fail
  refine (isBelow_no x.why 4 _ (by have := HY.out; omega)).mono ?_
  rintro e w' ⟨rfl, rfl⟩
  go_wp2_with fail
  go_ret
  exact ⟨rfl, hA⟩
set_option maxHeartbeats 400000 in
theorem who_role (x : WhoL) (w : World) (hr : ¬ (0 ≤ x.role ∧ x.role ≤ 7)) :
    Calls Tryz.prog 98 #[x.v] w fun e w' => e = .returned (.bool false) ∧ Below w.heap.size w w' := by
  have hA : Below w.heap.size w (w.alloc (.cells #[.int .i64 x.role, .int .i64 x.why, .int .i64 x.time] 30)) := (Below.refl _ _).alloc (Nat.le_refl _) _
  have HR := Lib.hid hr
  clear hr
  go_enter Tryz.func98, Tryz.ntmps98
  go_wp2_with fail
  refine (isBelow_no x.role 8 _ (by have := HR.out; omega)).mono ?_
  rintro e w' ⟨rfl, rfl⟩
  go_wp2_with fail
  go_ret
  exact ⟨rfl, hA⟩
theorem who_any (x : WhoL) (w : World) :
    Calls Tryz.prog 98 #[x.v] w fun e w' => e = .returned (.bool (decide x.ok)) ∧ Below w.heap.size w w' := by
  by_cases hr : 0 ≤ x.role ∧ x.role ≤ 7
  · by_cases hy : 0 ≤ x.why ∧ x.why ≤ 3
    · by_cases ht : 0 ≤ x.time ∧ x.time ≤ 999
      · rw [decide_eq_true (show x.ok from ⟨hr, hy, ht⟩)]
        exact who_yes x w hr hy ht
      · rw [decide_eq_false (fun h : x.ok => ht h.2.2)]
        exact who_time x w hr hy ht
    · rw [decide_eq_false (fun h : x.ok => hy h.2.1)]
      exact who_why x w hr hy
  · rw [decide_eq_false (fun h : x.ok => hr h.1)]
    exact who_role x w hr
end Go.Proofs.YteimdhkajbldjaaGreat
namespace Go.Proofs.YteimdhkajbldjaaGreat
open Go.RowKit

theorem role_any (a : Option Addr) (n cap : Nat) (z : Nat → Int) (w : World) (hs : Sl w a n z) (hm : n ≤ maxLen) :
    Calls Tryz.prog 95 #[.slice a n cap] w fun e w' => e = .returned (.int .i64 (rolesErr n z)) ∧ w = w' := by
  unfold rolesErr
  by_cases hn : 8 < n
  · rw [if_pos hn]
    exact check_long a n cap w hn hm
  · rw [if_neg hn]
    rcases roles_split z n with h | ⟨j, h1, h2, h3⟩
    · rw [rolesN_ok h]
      exact check_valid a n cap z w hs (by omega) h
    · rw [rolesN_bad h2 h3 h1]
      exact check_bad1 a n cap z w hs (by omega) j h1 h2 h3

set_option maxHeartbeats 1000000 in
theorem ask_any (a : Option Addr) (m cap : Nat) (z : Nat → Int) (b : Option Addr) (n capb : Nat) (rs : Nat → RuleL) (x : WhoL) (w : World) (hu : Sl w a m z) (hm : m ≤ maxLen) (hs : SlR w b n rs) (hn : n ≤ maxLen) :
    Calls Tryz.prog 52 #[.slice a m cap, .slice b n capb, x.v] w fun e w' => e = .returned (.int .i64 (askE m z n rs x)) ∧ Below w.heap.size w w' := by
  have hA : Below w.heap.size w (w.alloc (.cells #[.int .i64 x.role, .int .i64 x.why, .int .i64 x.time] 30)) := (Below.refl _ _).alloc (Nat.le_refl _) _
  have HU := Lib.hid (hu.below hA); have HS := Lib.hid (hs.below hA); have HM := Lib.hid hm; have HN := Lib.hid hn
  clear hu hs hm hn
  by_cases h1 : rolesErr m z = 0
  · by_cases h2 : rulesErr n rs = 0
    · have H1 := Lib.hid h1; have H2 := Lib.hid h2
      obtain ⟨ok, hok⟩ : ∃ ok, decide x.ok = ok := ⟨_, rfl⟩
      have HOK := Lib.hid hok
      have hE : Hid (askE m z n rs x = if ok then 0 else 1) := by
        show askE m z n rs x = _
        cases ok
        · exact askE_who h1 h2 (by simpa using hok)
        · exact askE_ok h1 h2 (by simpa using hok)
      clear h1 h2 hok
      cases ok
      all_goals
        go_enter Tryz.func52, Tryz.ntmps52
        go_wp2_with fail
        refine (role_any a m cap z _ HU.out HM.out).mono ?_
        rintro e w' ⟨rfl, rfl⟩
        rw [H1.out]
        go_wp2_with fail
        refine (rules_any b n capb rs _ HS.out HN.out).mono ?_
        rintro e w1 ⟨rfl, hb1⟩
        rw [H2.out]
        have hB1 : Below w.heap.size w w1 := hA.trans (hb1.mono (by simp))
        have x0 : w1.cell? ⟨w.heap.size, 0, none⟩ = some (.int .i64 x.role) := by rw [hb1.cell (by simp)]; simp
        have x1 : w1.cell? ⟨w.heap.size, 1, none⟩ = some (.int .i64 x.why) := by rw [hb1.cell (by simp)]; simp
        have x2 : w1.cell? ⟨w.heap.size, 2, none⟩ = some (.int .i64 x.time) := by rw [hb1.cell (by simp)]; simp
        clear hb1
        go_wp2_with fail
        refine (who_any x _).mono ?_
        rintro e w2 ⟨rfl, hb2⟩
        rw [HOK.out]
        go_wp2_with fail
        go_ret
        exact ⟨ret_int (by rw [hE.out]; rfl), hB1.trans (hb2.mono hB1.size)⟩
    · have hE := Lib.hid (askE_rules (x := x) h1 h2)
      have H1 := Lib.hid h1
      obtain ⟨v, hv⟩ : ∃ v, rulesErr n rs = v := ⟨_, rfl⟩
      have hcs : v = 1 ∨ v = 2 ∨ v = 3 := by have := rulesErr_cases n rs; omega
      have HV := Lib.hid hv
      clear h1 h2 hv
      rcases hcs with rfl | rfl | rfl
      all_goals
        go_enter Tryz.func52, Tryz.ntmps52
        go_wp2_with fail
        refine (role_any a m cap z _ HU.out HM.out).mono ?_
        rintro e w' ⟨rfl, rfl⟩
        rw [H1.out]
        go_wp2_with fail
        refine (rules_any b n capb rs _ HS.out HN.out).mono ?_
        rintro e w1 ⟨rfl, hb1⟩
        rw [HV.out]
        have hB1 : Below w.heap.size w w1 := hA.trans (hb1.mono (by simp))
        clear hb1
        go_wp2_with fail
        go_ret
        exact ⟨ret_int (by rw [hE.out, HV.out]), hB1⟩
  · have hE := Lib.hid (askE_roles (n := n) (rs := rs) (x := x) h1)
    obtain ⟨v, hv⟩ : ∃ v, rolesErr m z = v := ⟨_, rfl⟩
    have hcs : v = 1 ∨ v = 2 := by have := rolesErr_cases m z; omega
    have HV := Lib.hid hv
    clear h1 hv
    rcases hcs with rfl | rfl
    all_goals
      go_enter Tryz.func52, Tryz.ntmps52
      go_wp2_with fail
      refine (role_any a m cap z _ HU.out HM.out).mono ?_
      rintro e w' ⟨rfl, rfl⟩
      rw [HV.out]
      go_wp2_with fail
      go_ret
      exact ⟨ret_int (by rw [hE.out, HV.out]), hA⟩
end Go.Proofs.YteimdhkajbldjaaGreat
namespace Go.Proofs.YteimdhkajbldjaaGreat
open Go.RowKit

/-- one bit of a number, as rule.isFor asks for it -/
theorem bit_zero (M q : Nat) : (bits .and .i64 ((M : Int) / 2 ^ q) 1 == 0) = !M.testBit q := by
  have h := i64_and_any ((M : Int) / 2 ^ q) 1 1 rfl (by omega)
  have e : ((M : Int) / 2 ^ q) % 2 = ((M / 2 ^ q % 2 : Nat) : Int) := by simp
  rw [show ((1 : Nat) : Int) = 1 from rfl, show ((2 : Int) ^ 1) = 2 from rfl, e] at h
  rw [h, ← bit_eq]
  rcases Nat.mod_two_eq_zero_or_one (M / 2 ^ q) with h | h <;> rw [h] <;> rfl

set_option maxHeartbeats 1000000 in
theorem isFor_all (role why frm til cats : Int) (allow : Bool) (M : Nat) (xr xw xt : Int) (w : World) (hro : role < 0) :
    Calls Tryz.prog 53 #[.agg #[.int .i64 role, .int .i64 why, .int .i64 frm, .int .i64 til, .int .i64 cats, .bool allow], .int .i64 M, .agg #[.int .i64 xr, .int .i64 xw, .int .i64 xt]] w fun e w' => e = .returned (.bool (isForB M ⟨xr, xw, xt⟩ ⟨role, why, frm, til, cats, allow⟩)) ∧ Below w.heap.size w w' := by
  have hB : Below w.heap.size w ((w.alloc (.cells #[.int .i64 role, .int .i64 why, .int .i64 frm, .int .i64 til, .int .i64 cats, .bool allow] 59)).alloc (.cells #[.int .i64 xr, .int .i64 xw, .int .i64 xt] 30)) := ((Below.refl _ _).alloc (Nat.le_refl _) _).alloc (by simp) _
  have HB := Lib.hid hB
  clear hB
  have g1 : ¬ 0 ≤ role := by omega
  by_cases hwy : why < 0
  · have g2 : ¬ 0 ≤ why := by omega
    by_cases h6 : frm ≤ xt
    · by_cases h7 : xt < til
      · have HRES : Hid (true = isForB M ⟨xr, xw, xt⟩ ⟨role, why, frm, til, cats, allow⟩) := by show true = _; unfold isForB; simp [hro, hwy, h6, h7]
        go_enter Tryz.func53, Tryz.ntmps53
        go_wp2_with fail
        go_ret
        exact ⟨ret_bool HRES.out, HB.out⟩
      · have HRES : Hid (false = isForB M ⟨xr, xw, xt⟩ ⟨role, why, frm, til, cats, allow⟩) := by show false = _; unfold isForB; simp [hro, hwy, h6, h7]
        go_enter Tryz.func53, Tryz.ntmps53
        go_wp2_with fail
        go_ret
        exact ⟨ret_bool HRES.out, HB.out⟩
    · have HRES : Hid (false = isForB M ⟨xr, xw, xt⟩ ⟨role, why, frm, til, cats, allow⟩) := by show false = _; unfold isForB; simp [hro, hwy, h6]
      go_enter Tryz.func53, Tryz.ntmps53
      go_wp2_with fail
      go_ret
      exact ⟨ret_bool HRES.out, HB.out⟩
  · have g2 : 0 ≤ why := by omega
    by_cases hwx : why = xw
    · have g3 : (why != xw) = false := by simp [hwx]
      by_cases h6 : frm ≤ xt
      · by_cases h7 : xt < til
        · have HRES : Hid (true = isForB M ⟨xr, xw, xt⟩ ⟨role, why, frm, til, cats, allow⟩) := by show true = _; unfold isForB; simp [hro, hwy, hwx, h6, h7]
          clear hwx
          go_enter Tryz.func53, Tryz.ntmps53
          go_wp2_with fail
          go_ret
          exact ⟨ret_bool HRES.out, HB.out⟩
        · have HRES : Hid (false = isForB M ⟨xr, xw, xt⟩ ⟨role, why, frm, til, cats, allow⟩) := by show false = _; unfold isForB; simp [hro, hwy, hwx, h6, h7]
          clear hwx
          go_enter Tryz.func53, Tryz.ntmps53
          go_wp2_with fail
          go_ret
          exact ⟨ret_bool HRES.out, HB.out⟩
      · have HRES : Hid (false = isForB M ⟨xr, xw, xt⟩ ⟨role, why, frm, til, cats, allow⟩) := by show false = _; unfold isForB; simp [hro, hwy, hwx, h6]
        clear hwx
        go_enter Tryz.func53, Tryz.ntmps53
        go_wp2_with fail
        go_ret
        exact ⟨ret_bool HRES.out, HB.out⟩
    · have g3 : (why != xw) = true := by simp [hwx]
      have HRES : Hid (false = isForB M ⟨xr, xw, xt⟩ ⟨role, why, frm, til, cats, allow⟩) := by show false = _; unfold isForB; simp [hro, hwy, hwx]
      clear hwx
      go_enter Tryz.func53, Tryz.ntmps53
      go_wp2_with fail
      go_ret
      exact ⟨ret_bool HRES.out, HB.out⟩

set_option maxHeartbeats 1000000 in
theorem isFor_role (role why frm til cats : Int) (allow : Bool) (M : Nat) (xr xw xt : Int) (w : World) (q : Nat) (hq : role = q) (hM : M < 256) (hq8 : q < 8) :
    Calls Tryz.prog 53 #[.agg #[.int .i64 role, .int .i64 why, .int .i64 frm, .int .i64 til, .int .i64 cats, .bool allow], .int .i64 M, .agg #[.int .i64 xr, .int .i64 xw, .int .i64 xt]] w fun e w' => e = .returned (.bool (isForB M ⟨xr, xw, xt⟩ ⟨role, why, frm, til, cats, allow⟩)) ∧ Below w.heap.size w w' := by
  have hB : Below w.heap.size w ((w.alloc (.cells #[.int .i64 role, .int .i64 why, .int .i64 frm, .int .i64 til, .int .i64 cats, .bool allow] 59)).alloc (.cells #[.int .i64 xr, .int .i64 xw, .int .i64 xt] 30)) := ((Below.refl _ _).alloc (Nat.le_refl _) _).alloc (by simp) _
  have HB := Lib.hid hB
  clear hB
  subst hq
  have hbz := bit_zero M q
  have hn : ¬ ((q : Int) < 0) := by omega
  cases ht : M.testBit q
  · rw [ht] at hbz
    have HT := Lib.hid ht
    clear ht
    have HRES : Hid (false = isForB M ⟨xr, xw, xt⟩ ⟨(q : Int), why, frm, til, cats, allow⟩) := by show false = _; unfold isForB; simp [HT.out, hn]
    go_enter Tryz.func53, Tryz.ntmps53
    go_wp2_with fail
    go_ret
    exact ⟨ret_bool HRES.out, HB.out⟩
  · rw [ht] at hbz
    have HT := Lib.hid ht
    clear ht
    by_cases hwy : why < 0
    · have g2 : ¬ 0 ≤ why := by omega
      by_cases h6 : frm ≤ xt
      · by_cases h7 : xt < til
        · have HRES : Hid (true = isForB M ⟨xr, xw, xt⟩ ⟨(q : Int), why, frm, til, cats, allow⟩) := by show true = _; unfold isForB; simp [HT.out, hn, hwy, h6, h7]
          go_enter Tryz.func53, Tryz.ntmps53
          go_wp2_with fail
          go_ret
          exact ⟨ret_bool HRES.out, HB.out⟩
        · have HRES : Hid (false = isForB M ⟨xr, xw, xt⟩ ⟨(q : Int), why, frm, til, cats, allow⟩) := by show false = _; unfold isForB; simp [HT.out, hn, hwy, h6, h7]
          go_enter Tryz.func53, Tryz.ntmps53
          go_wp2_with fail
          go_ret
          exact ⟨ret_bool HRES.out, HB.out⟩
      · have HRES : Hid (false = isForB M ⟨xr, xw, xt⟩ ⟨(q : Int), why, frm, til, cats, allow⟩) := by show false = _; unfold isForB; simp [HT.out, hn, hwy, h6]
        go_enter Tryz.func53, Tryz.ntmps53
        go_wp2_with fail
        go_ret
        exact ⟨ret_bool HRES.out, HB.out⟩
    · have g2 : 0 ≤ why := by omega
      by_cases hwx : why = xw
      · have g3 : (why != xw) = false := by simp [hwx]
        by_cases h6 : frm ≤ xt
        · by_cases h7 : xt < til
          · have HRES : Hid (true = isForB M ⟨xr, xw, xt⟩ ⟨(q : Int), why, frm, til, cats, allow⟩) := by show true = _; unfold isForB; simp [HT.out, hn, hwy, hwx, h6, h7]
            clear hwx
            go_enter Tryz.func53, Tryz.ntmps53
            go_wp2_with fail
            go_ret
            exact ⟨ret_bool HRES.out, HB.out⟩
          · have HRES : Hid (false = isForB M ⟨xr, xw, xt⟩ ⟨(q : Int), why, frm, til, cats, allow⟩) := by show false = _; unfold isForB; simp [HT.out, hn, hwy, hwx, h6, h7]
            clear hwx
            go_enter Tryz.func53, Tryz.ntmps53
            go_wp2_with fail
            go_ret
            exact ⟨ret_bool HRES.out, HB.out⟩
        · have HRES : Hid (false = isForB M ⟨xr, xw, xt⟩ ⟨(q : Int), why, frm, til, cats, allow⟩) := by show false = _; unfold isForB; simp [HT.out, hn, hwy, hwx, h6]
          clear hwx
          go_enter Tryz.func53, Tryz.ntmps53
          go_wp2_with fail
          go_ret
          exact ⟨ret_bool HRES.out, HB.out⟩
      · have g3 : (why != xw) = true := by simp [hwx]
        have HRES : Hid (false = isForB M ⟨xr, xw, xt⟩ ⟨(q : Int), why, frm, til, cats, allow⟩) := by show false = _; unfold isForB; simp [HT.out, hn, hwy, hwx]
        clear hwx
        go_enter Tryz.func53, Tryz.ntmps53
        go_wp2_with fail
        go_ret
        exact ⟨ret_bool HRES.out, HB.out⟩


theorem isFor_any (r : RuleL) (M : Nat) (x : WhoL) (w : World) (hr : r.ok) (hM : M < 256) :
    Calls Tryz.prog 53 #[r.v, .int .i64 M, x.v] w fun e w' => e = .returned (.bool (isForB M x r)) ∧ Below w.heap.size w w' := by
  obtain ⟨role, why, frm, til, cats, allow⟩ := r
  obtain ⟨xr, xw, xt⟩ := x
  obtain ⟨⟨⟨h1, h2⟩, _⟩, _⟩ := hr
  simp only at h1 h2
  by_cases h : role < 0
  · exact isFor_all role why frm til cats allow M xr xw xt w h
  · obtain ⟨q, hq⟩ := Int.eq_ofNat_of_zero_le (show 0 ≤ role by omega)
    exact isFor_role role why frm til cats allow M xr xw xt w q hq hM (by omega)
end Go.Proofs.YteimdhkajbldjaaGreat
namespace Go.Proofs.YteimdhkajbldjaaGreat
open Go.RowKit

theorem tup_dec (n : Nat) : Ending.returned (.tuple #[.bool (((n : Nat) : Int) == 0), .int .i64 0]) = .returned (.tuple #[.bool (decide (n = 0)), .int .i64 0]) := by
  have e : (((n : Nat) : Int) == 0) = decide (n = 0) := by
    rw [Bool.eq_iff_iff, beq_iff_eq, decide_eq_true_iff]
    omega
  rw [e]

set_option maxHeartbeats 1000000 in
theorem sees_err (a : Option Addr) (m cap : Nat) (z : Nat → Int) (b : Option Addr) (n capb : Nat) (rs : Nat → RuleL) (x : WhoL) (w : World) (hu : Sl w a m z) (hm : m ≤ maxLen) (hs : SlR w b n rs) (hn : n ≤ maxLen) (hbad : askE m z n rs x ≠ 0) :
    Calls Tryz.prog 14 #[.slice a m cap, .slice b n capb, x.v] w fun e w' => e = .returned (.tuple #[.int .i64 0, .int .i64 (askE m z n rs x)]) ∧ Below w.heap.size w w' := by
  have hA : Below w.heap.size w (w.alloc (.cells #[.int .i64 x.role, .int .i64 x.why, .int .i64 x.time] 30)) := (Below.refl _ _).alloc (Nat.le_refl _) _
  have HC := Lib.hid (ask_any a m cap z b n capb rs x _ (hu.below hA) hm (hs.below hA) hn)
  clear hu hs hm hn
  obtain ⟨v, hv⟩ : ∃ v, askE m z n rs x = v := ⟨_, rfl⟩
  have hcs : v = 1 ∨ v = 2 ∨ v = 3 := by have := askE_cases (m := m) (z := z) (n := n) (rs := rs) (x := x); omega
  rw [hv]
  have HV := Lib.hid hv
  clear hv hbad
  rcases hcs with rfl | rfl | rfl
  all_goals
    go_enter Tryz.func14, Tryz.ntmps14
    go_wp2_with fail
    refine HC.out.mono ?_
    rintro e w1 ⟨rfl, hb1⟩
    rw [HV.out]
    have hB1 : Below w.heap.size w w1 := hA.trans (hb1.mono (by simp))
    clear hb1
    go_wp2_with fail
    go_ret2
    exact ⟨rfl, hB1⟩

set_option maxHeartbeats 1000000 in
theorem sees_none (a : Option Addr) (m cap : Nat) (z : Nat → Int) (b : Option Addr) (n capb : Nat) (rs : Nat → RuleL) (x : WhoL) (w : World) (hu : Sl w a m z) (hm : m ≤ maxLen) (hs : SlR w b n rs) (hn : n ≤ maxLen) (hok : askE m z n rs x = 0) (hx : (m : Int) ≤ x.role) :
    Calls Tryz.prog 14 #[.slice a m cap, .slice b n capb, x.v] w fun e w' => e = .returned (.tuple #[.int .i64 0, .int .i64 4]) ∧ Below w.heap.size w w' := by
  have hA : Below w.heap.size w (w.alloc (.cells #[.int .i64 x.role, .int .i64 x.why, .int .i64 x.time] 30)) := (Below.refl _ _).alloc (Nat.le_refl _) _
  have HC := Lib.hid (ask_any a m cap z b n capb rs x _ (hu.below hA) hm (hs.below hA) hn)
  have HV := Lib.hid (slv_of hu (askE_zero hok).1)
  have HX := Lib.hid hx; have H0 := Lib.hid hok
  clear hu hs hm hn hok hx
  go_enter Tryz.func14, Tryz.ntmps14
  go_wp2_with fail
  refine HC.out.mono ?_
  rintro e w1 ⟨rfl, hb1⟩
  rw [H0.out]
  have hB1 : Below w.heap.size w w1 := hA.trans (hb1.mono (by simp))
  have x0 : w1.cell? ⟨w.heap.size, 0, none⟩ = some (.int .i64 x.role) := by rw [hb1.cell (by simp)]; simp
  have x1 : w1.cell? ⟨w.heap.size, 1, none⟩ = some (.int .i64 x.why) := by rw [hb1.cell (by simp)]; simp
  have x2 : w1.cell? ⟨w.heap.size, 2, none⟩ = some (.int .i64 x.time) := by rw [hb1.cell (by simp)]; simp
  have HV1 := Lib.hid (HV.out.below hB1)
  clear hb1
  go_wp2_with fail
  refine (all_err (a := a) (n := m) (cap := cap) x.role 4 w1 (.inr (.inr rfl)) (checkRole_none cap x.role w1 HV1.out (by have := HX.out; omega))).mono ?_
  rintro e w' ⟨rfl, rfl⟩
  go_wp2_with fail
  go_ret2
  exact ⟨rfl, hB1⟩

set_option maxRecDepth 100000 in
set_option maxHeartbeats 2000000 in
theorem sees_ok (a : Option Addr) (m cap : Nat) (z : Nat → Int) (b : Option Addr) (n capb : Nat) (rs : Nat → RuleL) (x : WhoL) (w : World) (hu : Sl w a m z) (hm : m ≤ maxLen) (hs : SlR w b n rs) (hn : n ≤ maxLen) (hok : askE m z n rs x = 0) (hx : x.role < (m : Int)) :
    Calls Tryz.prog 14 #[.slice a m cap, .slice b n capb, x.v] w fun e w' => e = .returned (.tuple #[.int .i64 (seen m (nats z) x n rs : Nat), .int .i64 0]) ∧ Below w.heap.size w w' := by
  have hA : Below w.heap.size w (w.alloc (.cells #[.int .i64 x.role, .int .i64 x.why, .int .i64 x.time] 30)) := (Below.refl _ _).alloc (Nat.le_refl _) _
  have HC := Lib.hid (ask_any a m cap z b n capb rs x _ (hu.below hA) hm (hs.below hA) hn)
  obtain ⟨hk1, hk2, hk3⟩ := askE_zero hok
  obtain ⟨hn20, hrs⟩ := rulesErr_zero hk2
  have hv := slv_of hu hk1
  obtain ⟨q, hq⟩ := Int.eq_ofNat_of_zero_le hk3.1.1
  have hqm : q < m := by omega
  obtain ⟨M, hM⟩ : ∃ M, allU (nats z) q = M := ⟨_, rfl⟩
  have hM2 : M < 256 := by rw [← hM]; exact allU_lt hv.2 hqm
  have hfin : Hid (sub (alwN M x rs n) (denN M x rs n) = seen m (nats z) x n rs) := by
    have h := seen_masks hv.2 (x := x) (by rw [hq]; exact hqm) hrs
    rw [hq] at h
    rw [← hM]
    exact h
  have HALL : Hid (∀ w', Below w.heap.size w w' → Calls Tryz.prog 26 #[.slice a m cap, .int .i64 x.role] w' fun e w'' => e = .returned (.tuple #[.int .i64 (M : Nat), .int .i64 0]) ∧ w' = w'') := by
    intro w' hb
    rw [hq, ← hM]
    exact all_valid cap q w' (hv.below hb) hqm
  have HS := Lib.hid hs; have H0 := Lib.hid hok; have HRS := Lib.hid hrs
  clear hu hs hm hn hok hx hk1 hk2 hk3 hrs hv hq hqm hM
  go_enter Tryz.func14, Tryz.ntmps14
  go_wp2_with fail
  refine HC.out.mono ?_
  rintro e w1 ⟨rfl, hb1⟩
  rw [H0.out]
  have hB1 : Below w.heap.size w w1 := hA.trans (hb1.mono (by simp))
  have x0 : w1.cell? ⟨w.heap.size, 0, none⟩ = some (.int .i64 x.role) := by rw [hb1.cell (by simp)]; simp
  have x1 : w1.cell? ⟨w.heap.size, 1, none⟩ = some (.int .i64 x.why) := by rw [hb1.cell (by simp)]; simp
  have x2 : w1.cell? ⟨w.heap.size, 2, none⟩ = some (.int .i64 x.time) := by rw [hb1.cell (by simp)]; simp
  clear hb1
  go_wp2_with fail
  refine (HALL.out w1 hB1).mono ?_
  rintro e w' ⟨rfl, rfl⟩
  have HW := Lib.hid (show WhoAt w1 w.heap.size x from ⟨x0, x1, x2⟩)
  clear x0 x1 x2
  go_wp2_with fail
  go_loopw [11, 12, 34] (fun s t i wr => ∃ k A D : Nat, k ≤ n ∧ i = .int .i64 k ∧ s = .int .i64 A ∧ t = .int .i64 D ∧ Hid (A = alwN M x rs k) ∧ Hid (D = denN M x rs k) ∧ A < 256 ∧ D < 256 ∧ Below w.heap.size w wr ∧ Hid (WhoAt wr w.heap.size x)) (fun _ _ i _ => n - (intOf i).toNat)
  case atStart => exact ⟨0, 0, 0, Nat.zero_le _, rfl, rfl, rfl, rfl, rfl, by omega, by omega, hB1, HW⟩
  case round =>
    obtain ⟨k, A, D, hk, rfl, rfl, rfl, HA, HD, hA2, hD2, hB, HW2⟩ := hrel
    by_cases hlt : k < n
    · obtain ⟨bb, off, rfl, hc⟩ := (HS.out.below hB) k hlt
      have hblt := cell_lt hc.1
      obtain ⟨c0, c1, c2, c3, c4, c5⟩ := hc
      obtain ⟨x0, x1, x2⟩ := HW2.out
      have hwlt : w.heap.size < wr.heap.size := cell_lt x0
      obtain ⟨cc, hcc⟩ := Int.eq_ofNat_of_zero_le (HRS.out k hlt).1.2.2.2.2.1
      have hcc2 : cc < 256 := by have := (HRS.out k hlt).1.2.2.2.2.2; omega
      have HOA : Hid (bits .or .i64 (A : Int) (rs k).cats = ((A ||| (rs k).cats.toNat : Nat) : Int)) := by
        show _ = _
        rw [hcc, Int.toNat_natCast]
        exact i64_or A cc (by omega) (by omega)
      have HOD : Hid (bits .or .i64 (D : Int) (rs k).cats = ((D ||| (rs k).cats.toNat : Nat) : Int)) := by
        show _ = _
        rw [hcc, Int.toNat_natCast]
        exact i64_or D cc (by omega) (by omega)
      have hct : (rs k).cats.toNat < 256 := by rw [hcc, Int.toNat_natCast]; exact hcc2
      clear hcc hcc2
      have hBa : Below w.heap.size w (wr.alloc (.cells #[.int .i64 (rs k).role, .int .i64 (rs k).why, .int .i64 (rs k).frm, .int .i64 (rs k).til, .int .i64 (rs k).cats, .bool (rs k).allow] 59)) := hB.alloc hB.size _
      have HWa := Lib.hid (HW2.out.below ((Below.refl _ _).alloc (Nat.le_refl _) (.cells #[.int .i64 (rs k).role, .int .i64 (rs k).why, .int .i64 (rs k).frm, .int .i64 (rs k).til, .int .i64 (rs k).cats, .bool (rs k).allow] 59)))
      obtain ⟨f, hf⟩ : ∃ f, isForB M x (rs k) = f := ⟨_, rfl⟩
      obtain ⟨al, hal⟩ : ∃ al, (rs k).allow = al := ⟨_, rfl⟩
      have HF := Lib.hid hf; have HAL := Lib.hid hal
      have HSA : Hid (alwN M x rs (k + 1) = if f && al then A ||| (rs k).cats.toNat else A) := by show alwN M x rs (k + 1) = _; rw [alwN, hf, hal, ← HA.out]
      have HSD : Hid (denN M x rs (k + 1) = if f && !al then D ||| (rs k).cats.toNat else D) := by show denN M x rs (k + 1) = _; rw [denN, hf, hal, ← HD.out]
      clear hf hal
      go_wp2_with fail
      refine (isFor_any (rs k) M x _ (HRS.out k hlt) hM2).mono ?_
      rintro e w2 ⟨rfl, hb2⟩
      rw [HF.out]
      have hB2 : Below w.heap.size w w2 := hBa.trans (hb2.mono hBa.size)
      have HW3 := Lib.hid (HWa.out.below hb2)
      have y5 : w2.cell? ⟨wr.heap.size, 5, none⟩ = some (.bool al) := by rw [hb2.cell (by simp)]; simp [HAL.out]
      have y4 : w2.cell? ⟨wr.heap.size, 4, none⟩ = some (.int .i64 (rs k).cats) := by rw [hb2.cell (by simp)]; simp
      clear hb2 c0 c1 c2 c3 c4 c5 x0 x1 x2 hBa
      cases f
      · go_wp2_with fail
        go_roundw
        case rel => exact ⟨k + 1, A, D, by omega, by go_num, rfl, rfl, by show A = _; rw [HSA.out]; rfl, by show D = _; rw [HSD.out]; rfl, hA2, hD2, hB2, HW3⟩
        case measure => simp [intOf]; omega
      · cases al
        · go_wp2_with fail
          go_roundw
          case rel => exact ⟨k + 1, A, D ||| (rs k).cats.toNat, by omega, by go_num, rfl, by rw [HOD.out], by show A = _; rw [HSA.out]; rfl, by show _ = _; rw [HSD.out]; rfl, hA2, Nat.or_lt_two_pow (n := 8) hD2 hct, hB2, HW3⟩
          case measure => simp [intOf]; omega
        · go_wp2_with fail
          go_roundw
          case rel => exact ⟨k + 1, A ||| (rs k).cats.toNat, D, by omega, by go_num, by rw [HOA.out], rfl, by show _ = _; rw [HSA.out]; rfl, by show D = _; rw [HSD.out]; rfl, Nat.or_lt_two_pow (n := 8) hA2 hct, hD2, hB2, HW3⟩
          case measure => simp [intOf]; omega
    · obtain rfl : k = n := by omega
      have HN : Hid (bits .andNot .i64 (A : Int) (D : Int) = ((seen m (nats z) x k rs : Nat) : Int)) := by
        show _ = _
        rw [i64_andNot A D (by omega) (by omega), HA.out, HD.out, hfin.out]
      go_wp2_with fail
      go_ret2
      exact ⟨by rw [HN.out]; rfl, hB⟩

theorem sees_any (a : Option Addr) (m cap : Nat) (z : Nat → Int) (b : Option Addr) (n capb : Nat) (rs : Nat → RuleL) (x : WhoL) (w : World) (hu : Sl w a m z) (hm : m ≤ maxLen) (hs : SlR w b n rs) (hn : n ≤ maxLen) :
    Calls Tryz.prog 14 #[.slice a m cap, .slice b n capb, x.v] w fun e w' => e = .returned (.tuple #[.int .i64 (seesV m z n rs x : Nat), .int .i64 (seesE m z n rs x)]) ∧ Below w.heap.size w w' := by
  by_cases h0 : askE m z n rs x = 0
  · by_cases h4 : x.role < (m : Int)
    · have h := seesE_ok h0 h4
      rw [seesV_ok h, h]
      exact sees_ok a m cap z b n capb rs x w hu hm hs hn h0 h4
    · have h := seesE_none h0 (show (m : Int) ≤ x.role by omega)
      rw [seesV_err (by rw [h]; decide), h]
      exact sees_none a m cap z b n capb rs x w hu hm hs hn h0 (by omega)
  · have h := seesE_ask h0
    rw [seesV_err (by rw [h]; exact h0), h]
    exact sees_err a m cap z b n capb rs x w hu hm hs hn h0

set_option maxHeartbeats 1000000 in
theorem may_any (a : Option Addr) (m cap : Nat) (z : Nat → Int) (b : Option Addr) (n capb : Nat) (rs : Nat → RuleL) (x : WhoL) (cats : Int) (w : World) (hu : Sl w a m z) (hm : m ≤ maxLen) (hs : SlR w b n rs) (hn : n ≤ maxLen) :
    Calls Tryz.prog 131 #[.slice a m cap, .slice b n capb, x.v, .int .i64 cats] w fun e w' => e = .returned (.tuple #[.bool (mayV m z n rs x cats), .int .i64 (mayE m z n rs x cats)]) ∧ Below w.heap.size w w' := by
  have hA : Below w.heap.size w (w.alloc (.cells #[.int .i64 x.role, .int .i64 x.why, .int .i64 x.time] 30)) := (Below.refl _ _).alloc (Nat.le_refl _) _
  have HC := Lib.hid (sees_any a m cap z b n capb rs x _ (hu.below hA) hm (hs.below hA) hn)
  clear hu hs hm hn
  obtain ⟨v, hv⟩ : ∃ v, seesE m z n rs x = v := ⟨_, rfl⟩
  have hcs := seesE_cases (m := m) (z := z) (n := n) (rs := rs) (x := x)
  rw [hv] at hcs
  have hV := seesV_lt (m := m) (z := z) (n := n) (rs := rs) (x := x)
  have HV := Lib.hid hv
  by_cases h0 : v = 0
  · subst h0
    clear hcs
    obtain ⟨S, hS⟩ : ∃ S, seesV m z n rs x = S := ⟨_, rfl⟩
    rw [hS] at hV
    by_cases hc : 0 ≤ cats ∧ cats ≤ 255
    · have hE : Hid (mayE m z n rs x cats = 0) := by show _ = _; unfold mayE; rw [if_neg (by simp [hv]), if_pos hc]
      have hM : Hid (mayV m z n rs x cats = decide (sub cats.toNat S = 0)) := by show _ = _; unfold mayV; rw [hE.out, hS]; rfl
      obtain ⟨d, rfl⟩ := Int.eq_ofNat_of_zero_le hc.1
      have HN : Hid (bits .andNot .i64 (d : Int) (S : Int) = ((sub d S : Nat) : Int)) := i64_andNot d S (by omega) (by omega)
      have HCC := Lib.hid hc; have HS := Lib.hid hS
      clear hv hc hS
      go_enter Tryz.func131, Tryz.ntmps131
      go_wp2_with fail
      refine HC.out.mono ?_
      rintro e w1 ⟨rfl, hb1⟩
      rw [HV.out, HS.out]
      have hB1 : Below w.heap.size w w1 := hA.trans (hb1.mono (by simp))
      clear hb1
      go_wp2_with fail
      refine (isCats_yes d _ HCC.out).mono ?_
      rintro e w2 ⟨rfl, hb2, -⟩
      have hB2 : Below w.heap.size w w2 := hB1.trans (hb2.mono hB1.size)
      clear hb2
      go_wp2_with fail
      go_ret2
      exact ⟨by rw [hM.out, hE.out, HN.out, Int.toNat_natCast]; exact tup_dec _, hB2⟩
    · have hE : Hid (mayE m z n rs x cats = 1) := by show _ = _; unfold mayE; rw [if_neg (by simp [hv]), if_neg hc]
      have hM : Hid (mayV m z n rs x cats = false) := by show _ = _; unfold mayV; rw [hE.out]; rfl
      have HCC := Lib.hid hc; have HS := Lib.hid hS
      clear hv hc hS
      go_enter Tryz.func131, Tryz.ntmps131
      go_wp2_with fail
      refine HC.out.mono ?_
      rintro e w1 ⟨rfl, hb1⟩
      rw [HV.out, HS.out]
      have hB1 : Below w.heap.size w w1 := hA.trans (hb1.mono (by simp))
      clear hb1
      go_wp2_with fail
      refine (isCats_no cats _ HCC.out).mono ?_
      rintro e w2 ⟨rfl, hb2, -⟩
      have hB2 : Below w.heap.size w w2 := hB1.trans (hb2.mono hB1.size)
      clear hb2
      go_wp2_with fail
      go_ret2
      exact ⟨by rw [hM.out, hE.out]; rfl, hB2⟩
  · have hE : Hid (mayE m z n rs x cats = v) := by show _ = _; unfold mayE; rw [if_pos (by rw [hv]; exact h0), hv]
    have hM : Hid (mayV m z n rs x cats = false) := by show _ = _; unfold mayV; rw [hE.out, decide_eq_false h0]; rfl
    have hS : Hid (seesV m z n rs x = 0) := seesV_err (by rw [hv]; exact h0)
    clear hv hV
    rcases hcs with rfl | rfl | rfl | rfl | rfl
    · exact absurd rfl h0
    all_goals
      clear h0
      go_enter Tryz.func131, Tryz.ntmps131
      go_wp2_with fail
      refine HC.out.mono ?_
      rintro e w1 ⟨rfl, hb1⟩
      rw [HV.out, hS.out]
      have hB1 : Below w.heap.size w w1 := hA.trans (hb1.mono (by simp))
      clear hb1
      go_wp2_with fail
      go_ret2
      exact ⟨by rw [hM.out, hE.out]; rfl, hB1⟩
end Go.Proofs.YteimdhkajbldjaaGreat
