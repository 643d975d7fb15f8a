/- The errors of wyref.Sees, and the contract of wyref.May. -/
import Derived.Test.YtpjmhajhmkfolaaRefSees
set_option linter.unusedVariables false
set_option linter.unusedSimpArgs false
namespace Go.Proofs.Ytpjmhajhmkfolaa
open Go.RowKit

/- roles that may not be -/
set_option maxHeartbeats 1000000 in
theorem refSees_roles (a : Option Addr) (m cap : Nat) (b : Option Addr) (n capb : Nat) (x : WhoL) (w : World) (c : Int) (hc : c = 1 ∨ c = 2)
    (hr : ∀ w', Below w.heap.size w w' → Calls Try.prog 28 #[.slice a m cap] w' fun e w'' => e = .returned (.int .i64 c) ∧ w' = w'') :
    Calls Try.prog 11 #[.slice a m cap, .slice b n capb, x.v] w fun e w' => e = .returned (.tuple #[.int .i64 0, .int .i64 c]) ∧ Below w.heap.size w w' := by
  have HR := Lib.hid hr
  clear hr
  have hA : Below w.heap.size w (w.alloc (.cells #[.int .i64 x.role, .int .i64 x.why, .int .i64 x.time] 25)) := (Below.refl _ _).alloc (Nat.le_refl _) _
  rcases hc with rfl | rfl
  all_goals
    go_enter Try.func11, Try.ntmps11
    go_wp2_with fail
    refine (HR.out _ hA).mono ?_
    rintro e w' ⟨rfl, rfl⟩
    go_wp2_with fail
    go_ret2
    exact ⟨rfl, hA⟩

/- rules that may not be -/
set_option maxHeartbeats 1000000 in
theorem refSees_rules (a : Option Addr) (m cap : Nat) (u : Nat → Nat) (b : Option Addr) (n capb : Nat) (rs : Nat → RuleL) (x : WhoL) (w : World) (hu : SlV w a m u) (hs : SlR w b n rs) (hn : n ≤ maxLen) (hbad : rulesErr n rs ≠ 0) :
    Calls Try.prog 11 #[.slice a m cap, .slice b n capb, x.v] w fun e w' => e = .returned (.tuple #[.int .i64 0, .int .i64 (rulesErr n rs)]) ∧ Below w.heap.size w w' := by
  have hA : Below w.heap.size w (w.alloc (.cells #[.int .i64 x.role, .int .i64 x.why, .int .i64 x.time] 25)) := (Below.refl _ _).alloc (Nat.le_refl _) _
  have hzz : ∀ k, k < m → 0 ≤ (u k : Int) ∧ (u k : Int) < 2 ^ k := fun k hk => ⟨Int.natCast_nonneg _, cast_lt_pow (hu.2.2 k hk)⟩
  have hm8 := hu.2.1
  have H1 := Lib.hid ((hu.below hA).1); have H2 := Lib.hid (hs.below hA); have HZ := Lib.hid hzz; have HN := Lib.hid hn
  have hcs := rulesErr_cases n rs
  obtain ⟨v, hv⟩ : ∃ v, rulesErr n rs = v := ⟨_, rfl⟩
  rw [hv] at hcs hbad ⊢
  have HV := Lib.hid hv
  clear hu hs hzz hv hn
  have hcs2 : v = 1 ∨ v = 2 ∨ v = 3 := by rcases hcs with h | h; exact absurd h hbad; exact h
  clear hcs hbad
  rcases hcs2 with rfl | rfl | rfl
  all_goals
    go_enter Try.func11, Try.ntmps11
    go_wp2_with fail
    refine (roles_valid a m cap _ _ H1.out hm8 HZ.out).mono ?_
    rintro e w' ⟨rfl, rfl⟩
    go_wp2_with fail
    refine (refRules_any b n capb rs _ H2.out HN.out).mono ?_
    rintro e w1 ⟨rfl, hb1⟩
    rw [HV.out]
    go_wp2_with fail
    go_ret2
    exact ⟨rfl, hA.trans (hb1.mono (by simp))⟩

/- who asks may not be -/
set_option maxHeartbeats 1000000 in
theorem refSees_who (a : Option Addr) (m cap : Nat) (u : Nat → Nat) (b : Option Addr) (n capb : Nat) (rs : Nat → RuleL) (x : WhoL) (w : World) (hu : SlV w a m u) (hs : SlR w b n rs) (hok : n ≤ 20 ∧ ∀ k, k < n → (rs k).ok) (hx : ¬ x.ok) :
    Calls Try.prog 11 #[.slice a m cap, .slice b n capb, x.v] w fun e w' => e = .returned (.tuple #[.int .i64 0, .int .i64 1]) ∧ Below w.heap.size w w' := by
  have hA : Below w.heap.size w (w.alloc (.cells #[.int .i64 x.role, .int .i64 x.why, .int .i64 x.time] 25)) := (Below.refl _ _).alloc (Nat.le_refl _) _
  have hzz : ∀ k, k < m → 0 ≤ (u k : Int) ∧ (u k : Int) < 2 ^ k := fun k hk => ⟨Int.natCast_nonneg _, cast_lt_pow (hu.2.2 k hk)⟩
  have hm8 := hu.2.1
  have H1 := Lib.hid ((hu.below hA).1); have H2 := Lib.hid (hs.below hA); have HZ := Lib.hid hzz; have HOK := Lib.hid hok; have HX := Lib.hid hx
  clear hu hs hzz hok hx
  go_enter Try.func11, Try.ntmps11
  go_wp2_with fail
  refine (roles_valid a m cap _ _ H1.out hm8 HZ.out).mono ?_
  rintro e w' ⟨rfl, rfl⟩
  go_wp2_with fail
  refine (refRules_ok b n capb rs _ H2.out HOK.out.1 HOK.out.2).mono ?_
  rintro e w1 ⟨rfl, hb1⟩
  have hB1 : Below w.heap.size w w1 := hA.trans (hb1.mono (by simp))
  have x0 : w1.cell? ⟨w.heap.size, 0, none⟩ = some (.int .i64 x.role) := by rw [hb1.cell (by simp)]; simp
  have x1 : w1.cell? ⟨w.heap.size, 1, none⟩ = some (.int .i64 x.why) := by rw [hb1.cell (by simp)]; simp
  have x2 : w1.cell? ⟨w.heap.size, 2, none⟩ = some (.int .i64 x.time) := by rw [hb1.cell (by simp)]; simp
  clear hb1
  go_wp2_with fail
  refine (refWho_no x _ HX.out).mono ?_
  rintro e w2 ⟨rfl, hb2, -⟩
  go_wp2_with fail
  go_ret2
  exact ⟨rfl, hB1.trans (hb2.mono hB1.size)⟩

/- there is no such role -/
set_option maxHeartbeats 1000000 in
theorem refSees_none (a : Option Addr) (m cap : Nat) (u : Nat → Nat) (b : Option Addr) (n capb : Nat) (rs : Nat → RuleL) (x : WhoL) (w : World) (hu : SlV w a m u) (hs : SlR w b n rs) (hok : n ≤ 20 ∧ ∀ k, k < n → (rs k).ok) (hx : x.ok) (hxm : (m : Int) ≤ x.role) :
    Calls Try.prog 11 #[.slice a m cap, .slice b n capb, x.v] w fun e w' => e = .returned (.tuple #[.int .i64 0, .int .i64 4]) ∧ Below w.heap.size w w' := by
  have hA : Below w.heap.size w (w.alloc (.cells #[.int .i64 x.role, .int .i64 x.why, .int .i64 x.time] 25)) := (Below.refl _ _).alloc (Nat.le_refl _) _
  have hzz : ∀ k, k < m → 0 ≤ (u k : Int) ∧ (u k : Int) < 2 ^ k := fun k hk => ⟨Int.natCast_nonneg _, cast_lt_pow (hu.2.2 k hk)⟩
  have hm8 := hu.2.1
  have H1 := Lib.hid ((hu.below hA).1); have H2 := Lib.hid (hs.below hA); have HZ := Lib.hid hzz; have HOK := Lib.hid hok; have HX := Lib.hid hx
  clear hu hs hzz hok hx
  go_enter Try.func11, Try.ntmps11
  go_wp2_with fail
  refine (roles_valid a m cap _ _ H1.out hm8 HZ.out).mono ?_
  rintro e w' ⟨rfl, rfl⟩
  go_wp2_with fail
  refine (refRules_ok b n capb rs _ H2.out HOK.out.1 HOK.out.2).mono ?_
  rintro e w1 ⟨rfl, hb1⟩
  have hB1 : Below w.heap.size w w1 := hA.trans (hb1.mono (by simp))
  have x0 : w1.cell? ⟨w.heap.size, 0, none⟩ = some (.int .i64 x.role) := by rw [hb1.cell (by simp)]; simp
  have x1 : w1.cell? ⟨w.heap.size, 1, none⟩ = some (.int .i64 x.why) := by rw [hb1.cell (by simp)]; simp
  have x2 : w1.cell? ⟨w.heap.size, 2, none⟩ = some (.int .i64 x.time) := by rw [hb1.cell (by simp)]; simp
  have hlt1 : w.heap.size < w1.heap.size := by have := hb1.size; simp at this; omega
  clear hb1
  go_wp2_with fail
  refine (refWho_yes x _ HX.out).mono ?_
  rintro e w2 ⟨rfl, hb2, -⟩
  have y0 : w2.cell? ⟨w.heap.size, 0, none⟩ = some (.int .i64 x.role) := (hb2.cell (p := ⟨_, _, none⟩) hlt1).trans x0
  go_wp2_with fail
  go_ret2
  exact ⟨rfl, hB1.trans (hb2.mono hB1.size)⟩

/- what 'Sees' answers: the kinds, or an error -/
structure SeesIs (a : Option Addr) (m cap : Nat) (b : Option Addr) (n capb : Nat) (x : WhoL) (k : Nat) (c : Int) (w : World) : Prop where
  lt : k < 256
  err : c ≠ 0 → k = 0
  run : ∀ w', Below w.heap.size w w' → Calls Try.prog 11 #[.slice a m cap, .slice b n capb, x.v] w' fun e w'' => e = .returned (.tuple #[.int .i64 (k : Int), .int .i64 c]) ∧ Below w'.heap.size w' w''

set_option maxHeartbeats 1000000 in
theorem refMay_ok (a : Option Addr) (m cap : Nat) (b : Option Addr) (n capb : Nat) (x : WhoL) (k : Nat) (cats : Int) (w : World) (h : SeesIs a m cap b n capb x k 0 w) (hc : 0 ≤ cats ∧ cats ≤ 255) :
    Calls Try.prog 12 #[.slice a m cap, .slice b n capb, x.v, .int .i64 cats] w fun e w' => e = .returned (.tuple #[.bool (decide (sub cats.toNat k = 0)), .int .i64 0]) ∧ Below w.heap.size w w' := by
  have hA : Below w.heap.size w (w.alloc (.cells #[.int .i64 x.role, .int .i64 x.why, .int .i64 x.time] 25)) := (Below.refl _ _).alloc (Nat.le_refl _) _
  obtain ⟨d, rfl⟩ := Int.eq_ofNat_of_zero_le hc.1
  rw [Int.toNat_natCast]
  have H := Lib.hid h; have HC := Lib.hid hc
  clear h hc
  go_enter Try.func12, Try.ntmps12
  go_wp2_with fail
  refine (H.out.run _ hA).mono ?_
  rintro e w1 ⟨rfl, hb1⟩
  have hB1 : Below w.heap.size w w1 := hA.trans (hb1.mono (by simp))
  clear hb1
  go_wp2_with fail
  refine (cats_yes d _ HC.out.1 HC.out.2).mono ?_
  rintro e w' ⟨rfl, rfl⟩
  go_wp2_with fail
  refine (part_any d k _ (by have := HC.out.2; omega) H.out.lt).mono ?_
  rintro e w2 ⟨rfl, hb2⟩
  go_wp2_with fail
  go_ret2
  exact ⟨rfl, hB1.trans (hb2.mono hB1.size)⟩

set_option maxHeartbeats 1000000 in
theorem refMay_cats (a : Option Addr) (m cap : Nat) (b : Option Addr) (n capb : Nat) (x : WhoL) (k : Nat) (cats : Int) (w : World) (h : SeesIs a m cap b n capb x k 0 w) (hc : ¬ (0 ≤ cats ∧ cats ≤ 255)) :
    Calls Try.prog 12 #[.slice a m cap, .slice b n capb, x.v, .int .i64 cats] w fun e w' => e = .returned (.tuple #[.bool false, .int .i64 1]) ∧ Below w.heap.size w w' := by
  have hA : Below w.heap.size w (w.alloc (.cells #[.int .i64 x.role, .int .i64 x.why, .int .i64 x.time] 25)) := (Below.refl _ _).alloc (Nat.le_refl _) _
  have H := Lib.hid h; have HC := Lib.hid hc
  clear h hc
  go_enter Try.func12, Try.ntmps12
  go_wp2_with fail
  refine (H.out.run _ hA).mono ?_
  rintro e w1 ⟨rfl, hb1⟩
  have hB1 : Below w.heap.size w w1 := hA.trans (hb1.mono (by simp))
  clear hb1
  go_wp2_with fail
  refine (cats_no cats _ HC.out).mono ?_
  rintro e w' ⟨rfl, rfl⟩
  go_wp2_with fail
  go_ret2
  exact ⟨rfl, hB1⟩

set_option maxHeartbeats 1000000 in
theorem refMay_err (a : Option Addr) (m cap : Nat) (b : Option Addr) (n capb : Nat) (x : WhoL) (c : Int) (cats : Int) (w : World) (hc : c = 1 ∨ c = 2 ∨ c = 3 ∨ c = 4) (h : SeesIs a m cap b n capb x 0 c w) :
    Calls Try.prog 12 #[.slice a m cap, .slice b n capb, x.v, .int .i64 cats] w fun e w' => e = .returned (.tuple #[.bool false, .int .i64 c]) ∧ Below w.heap.size w w' := by
  have hA : Below w.heap.size w (w.alloc (.cells #[.int .i64 x.role, .int .i64 x.why, .int .i64 x.time] 25)) := (Below.refl _ _).alloc (Nat.le_refl _) _
  have H := Lib.hid (h.run _ hA)
  clear h
  rcases hc with rfl | rfl | rfl | rfl
  all_goals
    go_enter Try.func12, Try.ntmps12
    go_wp2_with fail
    refine H.out.mono ?_
    rintro e w1 ⟨rfl, hb1⟩
    have hB1 : Below w.heap.size w w1 := hA.trans (hb1.mono (by simp))
    clear hb1
    go_wp2_with fail
    go_ret2
    exact ⟨rfl, hB1⟩
end Go.Proofs.Ytpjmhajhmkfolaa
