/- The walk of RuleParts. -/
import Derived.Test.YtpjmhajhmkfolaaSeesLit
set_option linter.unusedVariables false
set_option linter.unusedSimpArgs false
namespace Go.Proofs.Ytpjmhajhmkfolaa
open Go.RowKit

/-- all that some rule allows -/
def anyN (rs : Nat → RuleL) : Nat → Nat
  | 0 => 0
  | k + 1 => if (rs k).allow then anyN rs k ||| (rs k).cats.toNat else anyN rs k
theorem anyN_lt {rs : Nat → RuleL} : ∀ {k : Nat}, (∀ j, j < k → (rs j).ok) → anyN rs k < 256
  | 0, _ => by simp [anyN]
  | k + 1, h => by
    have ih := anyN_lt (k := k) fun j hj => h j (by omega)
    unfold anyN
    split
    · exact Nat.or_lt_two_pow (n := 8) ih (cats_lt (h k (by omega)))
    · exact ih
theorem anyN_bit {m : Nat} {u : Nat → Nat} {x : WhoL} {rs : Nat → RuleL} (i : Nat) : ∀ {k : Nat}, yesN m u x i rs k = true → (anyN rs k).testBit i = true
  | 0, h => by simp [yesN] at h
  | k + 1, h => by
    unfold yesN at h
    rw [Bool.or_eq_true, Bool.and_eq_true] at h
    unfold anyN
    rcases h with h | ⟨h1, h2⟩
    · have ih := anyN_bit i h
      split
      · rw [Nat.testBit_or, ih, Bool.true_or]
      · exact ih
    · rw [if_pos h2, Nat.testBit_or]
      have hk : (rs k).kind i = true := by
        unfold speaks at h1
        simp only [Bool.and_eq_true] at h1
        exact h1.1.1.1
      have : (rs k).cats.toNat.testBit i = true := hk
      rw [this, Bool.or_true]
theorem seen_any {m : Nat} {u : Nat → Nat} {x : WhoL} {n : Nat} {rs : Nat → RuleL} (hok : ∀ k, k < n → (rs k).ok) : sub (seen m u x n rs) (anyN rs n) = 0 := by
  have h1 := seen_lt m u x n rs
  have h2 := anyN_lt hok
  refine (sub_zero (by omega) (by omega)).2 fun i hi => ?_
  rw [seen_bit] at hi
  simp only [Bool.and_eq_true] at hi
  exact anyN_bit i hi.2.1
theorem sub_or {a b v : Nat} (ha : a < 256) (hb : b < 256) (hv : v < 256) : decide (sub (a ||| b) v = 0) = (decide (sub a v = 0) && decide (sub b v = 0)) := by
  have hab : a ||| b < 256 := Nat.or_lt_two_pow (n := 8) ha hb
  rw [Bool.eq_iff_iff, Bool.and_eq_true, decide_eq_true_iff, decide_eq_true_iff, decide_eq_true_iff, sub_zero (by omega) (by omega), sub_zero (by omega) (by omega), sub_zero (by omega) (by omega)]
  constructor
  · intro h
    exact ⟨fun i hi => h i (by rw [Nat.testBit_or, hi, Bool.true_or]), fun i hi => h i (by rw [Nat.testBit_or, hi, Bool.or_true])⟩
  · rintro ⟨h1, h2⟩ i hi
    rw [Nat.testBit_or, Bool.or_eq_true] at hi
    rcases hi with hi | hi
    · exact h1 i hi
    · exact h2 i hi

set_option maxRecDepth 100000 in
set_option maxHeartbeats 4000000 in
theorem ruleParts_walk (a : Option Addr) (m cap : Nat) (z : Nat → Int) (b : Option Addr) (n capb : Nat) (rs : Nat → RuleL) (x : WhoL) (c d : Int) (w : World) (hu : Sl w a m z) (hm : m ≤ maxLen) (hs : SlR w b n rs) (hn : n ≤ maxLen) :
    Calls Try.prog 5 #[.slice a m cap, .slice b n capb, x.v, .int .i64 c, .int .i64 d] w fun e w' => e = .returned (.bool true) ∧ Below w.heap.size w w' := by
  obtain ⟨C, hC, hC2⟩ := and_255 c
  obtain ⟨D, hD, hD2⟩ := and_255 d
  have hCD2 : C ||| D < 256 := Nat.or_lt_two_pow (n := 8) hC2 hD2
  have hOR : bits .or .i64 (C : Int) (D : Int) = ((C ||| D : Nat) : Int) := i64_or C D (by omega) (by omega)
  obtain ⟨V, hV⟩ : ∃ V, seesV m z n rs x = V := ⟨_, rfl⟩
  obtain ⟨E, hE⟩ : ∃ E, seesE m z n rs x = E := ⟨_, rfl⟩
  have hV2 : V < 256 := by rw [← hV]; exact seesV_lt
  have HSees : Hid (∀ w', Below w.heap.size w w' → Calls Try.prog 9 #[.slice a m cap, .slice b n capb, x.v] w' fun e w'' => e = .returned (.tuple #[.int .i64 (V : Nat), .int .i64 E]) ∧ Below w'.heap.size w' w'') := fun w' h => by
    rw [← hV, ← hE]
    exact sees_any a m cap z b n capb rs x w' (hu.below h) hm (hs.below h) hn
  have HMay : Hid (∀ (k : Nat) (w' : World), k < 256 → Below w.heap.size w w' → Calls Try.prog 10 #[.slice a m cap, .slice b n capb, x.v, .int .i64 k] w' fun e w'' => e = .returned (.tuple #[.bool (decide (E = 0) && decide (sub k V = 0)), .int .i64 E]) ∧ Below w'.heap.size w' w'') := fun k w' hk h => by
    have h1 := may_any a m cap z b n capb rs x k w' (hu.below h) hm (hs.below h) hn
    rw [mayE_in hk, mayV_in hk, hV, hE] at h1
    exact h1
  have hEc := seesE_cases (m := m) (z := z) (n := n) (rs := rs) (x := x)
  rw [hE] at hEc
  have HOK : Hid (E = 0 → n ≤ 20 ∧ (∀ k, k < n → (rs k).ok) ∧ V = seen m (nats z) x n rs) := fun h0 => by
    rw [h0] at hE
    obtain ⟨h1, h2⟩ := seesE_zero hE
    obtain ⟨h3, h4, h5⟩ := askE_zero h1
    obtain ⟨h6, h7⟩ := rulesErr_zero h4
    exact ⟨h6, h7, by rw [← hV, seesV_ok hE]⟩
  have HV0 : Hid (E ≠ 0 → V = 0) := fun h => by rw [← hV]; exact seesV_err (by rw [hE]; exact h)
  have HS := Lib.hid hs
  clear hu hm hs hV hE
  have hA : Below w.heap.size w (w.alloc (.cells #[.int .i64 x.role, .int .i64 x.why, .int .i64 x.time] 25)) := (Below.refl _ _).alloc (Nat.le_refl _) _
  have HX : Hid (WhoAt (w.alloc (.cells #[.int .i64 x.role, .int .i64 x.why, .int .i64 x.time] 25)) w.heap.size x) := ⟨by simp, by simp, by simp⟩
  have HL1 := Lib.hid (may_lit (w.heap.size + 1) 0 true ((w.alloc (.cells #[.int .i64 x.role, .int .i64 x.why, .int .i64 x.time] 25)).alloc (.cells #[.int .i64 0] 3)) (by simp) (by decide +kernel) (by decide +kernel))
  have hA1 : Below w.heap.size w ((w.alloc (.cells #[.int .i64 x.role, .int .i64 x.why, .int .i64 x.time] 25)).alloc (.cells #[.int .i64 0] 3)) := hA.alloc (by simp) _
  have HX1 := Lib.hid (HX.out.below ((Below.refl _ _).alloc (Nat.le_refl _) (.cells #[.int .i64 0] 3)))
  go_enter Try.func5, Try.ntmps5
  go_wp2_with fail
  refine HL1.out.mono ?_
  rintro e w1 ⟨rfl, hb1⟩
  have hB1 : Below w.heap.size w w1 := hA1.trans (hb1.mono hA1.size)
  have HX2 := Lib.hid (HX1.out.below hb1)
  have HL2 := Lib.hid (may_lit w1.heap.size 1 false (w1.alloc (.cells #[.int .i64 0] 3)) (by simp) (by decide +kernel) (by decide +kernel))
  have hA2 : Below w.heap.size w (w1.alloc (.cells #[.int .i64 0] 3)) := hB1.alloc hB1.size _
  have HX3 := Lib.hid (HX2.out.below ((Below.refl _ _).alloc (Nat.le_refl _) (.cells #[.int .i64 0] 3)))
  clear hb1 hA hA1 HX HX1 HL1 HX2
  go_wp2_with fail
  refine HL2.out.mono ?_
  rintro e w2 ⟨rfl, hb2⟩
  have hB2 : Below w.heap.size w w2 := hA2.trans (hb2.mono hA2.size)
  have HX4 := Lib.hid (HX3.out.below hb2)
  obtain ⟨x0, x1, x2⟩ := HX4.out
  clear hb2 hA2 HX3 HL2
  go_wp2_with fail
  refine (HSees.out _ hB2).mono ?_
  rintro e w3 ⟨rfl, hb3⟩
  have hB3 : Below w.heap.size w w3 := hB2.trans (hb3.mono hB2.size)
  have HX5 := Lib.hid (HX4.out.below hb3)
  clear x0 x1 x2 hb3 hC hD
  obtain ⟨x0, x1, x2⟩ := HX5.out
  go_wp2_with fail
  refine (HMay.out C _ hC2 hB3).mono ?_
  rintro e w4 ⟨rfl, hb4⟩
  have hB4 : Below w.heap.size w w4 := hB3.trans (hb4.mono hB3.size)
  have HX6 := Lib.hid (HX5.out.below hb4)
  clear x0 x1 x2 hb4
  obtain ⟨x0, x1, x2⟩ := HX6.out
  obtain ⟨P, hP⟩ : ∃ P, (decide (E = 0) && decide (sub C V = 0)) = P := ⟨_, rfl⟩
  rw [hP]
  have HP := Lib.hid hP
  clear hP
  go_wp2_with fail
  refine (HMay.out D _ hD2 hB4).mono ?_
  rintro e w5 ⟨rfl, hb5⟩
  have hB5 : Below w.heap.size w w5 := hB4.trans (hb5.mono hB4.size)
  have HX7 := Lib.hid (HX6.out.below hb5)
  clear x0 x1 x2 hb5
  obtain ⟨x0, x1, x2⟩ := HX7.out
  obtain ⟨Q, hQ⟩ : ∃ Q, (decide (E = 0) && decide (sub D V = 0)) = Q := ⟨_, rfl⟩
  rw [hQ]
  have HQ := Lib.hid hQ
  clear hQ
  go_wp2_with fail
  refine (HMay.out (C ||| D) _ hCD2 hB5).mono ?_
  rintro e w6 ⟨rfl, hb6⟩
  have hB6 : Below w.heap.size w w6 := hB5.trans (hb6.mono hB5.size)
  clear x0 x1 x2 hb6 hOR
  obtain ⟨R, hR⟩ : ∃ R, (decide (E = 0) && decide (sub (C ||| D) V = 0)) = R := ⟨_, rfl⟩
  rw [hR]
  have HR := Lib.hid hR
  clear hR
  by_cases h0 : E = 0
  · subst h0
    clear hEc HV0
    obtain ⟨hn20, hrs, hVs⟩ := HOK.out rfl
    have hPQ : Hid (R = (P && Q)) := by show R = _; rw [← HR.out, ← HP.out, ← HQ.out, sub_or hC2 hD2 hV2]; rfl
    have hsubC : Hid ((bits .andNot .i64 (C : Int) (V : Int) == 0) = P) := by
      show _ = _
      rw [i64_andNot C V (by omega) (by omega), ← HP.out, cast_eq_zero]
      rfl
    have hsubV : Hid (∀ N : Nat, N = anyN rs n → bits .andNot .i64 (V : Int) (N : Int) = 0) := by
      intro N hN
      rw [i64_andNot V N (by omega) (by rw [hN]; have := anyN_lt hrs; omega), hN, hVs, seen_any hrs]
      rfl
    have HRS := Lib.hid hrs
    clear hrs hVs HOK
    go_wp2_with fail
    go_loopw [23, 117] (fun s i wr => ∃ k N : Nat, k ≤ n ∧ i = .int .i64 k ∧ s = .int .i64 N ∧ Hid (N = anyN rs k) ∧ N < 256 ∧ Below w.heap.size w wr) (fun _ i _ => n - (intOf i).toNat)
    case atStart => exact ⟨0, 0, Nat.zero_le _, rfl, rfl, rfl, by omega, hB6⟩
    case round =>
      obtain ⟨k, N, hk, rfl, rfl, hN, hN2, hB⟩ := hrel
      by_cases hlt : k < n
      · obtain ⟨bb, off, rfl, hc⟩ := (HS.out.below hB) k hlt
        have hblt := cell_lt hc.1
        obtain ⟨c0, c1, c2, c3, c4, c5⟩ := hc
        obtain ⟨al, hal⟩ : ∃ al, (rs k).allow = al := ⟨_, rfl⟩
        rw [hal] at c5
        have HAL := Lib.hid hal
        have hct := cats_lt (HRS.out k hlt)
        have HO : Hid (bits .or .i64 (N : Int) (rs k).cats = ((N ||| (rs k).cats.toNat : Nat) : Int)) := by
          show _ = _
          have h1 := (HRS.out k hlt).1.2.2.2.2.1
          have h2 := i64_or N (rs k).cats.toNat (by omega) (by omega)
          rw [Int.toNat_of_nonneg h1] at h2
          exact h2
        have hB' : ∀ o, Below w.heap.size w (wr.alloc o) := fun o => hB.alloc hB.size _
        have HB' := Lib.hid hB'
        clear hal hB'
        cases al
        · go_wp2_with fail
          go_roundw
          case rel => exact ⟨k + 1, N, by omega, by go_num, rfl, by show N = _; rw [anyN, HAL.out, ← hN.out]; rfl, hN2, HB'.out _⟩
          case measure => simp [intOf]; omega
        · go_wp2_with fail
          go_roundw
          case rel => exact ⟨k + 1, N ||| (rs k).cats.toNat, by omega, by go_num, by rw [HO.out], by show _ = _; rw [anyN, HAL.out, ← hN.out]; rfl, Nat.or_lt_two_pow (n := 8) hN2 hct, HB'.out _⟩
          case measure => simp [intOf]; omega
      · obtain rfl : k = n := by omega
        have h1 := hsubV.out N hN.out
        have h2 := hsubC.out
        obtain rfl := hPQ.out
        clear HR
        cases P <;> cases Q
        all_goals
          go_wp2_with fail
          go_ret
          exact ⟨rfl, hB⟩
  · have hP0 : Hid (P = false) := by show P = false; rw [← HP.out, decide_eq_false h0]; rfl
    have hQ0 : Hid (Q = false) := by show Q = false; rw [← HQ.out, decide_eq_false h0]; rfl
    have hR0 : Hid (R = false) := by show R = false; rw [← HR.out, decide_eq_false h0]; rfl
    obtain rfl := hP0.out
    obtain rfl := hQ0.out
    obtain rfl := hR0.out
    obtain rfl := HV0.out h0
    clear HP HQ HR HOK hP0 hQ0 hR0
    rcases hEc with rfl | rfl | rfl | rfl | rfl
    · exact absurd rfl h0
    all_goals
      clear h0
      go_wp2_with fail
      go_ret
      exact ⟨rfl, hB6⟩
end Go.Proofs.Ytpjmhajhmkfolaa
