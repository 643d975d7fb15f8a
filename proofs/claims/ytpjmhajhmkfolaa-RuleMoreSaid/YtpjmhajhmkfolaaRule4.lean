/- The contracts of rule.Sees and rule.May, whatever is handed in. -/
import Derived.Test.YtpjmhajhmkfolaaRule3
set_option linter.unusedVariables false
set_option linter.unusedSimpArgs false
namespace Go.Proofs.Ytpjmhajhmkfolaa
open Go.RowKit

theorem tup_dec (n : Nat) : Ending.returned (.tuple #[.bool (((n : Nat) : Int) == 0), .int .i64 0]) = .returned (.tuple #[.bool (decide (n = 0)), .int .i64 0]) := by
  have e : (((n : Nat) : Int) == 0) = decide (n = 0) := by
    rw [Bool.eq_iff_iff, beq_iff_eq, decide_eq_true_iff]
    omega
  rw [e]

set_option maxHeartbeats 1000000 in
theorem sees_err (a : Option Addr) (m cap : Nat) (z : Nat → Int) (b : Option Addr) (n capb : Nat) (rs : Nat → RuleL) (x : WhoL) (w : World) (hu : Sl w a m z) (hm : m ≤ maxLen) (hs : SlR w b n rs) (hn : n ≤ maxLen) (hbad : askE m z n rs x ≠ 0) :
    Calls Try.prog 9 #[.slice a m cap, .slice b n capb, x.v] w fun e w' => e = .returned (.tuple #[.int .i64 0, .int .i64 (askE m z n rs x)]) ∧ Below w.heap.size w w' := by
  have hA : Below w.heap.size w (w.alloc (.cells #[.int .i64 x.role, .int .i64 x.why, .int .i64 x.time] 25)) := (Below.refl _ _).alloc (Nat.le_refl _) _
  have HC := Lib.hid (ask_any a m cap z b n capb rs x _ (hu.below hA) hm (hs.below hA) hn)
  clear hu hs hm hn
  obtain ⟨v, hv⟩ : ∃ v, askE m z n rs x = v := ⟨_, rfl⟩
  have hcs : v = 1 ∨ v = 2 ∨ v = 3 := by have := askE_cases (m := m) (z := z) (n := n) (rs := rs) (x := x); omega
  rw [hv]
  have HV := Lib.hid hv
  clear hv hbad
  rcases hcs with rfl | rfl | rfl
  all_goals
    go_enter Try.func9, Try.ntmps9
    go_wp2_with fail
    refine HC.out.mono ?_
    rintro e w1 ⟨rfl, hb1⟩
    rw [HV.out]
    have hB1 : Below w.heap.size w w1 := hA.trans (hb1.mono (by simp))
    clear hb1
    go_wp2_with fail
    go_ret2
    exact ⟨rfl, hB1⟩

set_option maxHeartbeats 1000000 in
theorem sees_none (a : Option Addr) (m cap : Nat) (z : Nat → Int) (b : Option Addr) (n capb : Nat) (rs : Nat → RuleL) (x : WhoL) (w : World) (hu : Sl w a m z) (hm : m ≤ maxLen) (hs : SlR w b n rs) (hn : n ≤ maxLen) (hok : askE m z n rs x = 0) (hx : (m : Int) ≤ x.role) :
    Calls Try.prog 9 #[.slice a m cap, .slice b n capb, x.v] w fun e w' => e = .returned (.tuple #[.int .i64 0, .int .i64 4]) ∧ Below w.heap.size w w' := by
  have hA : Below w.heap.size w (w.alloc (.cells #[.int .i64 x.role, .int .i64 x.why, .int .i64 x.time] 25)) := (Below.refl _ _).alloc (Nat.le_refl _) _
  have HC := Lib.hid (ask_any a m cap z b n capb rs x _ (hu.below hA) hm (hs.below hA) hn)
  have HV := Lib.hid (slv_of hu (askE_zero hok).1)
  have HX := Lib.hid hx; have H0 := Lib.hid hok
  clear hu hs hm hn hok hx
  go_enter Try.func9, Try.ntmps9
  go_wp2_with fail
  refine HC.out.mono ?_
  rintro e w1 ⟨rfl, hb1⟩
  rw [H0.out]
  have hB1 : Below w.heap.size w w1 := hA.trans (hb1.mono (by simp))
  have x0 : w1.cell? ⟨w.heap.size, 0, none⟩ = some (.int .i64 x.role) := by rw [hb1.cell (by simp)]; simp
  have x1 : w1.cell? ⟨w.heap.size, 1, none⟩ = some (.int .i64 x.why) := by rw [hb1.cell (by simp)]; simp
  have x2 : w1.cell? ⟨w.heap.size, 2, none⟩ = some (.int .i64 x.time) := by rw [hb1.cell (by simp)]; simp
  have HV1 := Lib.hid (HV.out.below hB1)
  clear hb1
  go_wp2_with fail
  refine (all_err (a := a) (n := m) (cap := cap) x.role 4 w1 (.inr (.inr rfl)) (checkRole_none cap x.role w1 HV1.out (by have := HX.out; omega))).mono ?_
  rintro e w' ⟨rfl, rfl⟩
  go_wp2_with fail
  go_ret2
  exact ⟨rfl, hB1⟩

set_option maxRecDepth 100000 in
set_option maxHeartbeats 2000000 in
theorem sees_ok (a : Option Addr) (m cap : Nat) (z : Nat → Int) (b : Option Addr) (n capb : Nat) (rs : Nat → RuleL) (x : WhoL) (w : World) (hu : Sl w a m z) (hm : m ≤ maxLen) (hs : SlR w b n rs) (hn : n ≤ maxLen) (hok : askE m z n rs x = 0) (hx : x.role < (m : Int)) :
    Calls Try.prog 9 #[.slice a m cap, .slice b n capb, x.v] w fun e w' => e = .returned (.tuple #[.int .i64 (seen m (nats z) x n rs : Nat), .int .i64 0]) ∧ Below w.heap.size w w' := by
  have hA : Below w.heap.size w (w.alloc (.cells #[.int .i64 x.role, .int .i64 x.why, .int .i64 x.time] 25)) := (Below.refl _ _).alloc (Nat.le_refl _) _
  have HC := Lib.hid (ask_any a m cap z b n capb rs x _ (hu.below hA) hm (hs.below hA) hn)
  obtain ⟨hk1, hk2, hk3⟩ := askE_zero hok
  obtain ⟨hn20, hrs⟩ := rulesErr_zero hk2
  have hv := slv_of hu hk1
  obtain ⟨q, hq⟩ := Int.eq_ofNat_of_zero_le hk3.1.1
  have hqm : q < m := by omega
  obtain ⟨M, hM⟩ : ∃ M, allU (nats z) q = M := ⟨_, rfl⟩
  have hM2 : M < 256 := by rw [← hM]; exact allU_lt hv.2 hqm
  have hfin : Hid (sub (alwN M x rs n) (denN M x rs n) = seen m (nats z) x n rs) := by
    have h := seen_masks hv.2 (x := x) (by rw [hq]; exact hqm) hrs
    rw [hq] at h
    rw [← hM]
    exact h
  have HALL : Hid (∀ w', Below w.heap.size w w' → Calls Try.prog 25 #[.slice a m cap, .int .i64 x.role] w' fun e w'' => e = .returned (.tuple #[.int .i64 (M : Nat), .int .i64 0]) ∧ w' = w'') := by
    intro w' hb
    rw [hq, ← hM]
    exact all_valid cap q w' (hv.below hb) hqm
  have HS := Lib.hid hs; have H0 := Lib.hid hok; have HRS := Lib.hid hrs
  clear hu hs hm hn hok hx hk1 hk2 hk3 hrs hv hq hqm hM
  go_enter Try.func9, Try.ntmps9
  go_wp2_with fail
  refine HC.out.mono ?_
  rintro e w1 ⟨rfl, hb1⟩
  rw [H0.out]
  have hB1 : Below w.heap.size w w1 := hA.trans (hb1.mono (by simp))
  have x0 : w1.cell? ⟨w.heap.size, 0, none⟩ = some (.int .i64 x.role) := by rw [hb1.cell (by simp)]; simp
  have x1 : w1.cell? ⟨w.heap.size, 1, none⟩ = some (.int .i64 x.why) := by rw [hb1.cell (by simp)]; simp
  have x2 : w1.cell? ⟨w.heap.size, 2, none⟩ = some (.int .i64 x.time) := by rw [hb1.cell (by simp)]; simp
  clear hb1
  go_wp2_with fail
  refine (HALL.out w1 hB1).mono ?_
  rintro e w' ⟨rfl, rfl⟩
  have HW := Lib.hid (show WhoAt w1 w.heap.size x from ⟨x0, x1, x2⟩)
  clear x0 x1 x2
  go_wp2_with fail
  go_loopw [11, 12, 34] (fun s t i wr => ∃ k A D : Nat, k ≤ n ∧ i = .int .i64 k ∧ s = .int .i64 A ∧ t = .int .i64 D ∧ Hid (A = alwN M x rs k) ∧ Hid (D = denN M x rs k) ∧ A < 256 ∧ D < 256 ∧ Below w.heap.size w wr ∧ Hid (WhoAt wr w.heap.size x)) (fun _ _ i _ => n - (intOf i).toNat)
  case atStart => exact ⟨0, 0, 0, Nat.zero_le _, rfl, rfl, rfl, rfl, rfl, by omega, by omega, hB1, HW⟩
  case round =>
    obtain ⟨k, A, D, hk, rfl, rfl, rfl, HA, HD, hA2, hD2, hB, HW2⟩ := hrel
    by_cases hlt : k < n
    · obtain ⟨bb, off, rfl, hc⟩ := (HS.out.below hB) k hlt
      have hblt := cell_lt hc.1
      obtain ⟨c0, c1, c2, c3, c4, c5⟩ := hc
      obtain ⟨x0, x1, x2⟩ := HW2.out
      have hwlt : w.heap.size < wr.heap.size := cell_lt x0
      obtain ⟨cc, hcc⟩ := Int.eq_ofNat_of_zero_le (HRS.out k hlt).1.2.2.2.2.1
      have hcc2 : cc < 256 := by have := (HRS.out k hlt).1.2.2.2.2.2; omega
      have HOA : Hid (bits .or .i64 (A : Int) (rs k).cats = ((A ||| (rs k).cats.toNat : Nat) : Int)) := by
        show _ = _
        rw [hcc, Int.toNat_natCast]
        exact i64_or A cc (by omega) (by omega)
      have HOD : Hid (bits .or .i64 (D : Int) (rs k).cats = ((D ||| (rs k).cats.toNat : Nat) : Int)) := by
        show _ = _
        rw [hcc, Int.toNat_natCast]
        exact i64_or D cc (by omega) (by omega)
      have hct : (rs k).cats.toNat < 256 := by rw [hcc, Int.toNat_natCast]; exact hcc2
      clear hcc hcc2
      have hBa : Below w.heap.size w (wr.alloc (.cells #[.int .i64 (rs k).role, .int .i64 (rs k).why, .int .i64 (rs k).frm, .int .i64 (rs k).til, .int .i64 (rs k).cats, .bool (rs k).allow] 27)) := hB.alloc hB.size _
      have HWa := Lib.hid (HW2.out.below ((Below.refl _ _).alloc (Nat.le_refl _) (.cells #[.int .i64 (rs k).role, .int .i64 (rs k).why, .int .i64 (rs k).frm, .int .i64 (rs k).til, .int .i64 (rs k).cats, .bool (rs k).allow] 27)))
      obtain ⟨f, hf⟩ : ∃ f, isForB M x (rs k) = f := ⟨_, rfl⟩
      obtain ⟨al, hal⟩ : ∃ al, (rs k).allow = al := ⟨_, rfl⟩
      have HF := Lib.hid hf; have HAL := Lib.hid hal
      have HSA : Hid (alwN M x rs (k + 1) = if f && al then A ||| (rs k).cats.toNat else A) := by show alwN M x rs (k + 1) = _; rw [alwN, hf, hal, ← HA.out]
      have HSD : Hid (denN M x rs (k + 1) = if f && !al then D ||| (rs k).cats.toNat else D) := by show denN M x rs (k + 1) = _; rw [denN, hf, hal, ← HD.out]
      clear hf hal
      go_wp2_with fail
      refine (isFor_any (rs k) M x _ (HRS.out k hlt) hM2).mono ?_
      rintro e w2 ⟨rfl, hb2⟩
      rw [HF.out]
      have hB2 : Below w.heap.size w w2 := hBa.trans (hb2.mono hBa.size)
      have HW3 := Lib.hid (HWa.out.below hb2)
      have y5 : w2.cell? ⟨wr.heap.size, 5, none⟩ = some (.bool al) := by rw [hb2.cell (by simp)]; simp [HAL.out]
      have y4 : w2.cell? ⟨wr.heap.size, 4, none⟩ = some (.int .i64 (rs k).cats) := by rw [hb2.cell (by simp)]; simp
      clear hb2 c0 c1 c2 c3 c4 c5 x0 x1 x2 hBa
      cases f
      · go_wp2_with fail
        go_roundw
        case rel => exact ⟨k + 1, A, D, by omega, by go_num, rfl, rfl, by show A = _; rw [HSA.out]; rfl, by show D = _; rw [HSD.out]; rfl, hA2, hD2, hB2, HW3⟩
        case measure => simp [intOf]; omega
      · cases al
        · go_wp2_with fail
          go_roundw
          case rel => exact ⟨k + 1, A, D ||| (rs k).cats.toNat, by omega, by go_num, rfl, by rw [HOD.out], by show A = _; rw [HSA.out]; rfl, by show _ = _; rw [HSD.out]; rfl, hA2, Nat.or_lt_two_pow (n := 8) hD2 hct, hB2, HW3⟩
          case measure => simp [intOf]; omega
        · go_wp2_with fail
          go_roundw
          case rel => exact ⟨k + 1, A ||| (rs k).cats.toNat, D, by omega, by go_num, by rw [HOA.out], rfl, by show _ = _; rw [HSA.out]; rfl, by show D = _; rw [HSD.out]; rfl, Nat.or_lt_two_pow (n := 8) hA2 hct, hD2, hB2, HW3⟩
          case measure => simp [intOf]; omega
    · obtain rfl : k = n := by omega
      have HN : Hid (bits .andNot .i64 (A : Int) (D : Int) = ((seen m (nats z) x k rs : Nat) : Int)) := by
        show _ = _
        rw [i64_andNot A D (by omega) (by omega), HA.out, HD.out, hfin.out]
      go_wp2_with fail
      go_ret2
      exact ⟨by rw [HN.out]; rfl, hB⟩

theorem sees_any (a : Option Addr) (m cap : Nat) (z : Nat → Int) (b : Option Addr) (n capb : Nat) (rs : Nat → RuleL) (x : WhoL) (w : World) (hu : Sl w a m z) (hm : m ≤ maxLen) (hs : SlR w b n rs) (hn : n ≤ maxLen) :
    Calls Try.prog 9 #[.slice a m cap, .slice b n capb, x.v] w fun e w' => e = .returned (.tuple #[.int .i64 (seesV m z n rs x : Nat), .int .i64 (seesE m z n rs x)]) ∧ Below w.heap.size w w' := by
  by_cases h0 : askE m z n rs x = 0
  · by_cases h4 : x.role < (m : Int)
    · have h := seesE_ok h0 h4
      rw [seesV_ok h, h]
      exact sees_ok a m cap z b n capb rs x w hu hm hs hn h0 h4
    · have h := seesE_none h0 (show (m : Int) ≤ x.role by omega)
      rw [seesV_err (by rw [h]; decide), h]
      exact sees_none a m cap z b n capb rs x w hu hm hs hn h0 (by omega)
  · have h := seesE_ask h0
    rw [seesV_err (by rw [h]; exact h0), h]
    exact sees_err a m cap z b n capb rs x w hu hm hs hn h0

set_option maxHeartbeats 1000000 in
theorem may_any (a : Option Addr) (m cap : Nat) (z : Nat → Int) (b : Option Addr) (n capb : Nat) (rs : Nat → RuleL) (x : WhoL) (cats : Int) (w : World) (hu : Sl w a m z) (hm : m ≤ maxLen) (hs : SlR w b n rs) (hn : n ≤ maxLen) :
    Calls Try.prog 10 #[.slice a m cap, .slice b n capb, x.v, .int .i64 cats] w fun e w' => e = .returned (.tuple #[.bool (mayV m z n rs x cats), .int .i64 (mayE m z n rs x cats)]) ∧ Below w.heap.size w w' := by
  have hA : Below w.heap.size w (w.alloc (.cells #[.int .i64 x.role, .int .i64 x.why, .int .i64 x.time] 25)) := (Below.refl _ _).alloc (Nat.le_refl _) _
  have HC := Lib.hid (sees_any a m cap z b n capb rs x _ (hu.below hA) hm (hs.below hA) hn)
  clear hu hs hm hn
  obtain ⟨v, hv⟩ : ∃ v, seesE m z n rs x = v := ⟨_, rfl⟩
  have hcs := seesE_cases (m := m) (z := z) (n := n) (rs := rs) (x := x)
  rw [hv] at hcs
  have hV := seesV_lt (m := m) (z := z) (n := n) (rs := rs) (x := x)
  have HV := Lib.hid hv
  by_cases h0 : v = 0
  · subst h0
    clear hcs
    obtain ⟨S, hS⟩ : ∃ S, seesV m z n rs x = S := ⟨_, rfl⟩
    rw [hS] at hV
    by_cases hc : 0 ≤ cats ∧ cats ≤ 255
    · have hE : Hid (mayE m z n rs x cats = 0) := by show _ = _; unfold mayE; rw [if_neg (by simp [hv]), if_pos hc]
      have hM : Hid (mayV m z n rs x cats = decide (sub cats.toNat S = 0)) := by show _ = _; unfold mayV; rw [hE.out, hS]; rfl
      obtain ⟨d, rfl⟩ := Int.eq_ofNat_of_zero_le hc.1
      have HN : Hid (bits .andNot .i64 (d : Int) (S : Int) = ((sub d S : Nat) : Int)) := i64_andNot d S (by omega) (by omega)
      have HCC := Lib.hid hc; have HS := Lib.hid hS
      clear hv hc hS
      go_enter Try.func10, Try.ntmps10
      go_wp2_with fail
      refine HC.out.mono ?_
      rintro e w1 ⟨rfl, hb1⟩
      rw [HV.out, HS.out]
      have hB1 : Below w.heap.size w w1 := hA.trans (hb1.mono (by simp))
      clear hb1
      go_wp2_with fail
      refine (isCats_yes d _ HCC.out).mono ?_
      rintro e w2 ⟨rfl, hb2, -⟩
      have hB2 : Below w.heap.size w w2 := hB1.trans (hb2.mono hB1.size)
      clear hb2
      go_wp2_with fail
      go_ret2
      exact ⟨by rw [hM.out, hE.out, HN.out, Int.toNat_natCast]; exact tup_dec _, hB2⟩
    · have hE : Hid (mayE m z n rs x cats = 1) := by show _ = _; unfold mayE; rw [if_neg (by simp [hv]), if_neg hc]
      have hM : Hid (mayV m z n rs x cats = false) := by show _ = _; unfold mayV; rw [hE.out]; rfl
      have HCC := Lib.hid hc; have HS := Lib.hid hS
      clear hv hc hS
      go_enter Try.func10, Try.ntmps10
      go_wp2_with fail
      refine HC.out.mono ?_
      rintro e w1 ⟨rfl, hb1⟩
      rw [HV.out, HS.out]
      have hB1 : Below w.heap.size w w1 := hA.trans (hb1.mono (by simp))
      clear hb1
      go_wp2_with fail
      refine (isCats_no cats _ HCC.out).mono ?_
      rintro e w2 ⟨rfl, hb2, -⟩
      have hB2 : Below w.heap.size w w2 := hB1.trans (hb2.mono hB1.size)
      clear hb2
      go_wp2_with fail
      go_ret2
      exact ⟨by rw [hM.out, hE.out]; rfl, hB2⟩
  · have hE : Hid (mayE m z n rs x cats = v) := by show _ = _; unfold mayE; rw [if_pos (by rw [hv]; exact h0), hv]
    have hM : Hid (mayV m z n rs x cats = false) := by show _ = _; unfold mayV; rw [hE.out, decide_eq_false h0]; rfl
    have hS : Hid (seesV m z n rs x = 0) := seesV_err (by rw [hv]; exact h0)
    clear hv hV
    rcases hcs with rfl | rfl | rfl | rfl | rfl
    · exact absurd rfl h0
    all_goals
      clear h0
      go_enter Try.func10, Try.ntmps10
      go_wp2_with fail
      refine HC.out.mono ?_
      rintro e w1 ⟨rfl, hb1⟩
      rw [HV.out, hS.out]
      have hB1 : Below w.heap.size w w1 := hA.trans (hb1.mono (by simp))
      clear hb1
      go_wp2_with fail
      go_ret2
      exact ⟨by rw [hM.out, hE.out]; rfl, hB1⟩
end Go.Proofs.Ytpjmhajhmkfolaa
