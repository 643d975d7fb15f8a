/- The walk of RuleRoles. -/
import Derived.Test.YtpjmhajhmkfolaaSeesLit
import Derived.Test.YtpjmhajhmkfolaaApp
import Derived.Test.YtpjmhajhmkfolaaUps
import Derived.Test.YtpjmhajhmkfolaaRoleHas
set_option linter.unusedVariables false
set_option linter.unusedSimpArgs false
namespace Go.Proofs.Ytpjmhajhmkfolaa
open Go.RowKit

/-- Sees with roles, and rules written out -/
theorem sees_litz (B B' m n V : Nat) (z : Nat → Int) (rs : Nat → RuleL) (x : WhoL) (w : World) (hu : Sl w (some ⟨B, 0, none⟩) m z) (hm : m ≤ maxLen) (hs : SlR w (some ⟨B', 0, none⟩) n rs) (hn : n ≤ maxLen) (hE : seesE m z n rs x = 0) (hV : seesV m z n rs x = V) :
    Calls Try.prog 9 #[.slice (some ⟨B, 0, none⟩) m m, .slice (some ⟨B', 0, none⟩) n n, x.v] w fun e w' => e = .returned (.tuple #[.int .i64 (V : Nat), .int .i64 0]) ∧ Below w.heap.size w w' := by
  have h := sees_any (some ⟨B, 0, none⟩) m m z (some ⟨B', 0, none⟩) n n rs x w hu hm hs hn
  rw [hE, hV] at h
  exact h
def twoZ (a b : Int) : Nat → Int
  | 0 => a
  | _ => b
theorem sl_two {w : World} {B : Nat} {a b : Int} (h : w.cell? ⟨B, 0, none⟩ = some (.int .i64 a)) (h2 : w.cell? ⟨B, 1, none⟩ = some (.int .i64 b)) : Sl w (some ⟨B, 0, none⟩) 2 (twoZ a b) := fun j hj => by
  match j, hj with
  | 0, _ => exact ⟨B, 0, rfl, h⟩
  | 1, _ => exact ⟨B, 0, rfl, h2⟩

/-- the first k rules allow -/
def alwK (k : Nat) (rs : Nat → RuleL) (i : Nat) : RuleL := if i < k then { rs i with allow := true } else rs i
theorem alwK_set {w : World} {g n k : Nat} {rs : Nat → RuleL} (h : SlR w (some ⟨g, 0, none⟩) n (alwK k rs)) (hk : k < n) : SlR (w.setCell ⟨g, k * 6 + 5, none⟩ (.bool true)) (some ⟨g, 0, none⟩) n (alwK (k + 1) rs) := by
  intro i hi
  obtain ⟨b, off, e, h0, h1, h2, h3, h4, h5⟩ := h i hi
  cases e
  rw [Nat.zero_add] at h0 h1 h2 h3 h4 h5
  have far : ∀ j, j ≠ k * 6 + 5 → (w.setCell ⟨g, k * 6 + 5, none⟩ (.bool true)).cell? ⟨g, j, none⟩ = w.cell? ⟨g, j, none⟩ := fun j hj => World.cell?_setCell_other _ _ _ _ (fun e => hj (by injection e with _ e2 _; exact e2.symm))
  refine ⟨g, 0, rfl, ?_⟩
  unfold RuleAt
  rw [Nat.zero_add]
  by_cases e : i = k
  · subst e
    have e1 : alwK (i + 1) rs i = { rs i with allow := true } := if_pos (by omega)
    have e2 : alwK i rs i = rs i := if_neg (by omega)
    rw [e2] at h0 h1 h2 h3 h4 h5
    rw [e1]
    exact ⟨(far _ (by omega)).trans h0, (far _ (by omega)).trans h1, (far _ (by omega)).trans h2, (far _ (by omega)).trans h3, (far _ (by omega)).trans h4, World.cell?_setCell_same _ _ _ h5⟩
  · have e1 : alwK (k + 1) rs i = alwK k rs i := by
      unfold alwK
      by_cases h : i < k
      · rw [if_pos h, if_pos (by omega)]
      · rw [if_neg h, if_neg (by omega)]
    rw [e1]
    exact ⟨(far _ (by omega)).trans h0, (far _ (by omega)).trans h1, (far _ (by omega)).trans h2, (far _ (by omega)).trans h3, (far _ (by omega)).trans h4, (far _ (by omega)).trans h5⟩

/-- who has more roles sees no less by rules that allow -/
theorem no_allow {m : Nat} {u : Nat → Nat} {x : WhoL} {i : Nat} {rs : Nat → RuleL} : ∀ {n : Nat}, (∀ k, k < n → (rs k).allow = true) → noN m u x i rs n = false
  | 0, _ => rfl
  | n + 1, h => by
    unfold noN
    rw [no_allow fun k hk => h k (by omega), h n (by omega)]
    simp
theorem more_roles {m : Nat} {u : Nat → Nat} (hv : Valid m u) {i j : Nat} (hi : i < m) (hj : j < m) (h : (allU u i).testBit j = true) (y t : Int) {n : Nat} {rs : Nat → RuleL} (ha : ∀ k, k < n → (rs k).allow = true) (hok : ∀ k, k < n → (rs k).ok) :
    sub (seen m u ⟨j, y, t⟩ n rs) (seen m u ⟨i, y, t⟩ n rs) = 0 := by
  have h1 := seen_lt m u ⟨j, y, t⟩ n rs
  have h2 := seen_lt m u ⟨i, y, t⟩ n rs
  refine (sub_zero (by omega) (by omega)).2 fun b hb => ?_
  rw [seen_bit] at hb ⊢
  rw [no_allow ha] at hb ⊢
  simp only [Bool.and_eq_true] at hb ⊢
  refine ⟨hb.1, ?_, rfl⟩
  have key : ∀ k, k ≤ n → yesN m u ⟨j, y, t⟩ b rs k = true → yesN m u ⟨i, y, t⟩ b rs k = true := by
    intro k
    induction k with
    | zero => intro _ h; exact h
    | succ k ih =>
      intro hk h3
      unfold yesN at h3 ⊢
      rw [Bool.or_eq_true] at h3 ⊢
      rcases h3 with h3 | h3
      · exact .inl (ih (by omega) h3)
      · refine .inr ?_
        rw [Bool.and_eq_true] at h3 ⊢
        refine ⟨?_, h3.2⟩
        have h4 := h3.1
        unfold speaks at h4 ⊢
        simp only [Bool.and_eq_true] at h4 ⊢
        refine ⟨⟨⟨h4.1.1.1, ?_⟩, h4.1.2⟩, h4.2⟩
        have h5 := h4.1.1.2
        unfold forRole at h5 ⊢
        rw [Bool.or_eq_true, Bool.and_eq_true] at h5 ⊢
        rcases h5 with h5 | ⟨h5, h6⟩
        · exact .inl h5
        · refine .inr ⟨h5, ?_⟩
          have e1 : ((j : Int)).toNat = j := Int.toNat_natCast j
          have e2 : ((i : Int)).toNat = i := Int.toNat_natCast i
          simp only [e1, e2] at h6 ⊢
          exact (allU_spec hv hi _).2 (((allU_spec hv hi j).1 h).trans ((allU_spec hv hj _).1 h6))
  exact key n (Nat.le_refl _) hb.2.1

theorem rolesErr_valid {m : Nat} {u : Nat → Nat} (hv : Valid m u) : rolesErr m (fun k => (u k : Int)) = 0 := rolesErr_ok hv.1 fun k hk => ⟨Int.natCast_nonneg _, cast_lt_pow (hv.2 k hk)⟩
theorem nats_cast (u : Nat → Nat) : nats (fun k => (u k : Int)) = u := funext fun k => Int.toNat_natCast _

set_option maxRecDepth 100000 in
set_option maxHeartbeats 8000000 in
theorem ruleRoles_walk (a : Option Addr) (n cap : Nat) (z : Nat → Int) (b : Option Addr) (nr capb : Nat) (rs : Nat → RuleL) (i j y t : Int) (w : World) (hu : Sl w a n z) (hn : n ≤ cap) (hcap : cap ≤ maxLen) (hs : SlR w b nr rs) (hnr : nr ≤ maxLen) :
    Calls Try.prog 6 #[.slice a n cap, .slice b nr capb, .int .i64 i, .int .i64 j, .int .i64 y, .int .i64 t] w fun e w' => e = .returned (.bool true) ∧ Below w.heap.size w w' := by
  have HU := Lib.hid hu; have HN := Lib.hid hn; have HCAP := Lib.hid hcap; have HS := Lib.hid hs; have HNR := Lib.hid hnr
  clear hu hn hcap hs hnr
  have hA1 : Below w.heap.size w ((w.alloc (.cells #[.int .i64 0, .int .i64 1] 3)).alloc (.cells #[.int .i64 0, .int .i64 (-1), .int .i64 0, .int .i64 9, .int .i64 5, .bool true] 27)) := ((Below.refl _ _).alloc (Nat.le_refl _) _).alloc (by simp) _
  have HL1 := Lib.hid (sees_litz w.heap.size (w.heap.size + 1) 2 1 5 (twoZ 0 1) (fun _ => ⟨0, -1, 0, 9, 5, true⟩) ⟨1, 0, 0⟩ ((w.alloc (.cells #[.int .i64 0, .int .i64 1] 3)).alloc (.cells #[.int .i64 0, .int .i64 (-1), .int .i64 0, .int .i64 9, .int .i64 5, .bool true] 27)) (sl_two (by go_simp) (by go_simp)) (by decide) (slr_one ⟨by go_simp, by go_simp, by go_simp, by go_simp, by go_simp, by go_simp⟩) (by decide) (by decide +kernel) (by decide +kernel))
  go_enter Try.func6, Try.ntmps6
  go_wp2_with fail
  refine HL1.out.mono ?_
  rintro e w1 ⟨rfl, hb1⟩
  have hB1 : Below w.heap.size w w1 := hA1.trans (hb1.mono hA1.size)
  clear HL1 hb1 hA1
  by_cases h0 : n = 0
  · subst h0
    go_wp2_with fail
    refine (ups_zero a cap z w1 HCAP.out).mono ?_
    rintro e w2 ⟨rfl, hb2⟩
    have hB2 : Below w.heap.size w w2 := hB1.trans (hb2.mono hB1.size)
    clear hb2
    obtain ⟨E, hE⟩ : ∃ E, rulesErr nr rs = E := ⟨_, rfl⟩
    have hEc := rulesErr_cases nr rs
    rw [hE] at hEc
    have HE := Lib.hid hE
    clear hE
    go_wp2_with fail
    refine (rules_any b nr capb rs w2 (HS.out.below hB2) HNR.out).mono ?_
    rintro e w3 ⟨rfl, hb3⟩
    have hB3 : Below w.heap.size w w3 := hB2.trans (hb3.mono hB2.size)
    clear hb3
    rw [HE.out]
    rcases hEc with rfl | rfl | rfl | rfl
    all_goals
      go_wp2_with fail
      go_ret
      exact ⟨rfl, hB3⟩
  · go_wp2_with fail
    refine (ups_pos a n cap z w1 (HU.out.below hB1) (by omega) HN.out HCAP.out).mono ?_
    rintro e w2 ⟨g, c, rfl, hUp, hb2⟩
    have hB2 : Below w.heap.size w w2 := hB1.trans (hb2.mono hB1.size)
    have hM8 : min n 8 ≤ 8 := Nat.min_le_right _ _
    have hM0 : 0 < min n 8 := by omega
    have HM : Hid (SlV w2 (some ⟨g, 0, none⟩) (min n 8) (uz z)) := hUp.slv
    clear hb2 hUp
    obtain ⟨M, hM⟩ : ∃ M, min n 8 = M := ⟨_, rfl⟩
    rw [hM] at hM8 hM0 HM ⊢
    clear hM
    have hMne : ((M : Int) == 0) = false := by simp; omega
    obtain ⟨E, hE⟩ : ∃ E, rulesErr nr rs = E := ⟨_, rfl⟩
    have hEc := rulesErr_cases nr rs
    rw [hE] at hEc
    have HE := Lib.hid hE
    clear hE
    go_wp2_with fail
    refine (rules_any b nr capb rs w2 (HS.out.below hB2) HNR.out).mono ?_
    rintro e w3 ⟨rfl, hb3⟩
    have hB3 : Below w.heap.size w w3 := hB2.trans (hb3.mono hB2.size)
    have HM3 := Lib.hid (HM.out.below hb3)
    clear hb3 HM
    rw [HE.out]
    by_cases hE0 : E = 0
    · subst hE0
      clear hEc
      have hn20 := (rulesErr_zero HE.out).1
      go_wp2_with fail
      refine (cloneR_any b nr capb rs w3 (HS.out.below hB3) (by omega)).mono ?_
      rintro e w4 ⟨v, A, c2, rfl, hv, ho, hb4⟩
      have hB4 : Below w.heap.size w w4 := hB3.trans (hb4.mono hB3.size)
      have HM4 := Lib.hid (HM3.out.below hb4)
      subst hv
      have hfr : Hid (∀ k, k < nr → ∃ b, A = some ⟨b, 0, none⟩ ∧ w3.heap.size ≤ b ∧ ∀ i, w4.frozen? ⟨b, i, none⟩ = false) := by
        intro k hk
        rcases ho.2 with ⟨_, h0⟩ | ⟨g', c', cur, e, hlo, hg, _⟩
        · omega
        · cases e
          refine ⟨g', rfl, hlo, fun i => ?_⟩
          simp [World.frozen?, hg]
      have HSR := Lib.hid ho.slr
      have hUB : Hid (g < w3.heap.size) := by
        obtain ⟨b', off, e, hc⟩ := HM3.out.1 0 hM0
        cases e
        exact cell_lt hc
      clear ho hb4 HM3
      go_wp2_with fail
      go_loopw [53] (fun s wr => ∃ k : Nat, k ≤ nr ∧ s = .int .i64 k ∧ Hid (SlR wr A nr (alwK k rs)) ∧ Hid (∀ k, k < nr → ∃ b, A = some ⟨b, 0, none⟩ ∧ w3.heap.size ≤ b ∧ ∀ i, wr.frozen? ⟨b, i, none⟩ = false) ∧ Below w3.heap.size w4 wr) (fun s _ => nr - (intOf s).toNat)
      case atStart => exact ⟨0, Nat.zero_le _, rfl, by
        have h := HSR.out.1
        have e : alwK 0 rs = rs := funext fun i => if_neg (Nat.not_lt_zero i)
        show SlR _ _ _ _
        rw [e]
        exact h, hfr, Below.refl _ _⟩
      case round =>
        obtain ⟨k, hk, rfl, hSk, hF, hBk⟩ := hrel
        by_cases hlt : k < nr
        · obtain ⟨gb, rfl, hlo, hfz⟩ := hF.out k hlt
          have hcell : wr.cell? ⟨gb, k * 6 + 5, none⟩ = some (.bool (alwK k rs k).allow) := by
            obtain ⟨b', off, e, _, _, _, _, _, h5⟩ := hSk.out k hlt
            cases e
            rw [Nat.zero_add] at h5
            exact h5
          have hfz5 := hfz (k * 6 + 5)
          have hrel2 : Hid (SlR (wr.setCell ⟨gb, k * 6 + 5, none⟩ (.bool true)) (some ⟨gb, 0, none⟩) nr (alwK (k + 1) rs)) := alwK_set hSk.out hlt
          have hB5 : Hid (Below w3.heap.size w4 (wr.setCell ⟨gb, k * 6 + 5, none⟩ (.bool true))) := hBk.setCell hlo _
          clear hfz
          go_wp2_with fail
          go_roundw
          case rel => exact ⟨k + 1, by omega, by go_num, hrel2, fun k' hk' => by
            obtain ⟨b', e, h1, h2⟩ := hF.out k' hk'
            exact ⟨b', e, h1, fun i => by rw [World.frozen?_setCell]; exact h2 i⟩, hB5.out⟩
          case measure => simp [intOf]; omega
        · obtain rfl : k = nr := by omega
          have hB5 : Below w.heap.size w wr := hB4.trans (hBk.mono hB3.size)
          have HM5 : Hid (SlV wr (some ⟨g, 0, none⟩) M (uz z)) := by
            refine ⟨fun l hl => ?_, HM4.out.2⟩
            obtain ⟨b', off, e, hc⟩ := HM4.out.1 l hl
            cases e
            exact ⟨g, 0, rfl, (hBk.cell (p := ⟨g, 0 + l, none⟩) hUB.out).trans hc⟩
          obtain ⟨I, hI⟩ : ∃ I, wit i M = I := ⟨_, rfl⟩
          obtain ⟨J, hJ⟩ : ∃ J, wit j M = J := ⟨_, rfl⟩
          obtain ⟨Y, hY⟩ : ∃ Y, wit y 4 = Y := ⟨_, rfl⟩
          obtain ⟨T, hT⟩ : ∃ T, wit t 1000 = T := ⟨_, rfl⟩
          have hI2 : I < M := by have := wit_lt i M (by omega); omega
          have hJ2 : J < M := by have := wit_lt j M (by omega); omega
          have hY2 : Y < 4 := by have := wit_lt y 4 (by omega); omega
          have hT2 : T < 1000 := by have := wit_lt t 1000 (by omega); omega
          have WI := Lib.hid hI; have WJ := Lib.hid hJ; have WY := Lib.hid hY; have WT := Lib.hid hT
          clear hI hJ hY hT hBk HM4 hF hfr HSR
          go_wp2_with fail
          refine (within_to WI.out _ (by omega) (by omega)).mono ?_
          rintro e w' ⟨rfl, rfl⟩
          go_wp2_with fail
          refine (within_to WJ.out _ (by omega) (by omega)).mono ?_
          rintro e w' ⟨rfl, rfl⟩
          go_wp2_with fail
          refine (within_to WY.out _ (by omega) (by omega)).mono ?_
          rintro e w' ⟨rfl, rfl⟩
          go_wp2_with fail
          refine (within_to WT.out _ (by omega) (by omega)).mono ?_
          rintro e w' ⟨rfl, rfl⟩
          go_wp2_with fail
          have hAA : Below wr.heap.size wr ((wr.alloc (.cells #[.int .i64 I, .int .i64 Y, .int .i64 T] 25)).alloc (.cells #[.int .i64 J, .int .i64 Y, .int .i64 T] 25)) := ((Below.refl _ _).alloc (Nat.le_refl _) _).alloc (by simp) _
          have hB6 := hB5.trans (hAA.mono hB5.size)
          have HM6 := Lib.hid (HM5.out.below hAA)
          have HS6 := Lib.hid (hSk.out.below hAA)
          obtain ⟨hb, hhb⟩ : ∃ hb, (allU (uz z) I).testBit J = hb := ⟨_, rfl⟩
          have hok : ∀ l, l < k → (rs l).ok := (rulesErr_zero HE.out).2
          have hok2 : ∀ l, l < k → (alwK k rs l).ok := fun l hl => by
            have e : alwK k rs l = { rs l with allow := true } := if_pos hl
            rw [e]
            exact hok l hl
          have hall : ∀ l, l < k → (alwK k rs l).allow = true := fun l hl => by
            have e : alwK k rs l = { rs l with allow := true } := if_pos hl
            rw [e]
          have hMm : M ≤ maxLen := by unfold maxLen; omega
          have hkm : k ≤ maxLen := by unfold maxLen; omega
          have hEI : seesE M (fun l => (uz z l : Int)) k (alwK k rs) ⟨I, Y, T⟩ = 0 := seesE_of (rolesErr_valid HM5.out.2) hn20 hok2 ⟨⟨by show (0 : Int) ≤ I; omega, by show (I : Int) ≤ 7; omega⟩, ⟨by show (0 : Int) ≤ Y; omega, by show (Y : Int) ≤ 3; omega⟩, by show (0 : Int) ≤ T; omega, by show (T : Int) ≤ 999; omega⟩ (by show (I : Int) < M; omega)
          have hEJ : seesE M (fun l => (uz z l : Int)) k (alwK k rs) ⟨J, Y, T⟩ = 0 := seesE_of (rolesErr_valid HM5.out.2) hn20 hok2 ⟨⟨by show (0 : Int) ≤ J; omega, by show (J : Int) ≤ 7; omega⟩, ⟨by show (0 : Int) ≤ Y; omega, by show (Y : Int) ≤ 3; omega⟩, by show (0 : Int) ≤ T; omega, by show (T : Int) ≤ 999; omega⟩ (by show (J : Int) < M; omega)
          obtain ⟨VI, hVI⟩ : ∃ VI, seesV M (fun l => (uz z l : Int)) k (alwK k rs) ⟨I, Y, T⟩ = VI := ⟨_, rfl⟩
          obtain ⟨VJ, hVJ⟩ : ∃ VJ, seesV M (fun l => (uz z l : Int)) k (alwK k rs) ⟨J, Y, T⟩ = VJ := ⟨_, rfl⟩
          have hVI2 : VI < 256 := by rw [← hVI]; exact seesV_lt
          have hVJ2 : VJ < 256 := by rw [← hVJ]; exact seesV_lt
          have hfin : Hid (hb = true → (bits .andNot .i64 (VJ : Int) (VI : Int) == 0) = true) := fun h => by
            have h1 := more_roles HM5.out.2 hI2 hJ2 (by rw [hhb]; exact h) Y T hall hok2
            rw [seesV_ok hEI, nats_cast] at hVI
            rw [seesV_ok hEJ, nats_cast] at hVJ
            rw [hVI, hVJ] at h1
            rw [i64_andNot VJ VI (by omega) (by omega), h1]
            rfl
          have HSI : Hid (∀ w', Below wr.heap.size wr w' → Calls Try.prog 9 #[.slice (some ⟨g, 0, none⟩) M c, .slice A k c2, .agg #[.int .i64 I, .int .i64 Y, .int .i64 T]] w' fun e w'' => e = .returned (.tuple #[.int .i64 (VI : Nat), .int .i64 0]) ∧ Below w'.heap.size w' w'') := fun w' h => by
            have h1 := sees_any (some ⟨g, 0, none⟩) M c _ A k c2 (alwK k rs) ⟨I, Y, T⟩ w' ((HM5.out.below h).1) hMm (hSk.out.below h) hkm
            rw [hVI, hEI] at h1
            exact h1
          have HSJ : Hid (∀ w', Below wr.heap.size wr w' → Calls Try.prog 9 #[.slice (some ⟨g, 0, none⟩) M c, .slice A k c2, .agg #[.int .i64 J, .int .i64 Y, .int .i64 T]] w' fun e w'' => e = .returned (.tuple #[.int .i64 (VJ : Nat), .int .i64 0]) ∧ Below w'.heap.size w' w'') := fun w' h => by
            have h1 := sees_any (some ⟨g, 0, none⟩) M c _ A k c2 (alwK k rs) ⟨J, Y, T⟩ w' ((HM5.out.below h).1) hMm (hSk.out.below h) hkm
            rw [hVJ, hEJ] at h1
            exact h1
          have HHB := Lib.hid hhb
          clear hVI hVJ hEI hEJ hok hok2 hall hhb hMm hkm
          refine (has_valid c I J _ HM6.out hI2 hJ2).mono ?_
          rintro e w' ⟨rfl, rfl⟩
          rw [HHB.out]
          go_wp2_with fail
          refine (HSI.out _ hAA).mono ?_
          rintro e w6 ⟨rfl, hb6⟩
          have hAA2 := hAA.trans (hb6.mono hAA.size)
          have v0 : w6.cell? ⟨wr.heap.size + 1, 0, none⟩ = some (.int .i64 J) := by rw [hb6.cell (by simp)]; simp
          have v1 : w6.cell? ⟨wr.heap.size + 1, 1, none⟩ = some (.int .i64 Y) := by rw [hb6.cell (by simp)]; simp
          have v2 : w6.cell? ⟨wr.heap.size + 1, 2, none⟩ = some (.int .i64 T) := by rw [hb6.cell (by simp)]; simp
          clear hb6 hAA hB6
          go_wp2_with fail
          refine (HSJ.out _ hAA2).mono ?_
          rintro e w7 ⟨rfl, hb7⟩
          have hB7 := hB5.trans ((hAA2.trans (hb7.mono hAA2.size)).mono hB5.size)
          clear hb7 hAA2 v0 v1 v2
          cases hb
          · go_wp2_with fail
            go_ret
            exact ⟨rfl, hB7⟩
          · have hf := hfin.out rfl
            go_wp2_with fail
            go_ret
            exact ⟨rfl, hB7⟩
    · rcases hEc with rfl | rfl | rfl | rfl
      · exact absurd rfl hE0
      all_goals
        clear hE0
        go_wp2_with fail
        go_ret
        exact ⟨rfl, hB3⟩
end Go.Proofs.Ytpjmhajhmkfolaa
