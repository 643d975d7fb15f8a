/- The walk of RoleDeep. -/
import Derived.Test.YthbimgibpiejcaaDeep
import Derived.Test.YthbimgibpiejcaaRoleAll
import Derived.Deep.CutRange
set_option linter.unusedVariables false
set_option linter.unusedSimpArgs false
namespace Go.Proofs.Ythbimgibpiejcaa
open Go.RowKit

/-- the last role below k that comes with role i at once and is one less deep; -1, if there is none -/
def nextN (u : Nat → Nat) (i : Nat) : Nat → Int
  | 0 => -1
  | k + 1 => if (u i).testBit k = true ∧ dep u i = dep u k + 1 then (k : Int) else nextN u i k

theorem nextN_is (u : Nat → Nat) (i : Nat) : ∀ k, nextN u i k = -1 ∨ ∃ l, l < k ∧ nextN u i k = (l : Int)
  | 0 => .inl rfl
  | k + 1 => by
    unfold nextN
    split
    · exact .inr ⟨k, by omega, rfl⟩
    · rcases nextN_is u i k with h | ⟨l, h1, h2⟩
      · exact .inl h
      · exact .inr ⟨l, by omega, h2⟩
theorem nextN_found (u : Nat → Nat) (i : Nat) : ∀ k l, l < k → (u i).testBit l = true → dep u i = dep u l + 1 → nextN u i k ≠ -1
  | 0, l, h, _, _ => by omega
  | k + 1, l, h, hb, he => by
    unfold nextN
    split
    · omega
    · rename_i hn
      by_cases e : l = k
      · subst e
        exact absurd ⟨hb, he⟩ hn
      · exact nextN_found u i k l (by omega) hb he
theorem nextN_end {u : Nat → Nat} {i : Nat} (h : dep u i ≠ 0) : ∃ l, l < i ∧ nextN u i i = (l : Int) := by
  obtain ⟨k, h1, h2, h3⟩ := dep_next h
  rcases nextN_is u i i with h4 | h4
  · exact absurd h4 (nextN_found u i i k h1 h2 h3)
  · exact h4

set_option maxHeartbeats 400000 in
theorem roleDeep_empty (a0 : Option Addr) (cap0 : Nat) (a1 a2 : Int) (w : World) (hcap : cap0 ≤ maxLen) :
    Calls Try.prog 10 #[.slice a0 0 cap0, .int .i64 a1, .int .i64 a2] w fun e w' => e = .returned (.bool true) ∧ Below w.heap.size w w' := by
  have h3 := slv_three w 0 1 3 (by omega) (by omega) (by omega)
  go_enter Try.func10, Try.ntmps10
  go_wp2_with fail
  refine (deep_valid 3 2 _ h3 (by omega)).mono ?_
  rintro e w1 ⟨rfl, hb1, hz1⟩
  rw [show dep (fun k => [0, 1, 3].getD k 0) 2 = 2 from by decide]
  go_wp2_with fail
  refine (ups_zero a0 cap0 (fun _ => 0) _ hcap).mono ?_
  rintro e w2 ⟨rfl, hb2⟩
  go_wp2_with fail
  go_ret
  have h1 : Below w.heap.size w w1 := ((Below.refl _ _).alloc (Nat.le_refl _) _).trans (hb1.mono (by simp))
  exact ⟨rfl, h1.trans (hb2.mono h1.size)⟩

set_option maxRecDepth 100000 in
set_option maxHeartbeats 2000000 in
theorem roleDeep_pos (a0 : Option Addr) (n cap0 : Nat) (z : Nat → Int) (a1 a2 : Int) (w : World) (hs : Sl w a0 n z) (h0 : 0 < n) (hn : n ≤ cap0) (hcap : cap0 ≤ maxLen) :
    Calls Try.prog 10 #[.slice a0 n cap0, .int .i64 a1, .int .i64 a2] w fun e w' => e = .returned (.bool true) ∧ Below w.heap.size w w' := by
  have h3 := slv_three w 0 1 3 (by omega) (by omega) (by omega)
  obtain ⟨m, hm⟩ : ∃ m, min n 8 = m := ⟨_, rfl⟩
  obtain ⟨i, hi⟩ : ∃ i, wit a1 (m : Int) = i := ⟨_, rfl⟩
  obtain ⟨j, hj⟩ : ∃ j, wit a2 (m : Int) = j := ⟨_, rfl⟩
  have hmp : 0 < m := by omega
  have hm8 : m ≤ 8 := by omega
  have hil : i < m := by have := wit_lt a1 m (by omega); omega
  have hjl : j < m := by have := wit_lt a2 m (by omega); omega
  have hup := fun w' (hb : Below w.heap.size w w') => ups_pos a0 n cap0 z w' (hs.below hb) h0 hn hcap
  rw [hm] at hup
  have HI := Lib.hid hi; have HJ := Lib.hid hj
  have HS := Lib.hid hs; have HU := Lib.hid hup
  clear hi hj hs hup hm
  go_enter Try.func10, Try.ntmps10
  go_wp2_with fail
  refine (deep_valid 3 2 _ h3 (by omega)).mono ?_
  rintro e w1 ⟨rfl, hb1, hz1⟩
  have hB1 : Below w.heap.size w w1 := ((Below.refl _ _).alloc (Nat.le_refl _) _).trans (hb1.mono (by simp))
  rw [show dep (fun k => [0, 1, 3].getD k 0) 2 = 2 from by decide]
  clear hb1 hz1 h3
  go_wp2_with fail
  refine (HU.out _ hB1).mono ?_
  rintro e w2 ⟨g, c, rfl, hat, hb2⟩
  have hB2 : Below w.heap.size w w2 := hB1.trans (hb2.mono hB1.size)
  have hsl := hat.slv
  have hval := hsl.2
  have hmc := hat.le
  have hmx := hat.max
  unfold maxLen at hmx
  clear hat hb2 HU HS hB1
  go_wp2_with fail
  refine (within_to HI.out _ (by omega) (by omega)).mono ?_
  rintro e w' ⟨rfl, rfl⟩
  go_wp2_with fail
  refine (within_to HJ.out _ (by omega) (by omega)).mono ?_
  rintro e w' ⟨rfl, rfl⟩
  go_wp2_with fail
  obtain ⟨bb, hbb⟩ : ∃ bb, (allU (uz z) i).testBit j = bb := ⟨_, rfl⟩
  refine (has_valid c i j _ hsl hil hjl).mono ?_
  rintro e w' ⟨rfl, rfl⟩
  rw [hbb]
  have HBB := Lib.hid hbb
  clear hbb
  go_wp2_with fail
  refine (deep_valid c i _ hsl hil).mono ?_
  rintro e w3 ⟨rfl, hb3, hz3⟩
  go_wp2_with fail
  refine (deep_valid c j _ (hsl.below hb3) hjl).mono ?_
  rintro e w4 ⟨rfl, hb4, hz4⟩
  have hD4 : Below w2.heap.size w2 w4 := hb3.trans (hb4.mono hb3.size)
  have HV := Lib.hid hval
  have HL := Lib.hid hsl
  clear hval hsl hb3 hb4 hz3 hz4
  have hdi := dep_le (uz z) i
  go_upto_region 11 with (fail)
  go_cut [97] from 66 to 97 (fun s97 wc => s97 = .bool false ∧ wc = w4)
  case first =>
    have hn1 : ¬ i < dep (uz z) i := by omega
    have hn2 : ¬ (i : Int) < dep (uz z) i := by omega
    cases bb
    · go_wp2_with fail
      go_meet
      case rel => exact ⟨rfl, rfl⟩
    · have hre := (allU_spec HV.out hil j).1 HBB.out
      by_cases e : i = j
      · subst e
        go_wp2_with fail
        go_meet
        case rel => exact ⟨rfl, rfl⟩
      · have e1 : ((i : Int) != (j : Int)) = true := by simp; omega
        have e1' : (i != j) = true := by simp; omega
        have hlt := dep_reach HV.out hre hil e
        have e2 : ¬ dep (uz z) i ≤ dep (uz z) j := by omega
        have e2' : ¬ (dep (uz z) i : Int) ≤ dep (uz z) j := by omega
        clear hre hlt
        go_wp2_with fail
        go_meet
        case rel => exact ⟨rfl, rfl⟩
  case rest =>
    obtain ⟨rfl, rfl⟩ := hcut
    clear hdi
    go_wp2_with fail
    go_loopw [16] (fun s wr => ∃ at_ : Nat, at_ < m ∧ s = .int .i64 at_ ∧ Below w2.heap.size w2 wr) (fun s _ => (intOf s).toNat)
    case atStart => exact ⟨i, hil, rfl, hD4⟩
    case round =>
      obtain ⟨p, hp, rfl, hDr⟩ := hrel
      have HR := Lib.hid (HL.out.below hDr)
      by_cases h0d : dep (uz z) p = 0
      · have hu := dep_zero HV.out hp h0d
        go_wp2_with fail
        refine (deep_valid c p _ HR.out hp).mono ?_
        rintro e w5 ⟨rfl, hb5, hz5⟩
        have hD5 := hDr.trans (hb5.mono hDr.size)
        have cp : w5.cell? ⟨g, p, none⟩ = some (.int .i64 0) := by
          obtain ⟨b, off, he, hc⟩ := (HR.out.below hb5).1 p hp
          cases he
          rw [Nat.zero_add] at hc
          have e2 : w5.cell? ⟨g, p, none⟩ = some (.int .i64 (uz z p : Nat)) := hc
          rw [hu] at e2
          exact e2
        go_wp2_with fail
        go_ret
        exact ⟨rfl, hB2.trans (hD5.mono hB2.size)⟩
      · obtain ⟨q, hq, hnq⟩ := nextN_end h0d
        have hd0 : ((dep (uz z) p : Int) == 0) = false := by simp; omega
        have hd0' : (dep (uz z) p == 0) = false := by simp; omega
        have HQ := Lib.hid hnq; have H0 := Lib.hid h0d
        clear hnq
        go_wp2_with fail
        refine (deep_valid c p _ HR.out hp).mono ?_
        rintro e w5 ⟨rfl, hb5, hz5⟩
        have hD5 := hDr.trans (hb5.mono hDr.size)
        clear hb5 hz5
        go_wp2_with fail
        obtain ⟨wo, rfl⟩ : ∃ wo : World, wo = wr := ⟨_, rfl⟩
        have hdp := dep_le (uz z) p
        go_loopw [19, 115] (fun x s wr => ∃ k : Nat, k ≤ p ∧ s = .int .i64 k ∧ x = .int .i64 (nextN (uz z) p k) ∧ Below w2.heap.size w2 wr) (fun _ s _ => p - (intOf s).toNat)
        case atStart => exact ⟨0, Nat.zero_le _, rfl, rfl, hD5⟩
        case round =>
          obtain ⟨k, hk, rfl, rfl, hDk⟩ := hrel
          have HK := Lib.hid (HL.out.below hDk)
          by_cases hkp : k < p
          · have hkp' : (k : Int) < p := by omega
            have hdk := dep_le (uz z) k
            have hx := bit_asked (uz z p) k
            go_wp2_with fail
            refine (deep_valid c k _ HK.out (by omega)).mono ?_
            rintro e w6 ⟨rfl, hb6, hz6⟩
            have hD6 := hDk.trans (hb6.mono hDk.size)
            have cp : w6.cell? ⟨g, p, none⟩ = some (.int .i64 (uz z p : Nat)) := by
              obtain ⟨b, off, he, hc⟩ := (HK.out.below hb6).1 p hp
              cases he
              rw [Nat.zero_add] at hc
              exact hc
            clear hb6 hz6
            cases hb : (uz z p).testBit k
            · rw [hb] at hx
              have HB := Lib.hid hb
              clear hb
              go_wp2_with fail
              go_roundw
              case rel => exact ⟨k + 1, by omega, by go_num, by rw [nextN, if_neg (by rw [HB.out]; simp)], hD6⟩
              case measure => simp [intOf]; omega
            · rw [hb] at hx
              have HB := Lib.hid hb
              clear hb
              by_cases hd : dep (uz z) p = dep (uz z) k + 1
              · have hq1 : ((dep (uz z) k : Int) == (dep (uz z) p : Int) - 1) = true := by simp; omega
                have HD := Lib.hid hd
                clear hd
                go_wp2_with fail
                go_roundw
                case rel => exact ⟨k + 1, by omega, by go_num, by rw [nextN, if_pos ⟨HB.out, HD.out⟩], hD6⟩
                case measure => simp [intOf]; omega
              · have hq1 : ((dep (uz z) k : Int) == (dep (uz z) p : Int) - 1) = false := by simp; omega
                have HD := Lib.hid hd
                clear hd
                go_wp2_with fail
                go_roundw
                case rel => exact ⟨k + 1, by omega, by go_num, by rw [nextN, if_neg (fun h => HD.out h.2)], hD6⟩
                case measure => simp [intOf]; omega
          · obtain rfl : k = p := by omega
            rw [HQ.out]
            go_wp2_with fail
            go_roundw
            case rel => exact ⟨q, by omega, rfl, hDk⟩
            case measure => simp [intOf]; omega

theorem roleDeep_walk (a0 : Option Addr) (n cap0 : Nat) (zs : List Int) (a1 a2 : Int) (w : World) (h : IsRow .i64 w a0 n cap0 zs) :
    Calls Try.prog 10 #[.slice a0 n cap0, .int .i64 a1, .int .i64 a2] w fun e w' => e = .returned (.bool true) ∧ Below w.heap.size w w' := by
  obtain ⟨hs, hn, hcap⟩ := h.sl
  rcases Nat.eq_zero_or_pos n with rfl | h0
  · exact roleDeep_empty a0 cap0 a1 a2 w hcap
  · exact roleDeep_pos a0 n cap0 _ a1 a2 w hs h0 hn hcap
end Go.Proofs.Ythbimgibpiejcaa
