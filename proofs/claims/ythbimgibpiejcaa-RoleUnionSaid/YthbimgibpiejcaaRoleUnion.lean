/- The walk of RoleUnion. -/
import Derived.Test.YthbimgibpiejcaaRoleAll
set_option linter.unusedVariables false
set_option linter.unusedSimpArgs false
namespace Go.Proofs.Ythbimgibpiejcaa
open Go.RowKit

/-- the law's loop: role i, and all that comes with the roles below k that come with it at once -/
def unionN (u : Nat → Nat) (i : Nat) : Nat → Nat
  | 0 => 2 ^ i
  | k + 1 => if (u i).testBit k = true then unionN u i k ||| allU u k else unionN u i k

theorem unionN_spec {n : Nat} {u : Nat → Nat} (hv : Valid n u) {i : Nat} (hi : i < n) : ∀ (k : Nat), k ≤ i → ∀ j, (unionN u i k).testBit j = true ↔ i = j ∨ ∃ l, l < k ∧ (u i).testBit l = true ∧ Reach u l j
  | 0, _, j => by
    unfold unionN
    rw [Nat.testBit_two_pow]
    constructor
    · intro h
      exact .inl (by simpa using h)
    · rintro (rfl | ⟨l, hl, _⟩)
      · simp
      · omega
  | k + 1, hk, j => by
    have ih := unionN_spec hv hi k (by omega) j
    unfold unionN
    split
    · rename_i hb
      rw [Nat.testBit_or, Bool.or_eq_true, ih, allU_spec hv (by omega)]
      constructor
      · rintro ((h | ⟨l, h1, h2, h3⟩) | h)
        · exact .inl h
        · exact .inr ⟨l, by omega, h2, h3⟩
        · exact .inr ⟨k, by omega, hb, h⟩
      · rintro (h | ⟨l, h1, h2, h3⟩)
        · exact .inl (.inl h)
        · by_cases e : l = k
          · subst e
            exact .inr h3
          · exact .inl (.inr ⟨l, by omega, h2, h3⟩)
    · rename_i hb
      rw [ih]
      constructor
      · rintro (h | ⟨l, h1, h2, h3⟩)
        · exact .inl h
        · exact .inr ⟨l, by omega, h2, h3⟩
      · rintro (h | ⟨l, h1, h2, h3⟩)
        · exact .inl h
        · by_cases e : l = k
          · subst e
            exact absurd h2 hb
          · exact .inr ⟨l, by omega, h2, h3⟩

theorem unionN_all {n : Nat} {u : Nat → Nat} (hv : Valid n u) {i : Nat} (hi : i < n) : unionN u i i = allU u i := by
  refine mask_ext fun j => ?_
  rw [unionN_spec hv hi i (Nat.le_refl _), allU_spec hv hi, Reach.iff]
  constructor
  · rintro (h | ⟨l, _, h2, h3⟩)
    · exact .inl h
    · exact .inr ⟨l, h2, h3⟩
  · rintro (h | ⟨l, h2, h3⟩)
    · exact .inl h
    · exact .inr ⟨l, hv.lt hi h2, h2, h3⟩

theorem unionN_lt {n : Nat} {u : Nat → Nat} (hv : Valid n u) {i : Nat} (hi : i < n) : ∀ k, k ≤ i → unionN u i k < 256
  | 0, _ => pow_lt_256 (by have := hv.1; omega)
  | k + 1, hk => by
    have ih := unionN_lt hv hi k (by omega)
    unfold unionN
    split
    · exact Nat.or_lt_two_pow (n := 8) ih (allU_lt hv (by omega))
    · exact ih

set_option maxHeartbeats 400000 in
theorem roleUnion_empty (a0 : Option Addr) (cap0 : Nat) (a1 : Int) (w : World) (hcap : cap0 ≤ maxLen) :
    Calls Try.prog 13 #[.slice a0 0 cap0, .int .i64 a1] w fun e w' => e = .returned (.bool true) ∧ Below w.heap.size w w' := by
  have h3 := slv_three w 0 0 3 (by omega) (by omega) (by omega)
  go_enter Try.func13, Try.ntmps13
  go_wp2_with fail
  refine (all_valid 3 2 _ h3 (by omega)).mono ?_
  rintro e w' ⟨rfl, rfl⟩
  rw [show allU (fun k => [0, 0, 3].getD k 0) 2 = 7 from by decide]
  go_wp2_with fail
  refine (ups_zero a0 cap0 (fun _ => 0) _ hcap).mono ?_
  rintro e w2 ⟨rfl, hb2⟩
  go_wp2_with fail
  go_ret
  exact ⟨rfl, ((Below.refl _ _).alloc (Nat.le_refl _) _).trans (hb2.mono (by simp))⟩

set_option maxRecDepth 100000 in
set_option maxHeartbeats 1000000 in
theorem roleUnion_pos (a0 : Option Addr) (n cap0 : Nat) (z : Nat → Int) (a1 : Int) (w : World) (hs : Sl w a0 n z) (h0 : 0 < n) (hn : n ≤ cap0) (hcap : cap0 ≤ maxLen) :
    Calls Try.prog 13 #[.slice a0 n cap0, .int .i64 a1] w fun e w' => e = .returned (.bool true) ∧ Below w.heap.size w w' := by
  have h3 := slv_three w 0 0 3 (by omega) (by omega) (by omega)
  obtain ⟨m, hm⟩ : ∃ m, min n 8 = m := ⟨_, rfl⟩
  obtain ⟨i, hi⟩ : ∃ i, wit a1 (m : Int) = i := ⟨_, rfl⟩
  have hmp : 0 < m := by omega
  have hm8 : m ≤ 8 := by omega
  have hil : i < m := by have := wit_lt a1 m (by omega); omega
  have hup := fun w' (hb : Below w.heap.size w w') => ups_pos a0 n cap0 z w' (hs.below hb) h0 hn hcap
  rw [hm] at hup
  have HI := Lib.hid hi
  have HS := Lib.hid hs; have HU := Lib.hid hup
  obtain ⟨p, hp⟩ : ∃ p : Nat, Hid (p = 2 ^ i) := ⟨_, rfl⟩
  have hsh : Hid (wrap64 ((2 : Int) ^ i) = (p : Int)) := by
    have := shl_one (k := i) (by omega)
    rw [← hp.out] at this
    exact this
  clear hi hs hup hm
  go_enter Try.func13, Try.ntmps13
  go_wp2_with fail
  refine (all_valid 3 2 _ h3 (by omega)).mono ?_
  rintro e w' ⟨rfl, rfl⟩
  rw [show allU (fun k => [0, 0, 3].getD k 0) 2 = 7 from by decide]
  go_wp2_with fail
  refine (HU.out _ ((Below.refl _ _).alloc (Nat.le_refl _) _)).mono ?_
  rintro e w2 ⟨g, c, rfl, hat, hb2⟩
  have hB2 : Below w.heap.size w w2 := ((Below.refl _ _).alloc (Nat.le_refl _) _).trans (hb2.mono (by simp))
  have hsl := hat.slv
  have hval := hsl.2
  clear hat hb2 h3 HU HS
  go_wp2_with fail
  refine (within_to HI.out _ (by omega) (by omega)).mono ?_
  rintro e w' ⟨rfl, rfl⟩
  go_wp2_with fail
  refine (all_valid c i _ hsl hil).mono ?_
  rintro e w' ⟨rfl, rfl⟩
  go_wp2_with fail
  rw [hsh.out]
  have ci : w2.cell? ⟨g, i, none⟩ = some (.int .i64 (uz z i : Nat)) := by
    obtain ⟨b, off, he, hc⟩ := hsl.1 i hil
    cases he
    rw [Nat.zero_add] at hc
    exact hc
  have HV := Lib.hid hval
  have HL := Lib.hid hsl
  clear hval hsl hsh
  go_loop [10, 45] (fun x k => ∃ l : Nat, l ≤ i ∧ k = .int .i64 l ∧ x = .int .i64 (unionN (uz z) i l : Nat)) (fun _ k => i - (intOf k).toNat)
  case atStart => exact ⟨0, Nat.zero_le _, rfl, by rw [hp.out]; rfl⟩
  case round =>
    obtain ⟨l, hl, rfl, rfl⟩ := hrel
    by_cases hlt : l < i
    · have hx := bit_asked (uz z i) l
      cases hb : (uz z i).testBit l
      · rw [hb] at hx
        clear hb
        go_wp2_with fail
        go_round
        case rel => exact ⟨l + 1, by omega, by go_num, by rw [unionN, if_neg (by simpa [bit_asked] using hx)]⟩
        case measure => simp [intOf]; omega
      · rw [hb] at hx
        have hux := unionN_lt HV.out hil l (by omega)
        have hul := allU_lt HV.out (show l < m by omega)
        have H : Hid (bits .or .i64 (unionN (uz z) i l : Int) (allU (uz z) l : Int) = ((unionN (uz z) i l ||| allU (uz z) l : Nat) : Int)) := i64_or _ _ (by omega) (by omega)
        have HB := Lib.hid hb
        clear hb
        go_wp2_with (go_at_call 23; refine (all_valid c l _ HL.out (by omega)).mono ?_; rintro e w' ⟨rfl, rfl⟩)
        go_round
        case rel => exact ⟨l + 1, by omega, by go_num, by rw [H.out, unionN, if_pos HB.out]⟩
        case measure => simp [intOf]; omega
    · obtain rfl : l = i := by omega
      have hu := unionN_all HV.out hil
      go_wp2_with fail
      go_ret
      exact ⟨rfl, hB2⟩

theorem roleUnion_walk (a0 : Option Addr) (n cap0 : Nat) (zs : List Int) (a1 : Int) (w : World) (h : IsRow .i64 w a0 n cap0 zs) :
    Calls Try.prog 13 #[.slice a0 n cap0, .int .i64 a1] w fun e w' => e = .returned (.bool true) ∧ Below w.heap.size w w' := by
  obtain ⟨hs, hn, hcap⟩ := h.sl
  rcases Nat.eq_zero_or_pos n with rfl | h0
  · exact roleUnion_empty a0 cap0 a1 w hcap
  · exact roleUnion_pos a0 n cap0 _ a1 w hs h0 hn hcap
end Go.Proofs.Ythbimgibpiejcaa
