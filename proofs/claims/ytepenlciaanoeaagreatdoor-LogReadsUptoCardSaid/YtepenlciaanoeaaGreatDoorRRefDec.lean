/- Contracts of wyref.Dec and wyref.Num: numbers as texts, and texts as numbers, by the reference's road. -/
import Derived.Test.YtepenlciaanoeaaGreatDoorREnv
import Derived.Shelf.Small.Wraps
import Derived.Shelf.Small.Strs
set_option linter.unusedVariables false
set_option linter.unusedSimpArgs false
set_option maxRecDepth 100000
namespace Go.Proofs.YtepenlciaanoeaaGreatDoor
open Go.RowKit Go.Sort

theorem digit_cut : ∀ d : Nat, d < 10 → (⟨#[48, 49, 50, 51, 52, 53, 54, 55, 56, 57]⟩ : ByteArray).extract d (d + 1) = bs [UInt8.ofNat (48 + d)]
  | 0, _ => rfl
  | 1, _ => rfl
  | 2, _ => rfl
  | 3, _ => rfl
  | 4, _ => rfl
  | 5, _ => rfl
  | 6, _ => rfl
  | 7, _ => rfl
  | 8, _ => rfl
  | 9, _ => rfl
  | d + 10, h => by omega
theorem bs_append (a b : List UInt8) : bs a ++ bs b = bs (a ++ b) := by
  apply data_inj
  simp [data_bs]
theorem itoa_pos (u : Nat) : Lib.itoa (u : Int) = Lib.decDigits u := by
  unfold Lib.itoa
  rw [if_neg (by omega), Int.toNat_natCast]
theorem itoa_neg (u : Nat) (h : 1 ≤ u) : Lib.itoa (-(u : Int)) = 45 :: Lib.decDigits u := by
  unfold Lib.itoa
  rw [if_pos (by omega), Int.natAbs_neg, Int.natAbs_natCast]
theorem digits_step {u : Nat} (h : ¬ u < 10) : Lib.decDigits u = Lib.decDigits (u / 10) ++ [UInt8.ofNat (48 + u % 10)] := by rw [Lib.decDigits, dif_neg h]

theorem wrap64_small {n : Int} (h0 : -9223372036854775808 ≤ n) (h1 : n ≤ 9223372036854775807) : wrap64 n = n := by unfold wrap64; omega
theorem bs_size (l : List UInt8) : (bs l).size = l.length := by rw [Lib.size_eq, data_bs]
theorem digits_len : ∀ {k u : Nat}, u < 10 ^ (k + 1) → (Lib.decDigits u).length ≤ k + 1
  | 0, u, h => by
    rw [Lib.decDigits_one (by simpa using h)]
    simp
  | k + 1, u, h => by
    by_cases h1 : u < 10
    · rw [Lib.decDigits_one h1]
      simp
    · rw [digits_step h1, List.length_append]
      have := digits_len (k := k) (u := u / 10) (by
        rw [Nat.pow_succ] at h
        omega)
      simp
      omega
theorem itoa_len {k : Nat} {m : Int} (h : m.natAbs < 10 ^ (k + 1)) : (Lib.itoa m).length ≤ k + 2 := by
  unfold Lib.itoa
  split
  · have := digits_len h
    simp
    omega
  · have := digits_len (k := k) (u := m.toNat) (by omega)
    omega
theorem digits_bytes : ∀ (u : Nat), ∀ b ∈ Lib.decDigits u, 48 ≤ b.toNat ∧ b.toNat ≤ 57 := by
  intro u
  induction u using Nat.strongRecOn with
  | _ u ih =>
    intro b hb
    by_cases h : u < 10
    · rw [Lib.decDigits_one h] at hb
      rw [List.mem_singleton.1 hb, dig_nat h]
      omega
    · rw [digits_step h] at hb
      rcases List.mem_append.1 hb with hb | hb
      · exact ih (u / 10) (by omega) b hb
      · rw [List.mem_singleton.1 hb, dig_nat (by omega)]
        omega
theorem digits_ne (u : Nat) : Lib.decDigits u ≠ [] := by
  by_cases h : u < 10
  · rw [Lib.decDigits_one h]
    simp
  · rw [digits_step h]
    simp

def DecTo (n : Int) (w : World) : Prop := Calls Tryz.prog 172 #[.int .i64 n] w fun e w' => e = .returned (.string (bs (Lib.itoa n))) ∧ w = w'

set_option maxHeartbeats 1000000 in
theorem dec_core_a (v d q : Int) (hn : ¬ v < 0) (hm : v.tmod 10 = d) (hd0 : 0 ≤ d) (hd1 : d ≤ d + 1) (hd2 : d + 1 ≤ 10) (hw : wrap64 (d + 1) = d + 1) (T : ByteArray) (hx : (⟨#[48, 49, 50, 51, 52, 53, 54, 55, 56, 57]⟩ : ByteArray).extract d.toNat (d + 1).toNat = T) (w : World) (hq : v.tdiv 10 = 0) (hsz : T.size ≤ 1) :
    Calls Tryz.prog 172 #[.int .i64 v] w fun e w' => e = .returned (.string T) ∧ w = w' := by
  go_enter Tryz.func172, Tryz.ntmps172
  go_wp2_with fail
  go_ret
  exact ⟨rfl, rfl⟩
set_option maxHeartbeats 1000000 in
theorem dec_core_b (v d q : Int) (hn : v < 0) (hm : v.tmod 10 = -d) (hw0 : wrap64 d = d) (hd0 : 0 ≤ d) (hd1 : d ≤ d + 1) (hd2 : d + 1 ≤ 10) (hw : wrap64 (d + 1) = d + 1) (T : ByteArray) (hx : (⟨#[48, 49, 50, 51, 52, 53, 54, 55, 56, 57]⟩ : ByteArray).extract d.toNat (d + 1).toNat = T) (w : World) (hq : v.tdiv 10 = 0) (hsz : T.size ≤ 1) :
    Calls Tryz.prog 172 #[.int .i64 v] w fun e w' => e = .returned (.string ((⟨#[45]⟩ : ByteArray) ++ T)) ∧ w = w' := by
  go_enter Tryz.func172, Tryz.ntmps172
  go_wp2_with fail
  go_ret
  exact ⟨rfl, rfl⟩
set_option maxHeartbeats 1000000 in
theorem dec_core_c (v d q : Int) (hn : ¬ v < 0) (hm : v.tmod 10 = d) (hd0 : 0 ≤ d) (hd1 : d ≤ d + 1) (hd2 : d + 1 ≤ 10) (hw : wrap64 (d + 1) = d + 1) (T : ByteArray) (hx : (⟨#[48, 49, 50, 51, 52, 53, 54, 55, 56, 57]⟩ : ByteArray).extract d.toNat (d + 1).toNat = T) (hq : v.tdiv 10 = q) (hqw : wrap64 q = q) (hq0 : (q != 0) = true) (U : ByteArray) (w : World) (ih : Calls Tryz.prog 172 #[.int .i64 q] w fun e w' => e = .returned (.string U) ∧ w = w') (hsz : U.size + T.size ≤ 1000) :
    Calls Tryz.prog 172 #[.int .i64 v] w fun e w' => e = .returned (.string (U ++ T)) ∧ w = w' := by
  have IH := Lib.hid ih
  clear ih
  go_enter Tryz.func172, Tryz.ntmps172
  go_wp2_with fail
  refine IH.out.mono ?_
  rintro e w1 ⟨rfl, rfl⟩
  go_wp2_with fail
  go_ret
  exact ⟨rfl, rfl⟩
set_option maxHeartbeats 1000000 in
theorem dec_core_d (v d q : Int) (hn : v < 0) (hm : v.tmod 10 = -d) (hw0 : wrap64 d = d) (hd0 : 0 ≤ d) (hd1 : d ≤ d + 1) (hd2 : d + 1 ≤ 10) (hw : wrap64 (d + 1) = d + 1) (T : ByteArray) (hx : (⟨#[48, 49, 50, 51, 52, 53, 54, 55, 56, 57]⟩ : ByteArray).extract d.toNat (d + 1).toNat = T) (hq : v.tdiv 10 = q) (hqw : wrap64 q = q) (hq0 : (q != 0) = true) (U : ByteArray) (w : World) (ih : Calls Tryz.prog 172 #[.int .i64 q] w fun e w' => e = .returned (.string U) ∧ w = w') (hsz : U.size + T.size ≤ 1000) :
    Calls Tryz.prog 172 #[.int .i64 v] w fun e w' => e = .returned (.string (U ++ T)) ∧ w = w' := by
  have IH := Lib.hid ih
  clear ih
  go_enter Tryz.func172, Tryz.ntmps172
  go_wp2_with fail
  refine IH.out.mono ?_
  rintro e w1 ⟨rfl, rfl⟩
  go_wp2_with fail
  go_ret
  exact ⟨rfl, rfl⟩
theorem dec_any : ∀ (k : Nat) (n : Int) (w : World), n.natAbs < 10 ^ (k + 1) → k ≤ 17 → DecTo n w := by
  intro k
  induction k with
  | zero =>
    intro n w hn _
    have hn : n.natAbs < 10 := by simpa using hn
    by_cases h0 : n < 0
    · obtain ⟨u, rfl⟩ : ∃ u : Nat, n = -(u : Int) := ⟨n.natAbs, by omega⟩
      have hu : u < 10 := by omega
      have e1 : (-(u : Int)).tmod 10 = -(((u % 10 : Nat)) : Int) := by rw [Int.neg_tmod]; rfl
      have e2 : (-(u : Int)).tdiv 10 = 0 := by rw [Int.neg_tdiv, show (u : Int).tdiv 10 = ((u / 10 : Nat) : Int) from rfl, Nat.div_eq_of_lt hu]; rfl
      have := dec_core_b (-(u : Int)) ((u % 10 : Nat) : Int) 0 h0 e1 (by unfold wrap64; omega) (by omega) (by omega) (by omega) (by unfold wrap64; omega) (bs [UInt8.ofNat (48 + u % 10)]) (by
        rw [Int.toNat_natCast, show ((u % 10 : Nat) : Int) + 1 = ((u % 10 + 1 : Nat) : Int) from rfl, Int.toNat_natCast]
        exact digit_cut _ (by omega)) w e2 (Nat.le_refl 1)
      unfold DecTo
      rw [itoa_neg u (by omega), Lib.decDigits_one hu]
      rw [Nat.mod_eq_of_lt hu] at this
      exact this
    · obtain ⟨u, rfl⟩ : ∃ u : Nat, n = (u : Int) := ⟨n.toNat, by omega⟩
      have hu : u < 10 := by omega
      have := dec_core_a (u : Int) ((u % 10 : Nat) : Int) 0 h0 rfl (by omega) (by omega) (by omega) (by unfold wrap64; omega) (bs [UInt8.ofNat (48 + u % 10)]) (by
        rw [Int.toNat_natCast, show ((u % 10 : Nat) : Int) + 1 = ((u % 10 + 1 : Nat) : Int) from rfl, Int.toNat_natCast]
        exact digit_cut _ (by omega)) w (by rw [show (u : Int).tdiv 10 = ((u / 10 : Nat) : Int) from rfl, Nat.div_eq_of_lt hu]; rfl) (Nat.le_refl 1)
      unfold DecTo
      rw [itoa_pos, Lib.decDigits_one hu]
      rw [Nat.mod_eq_of_lt hu] at this
      exact this
  | succ k ih =>
    intro n w hn hk
    by_cases h10 : n.natAbs < 10 ^ (k + 1)
    · exact ih n w h10 (by omega)
    have hp : 10 ≤ 10 ^ (k + 1) := by
      have := Nat.pow_le_pow_right (n := 10) (by omega) (show 1 ≤ k + 1 by omega)
      simpa using this
    have hp2 : 10 ^ (k + 1) ≤ 10 ^ 18 := Nat.pow_le_pow_right (by omega) (by omega)
    have hp2 : 10 ^ (k + 1) ≤ 1000000000000000000 := by simpa using hp2
    have hsz : ∀ m : Int, m.natAbs < 10 ^ (k + 1) → (bs (Lib.itoa m)).size ≤ 30 := fun m hm => by
      rw [bs_size]
      have := itoa_len (k := k) hm
      omega
    by_cases h0 : n < 0
    · obtain ⟨u, rfl⟩ : ∃ u : Nat, n = -(u : Int) := ⟨n.natAbs, by omega⟩
      have hu : ¬ u < 10 := by omega
      have hu2 : u / 10 < 10 ^ (k + 1) := by
        rw [Nat.pow_succ] at hn
        omega
      have e1 : (-(u : Int)).tmod 10 = -(((u % 10 : Nat)) : Int) := by rw [Int.neg_tmod]; rfl
      have e2 : (-(u : Int)).tdiv 10 = -((u / 10 : Nat) : Int) := by rw [Int.neg_tdiv]; rfl
      have := dec_core_d (-(u : Int)) ((u % 10 : Nat) : Int) (-((u / 10 : Nat) : Int)) h0 e1 (by unfold wrap64; omega) (by omega) (by omega) (by omega) (by unfold wrap64; omega) (bs [UInt8.ofNat (48 + u % 10)]) (by
        rw [Int.toNat_natCast, show ((u % 10 : Nat) : Int) + 1 = ((u % 10 + 1 : Nat) : Int) from rfl, Int.toNat_natCast]
        exact digit_cut _ (by omega)) e2 (wrap64_small (by omega) (by omega)) (by simp; omega) _ w (ih (-((u / 10 : Nat) : Int)) w (by omega) (by omega)) (by
        have := hsz (-((u / 10 : Nat) : Int)) (by omega)
        have e : (bs [UInt8.ofNat (48 + u % 10)]).size = 1 := rfl
        omega)
      unfold DecTo
      rw [itoa_neg u (by omega), digits_step hu]
      rw [itoa_neg (u / 10) (by omega), bs_append] at this
      exact this
    · obtain ⟨u, rfl⟩ : ∃ u : Nat, n = (u : Int) := ⟨n.toNat, by omega⟩
      have hu : ¬ u < 10 := by omega
      have hu2 : u / 10 < 10 ^ (k + 1) := by
        rw [Nat.pow_succ] at hn
        omega
      have := dec_core_c (u : Int) ((u % 10 : Nat) : Int) ((u / 10 : Nat) : Int) h0 rfl (by omega) (by omega) (by omega) (by unfold wrap64; omega) (bs [UInt8.ofNat (48 + u % 10)]) (by
        rw [Int.toNat_natCast, show ((u % 10 : Nat) : Int) + 1 = ((u % 10 + 1 : Nat) : Int) from rfl, Int.toNat_natCast]
        exact digit_cut _ (by omega)) rfl (wrap64_small (by omega) (by omega)) (by simp; omega) _ w (ih ((u / 10 : Nat) : Int) w (by omega) (by omega)) (by
        have := hsz ((u / 10 : Nat) : Int) (by omega)
        have e : (bs [UInt8.ofNat (48 + u % 10)]).size = 1 := rfl
        omega)
      unfold DecTo
      rw [itoa_pos, digits_step hu]
      rw [itoa_pos, bs_append] at this
      exact this
theorem dec_is {n : Int} {S : ByteArray} (w : World) (h : -1000000000 < n ∧ n < 1000000000) (hS : bs (Lib.itoa n) = S) :
    Calls Tryz.prog 172 #[.int .i64 n] w fun e w' => e = .returned (.string S) ∧ w = w' := by
  have := dec_any 8 n w (by omega) (by omega)
  unfold DecTo at this
  rw [hS] at this
  exact this
end Go.Proofs.YtepenlciaanoeaaGreatDoor
