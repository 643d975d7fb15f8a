/- The contract of log.Sum. -/
import Derived.Test.YtepenlciaanoeaaGreatDoorLPure
import Derived.Test.YtepenlciaanoeaaGreatDoorRCheck
set_option linter.unusedVariables false
set_option linter.unusedSimpArgs false
set_option maxRecDepth 100000
namespace Go.Proofs.YtepenlciaanoeaaGreatDoor
open Go.RowKit Go.Sort

/-- the sum of the first k bytes -/
def sumK (l : List UInt8) (k : Nat) : Nat := sumN 0 (l.take k) % 65521
theorem sumK_lt (l : List UInt8) (k : Nat) : sumK l k < 65521 := Nat.mod_lt _ (by decide)
theorem sumK_succ {l : List UInt8} {k : Nat} {b : UInt8} (h : l[k]? = some b) : sumK l (k + 1) = (sumK l k + b.toNat * (k + 1)) % 65521 := by
  have hk := (List.getElem?_eq_some_iff.1 h).1
  unfold sumK
  rw [List.take_add_one, h, sumN_append]
  have e : sumN (0 + (l.take k).length) (some b).toList = b.toNat * (k + 1) := by
    rw [List.length_take, show min k l.length = k by omega]
    simp [sumN]
  rw [e, Nat.mod_add_mod]
theorem sumK_all (l : List UInt8) : sumK l l.length = sumL l := by
  unfold sumK sumL
  rw [List.take_of_length_le (Nat.le_refl _)]

theorem wrap64_nat {n : Nat} (h : n < 9223372036854775808) : wrap64 (n : Int) = (n : Int) := by unfold wrap64; omega
theorem sum_m {B k : Nat} : (B : Int) * ((k : Int) + 1) = ((B * (k + 1) : Nat) : Int) := by rw [Int.natCast_mul, Int.natCast_add]; rfl
theorem sum_M {B k : Nat} (hB : B < 256) (hk : k < 4294967296) : B * (k + 1) ≤ 255 * 4294967296 := Nat.mul_le_mul (by omega) (by omega)
theorem sum_t {S M : Nat} : ((S : Int) + (M : Int)).tmod 65521 = (((S + M) % 65521 : Nat) : Int) := by
  rw [Int.tmod_eq_emod_of_nonneg (by omega)]
  omega
theorem wrap64_succ {k : Nat} (h : k < 4294967296) : wrap64 ((k : Int) + 1) = (k : Int) + 1 := by unfold wrap64; omega
theorem wrap64_add {a b : Nat} (h : a + b < 9223372036854775808) : wrap64 ((a : Int) + (b : Int)) = (a : Int) + (b : Int) := by unfold wrap64; omega

set_option maxHeartbeats 1000000 in
theorem logSum_any (s : ByteArray) (w : World) (hs : s.size < 4294967296) :
    Calls Tryz.prog 108 #[.string s] w fun e w' => e = .returned (.int .i64 (sumL s.data.toList : Nat)) ∧ Below w.heap.size w w' := by
  obtain ⟨c, W1, hconv, hcell, hb⟩ := conv_bytes s w
  have HC := Lib.hid hcell
  have HB := Lib.hid hb
  clear hcell hb
  go_enter Tryz.func108, Tryz.ntmps108
  go_wp2
  go_loop [3, 9] (fun v i => ∃ k : Nat, k ≤ s.size ∧ i = .int .i64 k ∧ v = .int .i64 (sumK s.data.toList k : Nat)) (fun v i => s.size - (intOf i).toNat)
  case atStart => exact ⟨0, Nat.zero_le _, rfl, rfl⟩
  case round =>
    obtain ⟨k, hk, rfl, rfl⟩ := hrel
    have hlt0 := sumK_lt s.data.toList k
    obtain ⟨S, hS⟩ : ∃ S, S = sumK s.data.toList k := ⟨_, rfl⟩
    rw [← hS] at hlt0 ⊢
    by_cases hlt : k < s.size
    · obtain ⟨b, hb'⟩ : ∃ b, s.data.toList[k]? = some b := ⟨_, List.getElem?_eq_getElem (by rw [← Lib.size_eq]; exact hlt)⟩
      have hcell := HC.out k b hb'
      have hbl := b.toNat_lt
      have hsx := sumK_succ hb'
      rw [← hS] at hsx
      obtain ⟨B, hB⟩ : ∃ B, B = b.toNat := ⟨_, rfl⟩
      rw [← hB] at hbl hsx hcell
      obtain ⟨M, hM⟩ : ∃ M, M = B * (k + 1) := ⟨_, rfl⟩
      have hMl : M ≤ 255 * 4294967296 := by rw [hM]; exact sum_M hbl (by omega)
      have hw0 : IntKind.i64.wrap (B : Int) = (B : Int) := wrap_small B (by omega)
      have hw1 : wrap64 ((k : Int) + 1) = (k : Int) + 1 := wrap64_succ (by omega)
      have hm : (B : Int) * ((k : Int) + 1) = (M : Int) := by rw [hM]; exact sum_m
      have hw2 : wrap64 (M : Int) = (M : Int) := wrap64_nat (by omega)
      have hw3 : wrap64 ((S : Int) + (M : Int)) = (S : Int) + (M : Int) := wrap64_add (Nat.lt_of_le_of_lt (Nat.add_le_add (Nat.le_of_lt hlt0) hMl) (by decide))
      have ht : ((S : Int) + (M : Int)).tmod 65521 = (((S + M) % 65521 : Nat) : Int) := sum_t
      have HS := Lib.hid (show sumK s.data.toList (k + 1) = (S + M) % 65521 by rw [hsx, hM])
      have hlt9 : (S + M) % 65521 < 65521 := Nat.mod_lt _ (by decide)
      obtain ⟨T, hT⟩ : ∃ T, T = (S + M) % 65521 := ⟨_, rfl⟩
      rw [← hT] at ht HS hlt9
      have hw4 : wrap64 (T : Int) = (T : Int) := wrap64_nat (by omega)
      clear hb' hsx hM hMl hB hT hS
      go_wp2
      go_round
      case rel => exact ⟨k + 1, by omega, by go_num, by rw [HS.out]⟩
      case measure => simp [intOf]; omega
    · have HE := Lib.hid (show S = sumL s.data.toList by rw [hS, show k = s.data.toList.length by rw [← Lib.size_eq]; omega, sumK_all])
      clear hS
      go_wp2
      go_ret
      exact ⟨congrArg (fun n : Nat => Ending.returned (.int .i64 (n : Int))) HE.out, HB.out⟩
theorem logSum_is {n : Nat} (s : ByteArray) (w : World) (hs : s.size < 4294967296) (h : sumL s.data.toList = n) :
    Calls Tryz.prog 108 #[.string s] w fun e w' => e = .returned (.int .i64 n) ∧ Below w.heap.size w w' := h ▸ logSum_any s w hs

end Go.Proofs.YtepenlciaanoeaaGreatDoor
