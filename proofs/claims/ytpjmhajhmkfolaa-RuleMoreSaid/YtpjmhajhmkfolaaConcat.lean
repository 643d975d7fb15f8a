/- Contracts of slices.Grow and slices.Concat at lists of rules. -/
import Derived.Test.YtpjmhajhmkfolaaApp
import Derived.Lib.AppendZeros
import Derived.Lib.AppendZerosOnto
import Derived.Lib.SliceRun
set_option linter.unusedVariables false
set_option linter.unusedSimpArgs false
namespace Go.Proofs.Ytpjmhajhmkfolaa
open Go.RowKit

/-- append of whatever list of rules, nil or not, onto one's own -/
theorem run_appR {w : World} (ty : TypeId) {B n m c : Nat} {v : Value} {rs q : Nat → RuleL} {A : Option Addr} (hown : OwnR B w v n rs) (hq : SlR w A m q) (hn : n + m ≤ 1000) (hB : B ≤ w.heap.size) :
    ∃ v' A' c' w', (Builtin.append_ #[23, 23] ty #[v, .slice A m c]).run Try.prog w = .ok v' w' ∧ v' = .slice A' (n + m) c' ∧ OwnR B w' v' (n + m) (joinR n rs q) ∧ Below B w w' := by
  obtain ⟨i0, hi, hz0, hz1, hz2⟩ := info_parts Try.infoRule
  cases A with
  | none =>
    have h0 : m = 0 := by
      rcases Nat.eq_zero_or_pos m with h | h
      · exact h
      · obtain ⟨b, off, e, _⟩ := hq 0 h
        cases e
    subst h0
    have hj : OwnR B w v (n + 0) (joinR n rs q) := by
      unfold OwnR
      rw [cellsR_join]
      simpa [OwnR, cellsR, flat] using hown
    obtain ⟨A', c', hv⟩ : ∃ A' c', v = .slice A' n c' := by
      rcases hown.2 with ⟨h, h0⟩ | ⟨g', c', cur, h, _⟩
      · exact ⟨none, 0, by rw [h, h0]⟩
      · exact ⟨_, c', h⟩
    refine ⟨v, A', c', w, ?_, hv, hj, Below.refl _ _⟩
    rcases hown.2 with ⟨rfl, rfl⟩ | ⟨g, cap, cur, rfl, _, _, hnc, _⟩
    · simp [Builtin.append_, run_underlying Try.underlying23, sizeOf, typeInfo, hi, Builtin.lenOf, Builtin.firstCells]
    · simp [Builtin.append_, run_underlying Try.underlying23, sizeOf, typeInfo, hi, Builtin.lenOf, Builtin.firstCells, hnc, storeCells]
  | some ad =>
    have hnews : ∀ k u, (cellsR q m)[k]? = some u → w.cell? (ad.add k) = some u := by
      intro k u hk
      obtain ⟨k', i, h1, _⟩ := flat_of_get (RuleL.cells_len q) hk
      obtain ⟨b, off, e, hc⟩ := hq k' h1
      cases e
      exact hq.cells k u hk
    obtain ⟨v', w', hrun, hown', hgrow, _⟩ := run_append_own (P := Try.prog) w B 23 ty 27 i0 _ 6 48 Try.underlying23 hi hz0 hz1 hz2 rfl (by decide) v n (cellsR rs n) hown ad m c (cellsR q m) (flat_len (RuleL.cells_len q) m) hnews (cellsR_one q m) (by unfold maxLen; omega) (by omega) hB
    obtain ⟨A', c', hv⟩ : ∃ A' c', v' = .slice A' (n + m) c' := by
      rcases hown'.2 with ⟨h, h0⟩ | ⟨g', c', cur, h, _⟩
      · exact ⟨none, 0, by rw [h, h0]⟩
      · exact ⟨_, c', h⟩
    refine ⟨v', A', c', w', hrun, hv, ?_, hgrow.os, hgrow.tape, hgrow.output, hgrow.size, fun i hi => hgrow.block i (by omega) fun e => ?_⟩
    · unfold OwnR
      rw [cellsR_join]
      exact hown'
    · have := (World.ownsRow.lt hown i e.symm).1
      omega

set_option maxHeartbeats 1000000 in
theorem growR_any (k : Nat) (rs : Nat → RuleL) (w : World) (hk : k ≤ 1000) : Calls Try.prog 35 #[.slice none 0 0, .int .i64 k] w (NewR w.heap.size 0 rs w) := by
  obtain ⟨i0, hi, hz0, hz1, hz2⟩ := info_parts Try.infoRule
  have h1 : ¬ ((k : Int) < 0) := by omega
  by_cases h0 : k = 0
  · subst h0
    go_enter Try.func35, Try.ntmps35
    go_wp2_with fail
    go_ret
    exact ⟨_, none, 0, rfl, rfl, World.ownsRow_nil _ _ _ _, Below.refl _ _⟩
  · have h2 : (k : Int) > 0 := by omega
    have hrz : ∀ ty, (Builtin.append_ #[23, 3] ty #[.slice none 0 0, .int .i64 (k : Int)]).run Try.prog w = .ok (.slice (some ⟨w.heap.size, 0, none⟩) k (grownCap w k 0 27)) (w.drew.alloc (.cells (#[] ++ Builtin.zeroCells (Value.cells (.agg #[.int .i64 0, .int .i64 0, .int .i64 0, .int .i64 0, .int .i64 0, .bool false])) k ++ Builtin.zeroCells (Value.cells (.agg #[.int .i64 0, .int .i64 0, .int .i64 0, .int .i64 0, .int .i64 0, .bool false])) (grownCap w k 0 27 - k)) 27)) := fun ty => by
      have h := Lib.run_append_grow_zeros w 23 3 ty 27 i0 _ .i64 .i64 Try.underlying23 Try.underlying3 hi hz0 none 0 0 [] (run_firstCells_none w.drew i0.size 0 0 0) k (by omega) (by omega) (by omega) (by omega) (by rw [hz2]; omega) (by rw [nextslicecap_zero (by omega), hz2]; omega)
      simpa using h
    obtain ⟨C, hC⟩ : ∃ C, grownCap w k 0 27 = C := ⟨_, rfl⟩
    have hCk : k ≤ C := by rw [← hC]; have := grownCap_ge w k 0 27; omega
    have hC63 : C ≤ maxLen := by rw [← hC]; exact grownCap_le_maxLen w k 0 27 (by unfold maxLen; omega)
    rw [hC] at hrz
    obtain ⟨cs, hcs⟩ : ∃ cs, #[] ++ Builtin.zeroCells (Value.cells (.agg #[.int .i64 0, .int .i64 0, .int .i64 0, .int .i64 0, .int .i64 0, .bool false])) k ++ Builtin.zeroCells (Value.cells (.agg #[.int .i64 0, .int .i64 0, .int .i64 0, .int .i64 0, .int .i64 0, .bool false])) (C - k) = cs := ⟨_, rfl⟩
    have hsz : cs.size = C * 6 := by
      rw [← hcs, Array.size_append, Array.size_append, size_zeroCells, size_zeroCells]
      simp [Value.cells]
      omega
    rw [hcs] at hrz
    have HZ := Lib.hid hrz
    clear hrz hcs hC
    have hC' : (C : Int) ≤ 9223372036854775807 := by unfold maxLen at hC63; omega
    go_enter Try.func35, Try.ntmps35
    go_wp2_with (at_builtin; refine Lib.wpList_append_run _ rfl _ _ _ _ rfl _ _ rfl rfl _ _ (HZ.out _) ?_)
    go_ret
    refine ⟨_, some ⟨w.heap.size, 0, none⟩, C, rfl, rfl, ?_, ?_⟩
    · exact World.ownsRow_made w.drew cs C (Nat.le_refl _) hC63 hsz
    · exact Below.alloc (⟨rfl, rfl, rfl, Nat.le_refl _, fun _ _ => rfl⟩ : Below w.heap.size w w.drew) (Nat.le_refl _) _

/-- lists, one behind the other -/
def sumN (ns : Nat → Nat) : Nat → Nat
  | 0 => 0
  | k + 1 => sumN ns k + ns k
def joinN (ns : Nat → Nat) (q : Nat → Nat → RuleL) : Nat → Nat → RuleL
  | 0 => q 0
  | k + 1 => joinR (sumN ns k) (joinN ns q k) (q k)
theorem sumN_le {ns : Nat → Nat} {b : Nat} : ∀ {k : Nat}, (∀ i, i < k → ns i ≤ b) → sumN ns k ≤ k * b
  | 0, _ => by simp [sumN]
  | k + 1, h => by
    have ih := sumN_le (k := k) fun i hi => h i (by omega)
    have := h k (by omega)
    unfold sumN
    rw [Nat.succ_mul]
    omega

set_option maxRecDepth 100000 in
set_option maxHeartbeats 4000000 in
theorem concatR_any (g N : Nat) (A : Nat → Option Addr) (ns cs : Nat → Nat) (q : Nat → Nat → RuleL) (w : World) (hN : N ≤ 5) (hs : ∀ i, i < N → SlR w (A i) (ns i) (q i)) (hn : ∀ i, i < N → ns i ≤ 100)
    (hc : ∀ i, i < N → w.cell? ⟨g, i, none⟩ = some (.slice (A i) (ns i) (cs i))) :
    Calls Try.prog 20 #[.slice (some ⟨g, 0, none⟩) N N] w (NewR w.heap.size (sumN ns N) (joinN ns q N) w) := by
  have hsum : ∀ k, k ≤ N → sumN ns k ≤ 500 := fun k hk => by
    have := sumN_le (b := 100) (k := k) fun i hi => hn i (by omega)
    omega
  have HG := Lib.hid (growR_any (sumN ns N) (q 0) w (by have := hsum N (Nat.le_refl _); omega))
  have HS := Lib.hid hs; have HC := Lib.hid hc; have HSUM := Lib.hid hsum; have HNS := Lib.hid hn
  clear hs hc hsum hn
  go_enter Try.func20, Try.ntmps20
  go_wp2_with fail
  go_loop [3, 11] (fun s i => ∃ k : Nat, k ≤ N ∧ i = .int .i64 k ∧ s = .int .i64 (sumN ns k : Nat)) (fun _ i => N - (intOf i).toNat)
  case atStart => exact ⟨0, Nat.zero_le _, rfl, rfl⟩
  case round =>
    obtain ⟨k, hk, rfl, rfl⟩ := hrel
    have hs1 := HSUM.out k hk
    obtain ⟨S, hS⟩ : ∃ S, sumN ns k = S := ⟨_, rfl⟩
    rw [hS] at hs1 ⊢
    by_cases hlt : k < N
    · have hck := HC.out k hlt
      have hnk := HNS.out k hlt
      have hst : Hid (sumN ns (k + 1) = S + ns k) := by show sumN ns k + ns k = _; rw [hS]
      clear hS
      have b1 : ¬ ((S : Int) + (ns k : Int) < 0) := by omega
      go_wp2_with fail
      go_round
      case rel => exact ⟨k + 1, by omega, by go_num, by rw [hst.out]; go_num⟩
      case measure => simp [intOf]; omega
    · obtain rfl : k = N := by omega
      have HSS := Lib.hid hS
      clear hS
      rw [HSS.out] at HG
      go_wp2_with fail
      refine HG.out.mono ?_
      rintro e w1 ⟨v, A1, c1, rfl, hv1, ho1, hb1⟩
      have HO1 := Lib.hid ho1; have HV1 := Lib.hid hv1
      clear ho1 hv1
      go_wp2_with fail
      go_loopw [6, 27] (fun s i wr => ∃ (j : Nat) (A' : Option Addr) (c' : Nat), j ≤ k ∧ i = .int .i64 j ∧ s = .slice A' (sumN ns j) c' ∧ Hid (OwnR w.heap.size wr (.slice A' (sumN ns j) c') (sumN ns j) (joinN ns q j)) ∧ Below w.heap.size w wr) (fun _ i _ => k - (intOf i).toNat)
      case atStart => exact ⟨0, A1, c1, Nat.zero_le _, rfl, HV1.out, by have h1 := HO1.out; rw [HV1.out] at h1; exact h1, hb1⟩
      case round =>
        obtain ⟨j, A', c', hj, rfl, rfl, hO, hB⟩ := hrel
        by_cases hjk : j < k
        · have hcj := (hB.cell (p := ⟨g, j, none⟩) (cell_lt (HC.out j hjk))).trans (HC.out j hjk)
          have hnj := HNS.out j hjk
          obtain ⟨v', A2, c2, w2, hrun, hv2, ho2, hb2⟩ := run_appR (c := cs j) 23 hO.out ((HS.out j hjk).below hB) (by have := HSUM.out j (by omega); omega) hB.size
          have HO2 := Lib.hid ho2
          have hB2 : Below w.heap.size w w2 := hB.trans hb2
          have HR := Lib.hid hrun
          clear ho2 hb2 hrun
          subst hv2
          go_wp2_with (at_builtin; refine Lib.wpList_append_run _ rfl _ _ _ _ rfl _ _ rfl rfl _ _ HR.out ?_)
          go_roundw
          case rel => exact ⟨j + 1, A2, c2, by omega, by go_num, rfl, HO2.out, hB2⟩
          case measure => simp [intOf]; omega
        · obtain rfl : j = k := by omega
          go_wp2_with fail
          go_ret
          exact ⟨_, A', c', rfl, rfl, hO.out, hB⟩
end Go.Proofs.Ytpjmhajhmkfolaa
