/- Contracts of slices.Contains and slices.IsSorted at names. -/
import Derived.Test.YteimdhkajbldjaaGreatSFine
import Derived.BigQuiet
import Derived.WalkSmall
set_option linter.unusedVariables false
set_option linter.unusedSimpArgs false
set_option maxRecDepth 100000
namespace Go.Proofs.YteimdhkajbldjaaGreat
open Go.RowKit Go.Sort

set_option maxHeartbeats 1000000 in
theorem index_is (a : Option Addr) (ids : List ByteArray) (c : Nat) (s : ByteArray) (w : World) (hs : SlS w a ids) (hm : ids.length ≤ maxLen) :
    Calls Tryz.prog 90 #[.slice a ids.length c, .string s] w fun e w' => (∃ t : Int, e = .returned (.int .i64 t) ∧ (0 ≤ t ↔ s ∈ ids)) ∧ Below w.heap.size w w' := by
  have HS := Lib.hid hs
  obtain ⟨n, hn⟩ : ∃ n, n = ids.length := ⟨_, rfl⟩
  have HN := Lib.hid hn
  unfold maxLen at hm
  rw [← hn] at hm ⊢
  clear hn hs
  go_enter Tryz.func90, Tryz.ntmps90
  go_wp2_with fail
  go_loopw [8] (fun i wr => ∃ k : Nat, k ≤ n ∧ i = .int .i64 k ∧ Hid (∀ j t, j < k → ids[j]? = some t → t ≠ s) ∧ Hid (Below w.heap.size w wr)) (fun i _ => n - (intOf i).toNat)
  case atStart => exact ⟨0, Nat.zero_le _, rfl, fun j t h => absurd h (Nat.not_lt_zero j), Below.refl _ _⟩
  case round =>
    obtain ⟨k, hk, rfl, HK, HB⟩ := hrel
    by_cases hlt : k < n
    · obtain ⟨x, hx⟩ : ∃ x, ids[k]? = some x := ⟨_, List.getElem?_eq_getElem (by rw [← HN.out]; exact hlt)⟩
      obtain ⟨b, off, rfl, hc⟩ := (HS.out.below HB.out) k x hx
      have HX := Lib.hid hx
      have i1 : (0 : Int) ≤ (k : Int) := by omega
      have i2 : (k : Int) < (n : Int) := by omega
      clear hx
      by_cases he : s = x
      · have e1 : (s.toList == x.toList) = true := sEq_iff.2 he
        have HE := Lib.hid he
        clear he
        go_wp2_with fail
        go_ret
        refine ⟨⟨(k : Int), rfl, ?_⟩, HB.out⟩
        have h1 : s ∈ ids := by rw [HE.out]; exact List.mem_of_getElem? HX.out
        exact ⟨fun _ => h1, fun _ => i1⟩
      · have e1 : (s.toList == x.toList) = false := sEq_false.2 he
        have HE := Lib.hid he
        clear he
        go_wp2_with fail
        go_roundw
        case rel =>
          refine ⟨k + 1, by omega, by go_num, fun j t hj ht => ?_, HB.out⟩
          by_cases h : j = k
          · subst h
            rw [HX.out] at ht
            cases ht
            exact fun e => HE.out e.symm
          · exact HK.out j t (by omega) ht
        case measure => simp [intOf]; omega
    · obtain rfl : k = n := by omega
      go_wp2_with fail
      go_ret
      refine ⟨⟨-1, rfl, ?_⟩, HB.out⟩
      have h1 : ¬ s ∈ ids := fun h => by
        obtain ⟨j, hj⟩ := List.getElem?_of_mem h
        exact HK.out j s (by rw [HN.out]; exact (List.getElem?_eq_some_iff.1 hj).1) hj rfl
      exact ⟨fun h => absurd h (by decide), fun h => absurd h h1⟩

set_option maxHeartbeats 400000 in
theorem contains_is {m : Nat} {b : Bool} (a : Option Addr) (ids : List ByteArray) (c : Nat) (s : ByteArray) (w : World) (hs : SlS w a ids) (hl : ids.length = m) (hm : m ≤ maxLen) (hb : s ∈ ids ↔ b = true) :
    Calls Tryz.prog 44 #[.slice a m c, .string s] w fun e w' => e = .returned (.bool b) ∧ Below w.heap.size w w' := by
  subst hl
  have HI := Lib.hid (index_is a ids c s w hs hm)
  have HBB := Lib.hid hb
  obtain ⟨n, hn⟩ : ∃ n, ids.length = n := ⟨_, rfl⟩
  rw [hn] at HI ⊢
  clear hs hm hb hn
  go_enter Tryz.func44, Tryz.ntmps44
  go_wp2_with fail
  refine HI.out.mono ?_
  rintro e w1 ⟨⟨t, rfl, ht⟩, hb1⟩
  rw [HBB.out] at ht
  have HT := Lib.hid ht
  have HB1 := Lib.hid hb1
  clear ht hb1
  cases b with
  | true =>
    have h0 : 0 ≤ t := HT.out.2 rfl
    clear HBB HT HI
    go_wp2_with fail
    go_ret
    exact ⟨rfl, HB1.out⟩
  | false =>
    have h0 : ¬ 0 ≤ t := fun h => by have := HT.out.1 h; cases this
    clear HBB HT HI
    go_wp2_with fail
    go_ret
    exact ⟨congrArg (fun b => Ending.returned (.bool b)) (decide_eq_false (by omega)), HB1.out⟩

theorem nanS_is (x : ByteArray) (w : World) : Calls Tryz.prog 140 #[.string x] w fun e w' => e = .returned (.bool false) ∧ w' = w := by
  have e1 : (x.toList == x.toList) = true := sEq_iff.2 rfl
  go_enter Tryz.func140, Tryz.ntmps140
  go_wp2_with fail
  go_ret
  exact ⟨rfl, rfl⟩
theorem less_is {b : Bool} (x y : ByteArray) (w : World) (hb : sLt x y = b) : Calls Tryz.prog 118 #[.string x, .string y] w fun e w' => e = .returned (.bool b) ∧ w' = w := by
  have h1 : Op.bytesLess x.toList y.toList = b := hb
  clear hb
  go_enter Tryz.func118, Tryz.ntmps118
  go_wp2_with (go_at_call 140; refine (nanS_is _ _).mono ?_; rintro e w' ⟨rfl, rfl⟩)
  go_ret
  exact ⟨rfl, rfl⟩

end Go.Proofs.YteimdhkajbldjaaGreat
