/- The contracts of wyref.kinds and wyref.Part: a set of kinds as a map. -/
import Derived.Test.YtekjlbbacieafaaDoorBase
import Derived.Maps.RangeWalk
import Derived.Maps.OwnOps
set_option linter.unusedVariables false
set_option linter.unusedSimpArgs false
set_option maxRecDepth 100000
namespace Go.Proofs.YtekjlbbacieafaaDoor
open Go.RowKit Go.Maps

theorem law3 : Keyed Tryd.prog 3 := int_keyed Tryd.underlying3

/-- the map of the kinds of n below k, as data -/
def kD (n : Nat) : Nat → DataW Unit
  | 0 => .map []
  | k + 1 => if n.testBit k = true then (kD n k).put (.int .i64 (k : Int)) (.lit (.bool true)) else kD n k

theorem kD_map (n : Nat) : ∀ k, IsMap (kD n k)
  | 0 => isMap_empty
  | k + 1 => by
    unfold kD
    split
    · exact (kD_map n k).put _ _
    · exact kD_map n k

theorem int_lit_ne {i j : Nat} (h : i ≠ j) : (Lit.int .i64 (i : Int)) ≠ .int .i64 (j : Int) := fun e => h (by cases e; rfl)

theorem key_lit (j : Nat) : WideAt.IsKeyLit (.int .i64 (j : Int)) := trivial

theorem kD_at (n j : Nat) : ∀ k, (kD n k).atKey (.int .i64 (j : Int)) (.lit (.bool false)) = .lit (.bool (decide (j < k) && n.testBit j))
  | 0 => by simp [kD, DataW.atKey]
  | k + 1 => by
    have ih := kD_at n j k
    unfold kD
    by_cases e : j = k
    · subst e
      split
      · rename_i hb
        rw [atKey_put_same (kD_map n j) (key_lit j), hb]
        simp
      · rename_i hb
        rw [ih]
        have : n.testBit j = false := by simpa using hb
        rw [this]
        simp
    · have hlt : decide (j < k + 1) = decide (j < k) := by
        rw [Bool.eq_iff_iff, decide_eq_true_iff, decide_eq_true_iff]
        omega
      rw [hlt]
      split
      · rw [atKey_put_other (int_lit_ne e), ih]
      · exact ih

theorem kD_bit {n j : Nat} {c : Bool} (hj : j < 8) (h : (kD n 8).atKey (.int .i64 (j : Int)) (.lit (.bool false)) = .lit (.bool c)) : c = n.testBit j := by
  rw [kD_at] at h
  have h1 : decide (j < 8) = true := by simpa using hj
  rw [h1, Bool.true_and] at h
  cases h
  rfl

theorem kD_has (n : Nat) (kl : Lit) : ∀ k, has (kD n k) kl = true → ∃ j : Nat, j < k ∧ kl = .int .i64 (j : Int) ∧ n.testBit j = true
  | 0, h => by simp [kD, has] at h
  | k + 1, h => by
    unfold kD at h
    split at h
    · rename_i hb
      by_cases e : kl = .int .i64 (k : Int)
      · exact ⟨k, by omega, e, hb⟩
      · rw [has_put_other e] at h
        obtain ⟨j, h1, h2, h3⟩ := kD_has n kl k h
        exact ⟨j, by omega, h2, h3⟩
    · obtain ⟨j, h1, h2, h3⟩ := kD_has n kl k h
      exact ⟨j, by omega, h2, h3⟩

theorem kD_has_of (n j : Nat) : ∀ k, j < k → n.testBit j = true → has (kD n k) (.int .i64 (j : Int)) = true
  | 0, h, _ => by omega
  | k + 1, h, hb => by
    unfold kD
    by_cases e : j = k
    · subst e
      rw [if_pos hb]
      exact has_put_same (kD_map n j) (key_lit j) _
    · have ih := kD_has_of n j k (by omega) hb
      split
      · rw [has_put_other (int_lit_ne e)]
        exact ih
      · exact ih

/-- what reads as a bool's datum is that bool -/
theorem plainElem_bool_inv {H : Type} {P : Program} {e : TypeId} (he : P.underlying e = some .bool) {v : Value} {z : DataW H × List MemPlace} (h : plainElem P e v = some z) : ∃ x, v = .bool x ∧ z = (.lit (.bool x), []) := by
  unfold plainElem at h
  rw [he] at h
  cases v <;> simp at h
  exact ⟨_, rfl, h.symm⟩

/-- 'm[k]' without 'ok' at elements that are bools. -/
theorem wpList_lookup_own_bool {H : Type} {P : Program} (w : World) {ops : Array Oper} {rest : List Oper} {o : Oper} {a : Act} {Q : Exit → Act → World → Prop}
    (hg : o.guard = none) (m x : Operand) (t : TypeId) (hop : o.op = Op.lookup t m x false)
    (k e : TypeId) (K : Keyed P k) (ht : P.underlying t = some (.map k e)) (he : P.underlying e = some .bool) (hz : (zeroValue e).run P w = .ok (.bool false) w) (b n : Nat) (D : DataW H)
    (hm : a.eval m = .map (some b)) (hown : w.ownsMap P k (plainElem P e) b n D) (key : Value) (kl : Lit) (hx : a.eval x = key) (hkey : keyOf P k key = some kl)
    (hK : ∀ c : Bool, D.atKey kl (.lit (.bool false)) = .lit (.bool c) → wpList P ops Q rest (a.put o.dst (.bool c)) w) :
    wpList P ops Q (o :: rest) a w := by
  refine wpList_plain hg fun K' hK' => ?_
  obtain ⟨v, ps, hrun, hv⟩ := hown.lookup K ht hz (plainElem_bool he false) hkey
  obtain ⟨c, rfl, hc⟩ := plainElem_bool_inv he hv
  simp only [Prod.mk.injEq] at hc
  unfold Oper.wp
  simp [execOp, hop, hm, hx, hrun, Result.andThen]
  exact hK' _ _ (hK c hc.1)

theorem zero4 (w : World) : (zeroValue 4).run Tryd.prog w = .ok (.bool false) w := by kernel_rfl

set_option maxHeartbeats 1000000 in
theorem kinds_any (n : Nat) (w : World) (hn : n < 256) :
    Calls Tryd.prog 69 #[.int .i64 n] w fun e w' => e = .returned (.map (some w.heap.size)) ∧ w'.ownsMap Tryd.prog 3 (plainElem Tryd.prog 4) w.heap.size 8 (kD n 8) ∧ Below w.heap.size w w' := by
  have hmm := @run_makeMap Tryd.prog
  go_enter Tryd.func69, Tryd.ntmps69
  go_wp2_with fail
  go_loopw [6] (fun s wr => ∃ k : Nat, k ≤ 8 ∧ s = .int .i64 k ∧ wr.ownsMap Tryd.prog 3 (plainElem Tryd.prog 4) w.heap.size k (kD n k) ∧ Below w.heap.size w wr) (fun s _ => 8 - (intOf s).toNat)
  case atStart => exact ⟨0, by omega, rfl, World.ownsMap_made _ _ _ _, (Below.refl _ _).alloc (Nat.le_refl _) _⟩
  case round =>
    obtain ⟨k, hk, rfl, hown, hB⟩ := hrel
    by_cases hlt : k < 8
    · have hlt' : (k : Int) < 8 := by omega
      have hx := bit_mod n k
      cases hb : n.testBit k
      · rw [hb] at hx
        have HB := Lib.hid hb
        clear hb
        go_wp2_with fail
        go_roundw
        case rel => exact ⟨k + 1, by omega, by go_num, by rw [kD, if_neg (by rw [HB.out]; simp)]; exact hown.mono (by omega), hB⟩
        case measure => simp [intOf]; omega
      · rw [hb] at hx
        have HB := Lib.hid hb
        clear hb
        go_wp2_with (at_mapUpdate; refine wpList_mapUpdate_own _ rfl _ _ _ 108 rfl 3 4 law3 Tryd.underlying108 _ w.heap.size k _ rfl hown (by unfold maxLen; omega) _ _ _ rfl rfl (keyOf_int_mk Tryd.underlying3 (WalkArith.wf_i64 (by omega))) _ [] (plainElem_bool Tryd.underlying4 true) ?_; intro w1 hown1 hgrow1)
        go_roundw
        case rel => exact ⟨k + 1, by omega, by go_num, by rw [kD, if_pos HB.out]; exact hown1, hB.grown hgrow1 hB.size (fun j hj => by cases hj; exact Nat.le_refl _)⟩
        case measure => simp [intOf]; omega
    · obtain rfl : k = 8 := by omega
      go_wp2_with fail
      go_ret
      exact ⟨rfl, hown, hB⟩

set_option maxHeartbeats 2000000 in
theorem part_any (a b : Nat) (w : World) (ha : a < 256) (hb : b < 256) :
    Calls Tryd.prog 52 #[.int .i64 a, .int .i64 b] w fun e w' => e = .returned (.bool (decide (sub a b = 0))) ∧ Below w.heap.size w w' := by
  go_enter Tryd.func52, Tryd.ntmps52
  go_wp2_with (first
    | (go_at_call 69; refine (kinds_any a _ ha).mono ?_; rintro e w1 ⟨rfl, hown, hb1⟩)
    | (at_range; refine wpList_range_own _ rfl _ 108 rfl 3 4 law3 Tryd.underlying108 _ w.heap.size 8 _ rfl hown ?_; intro w2 hrg0 hg0 hs0))
  go_frame
  have hlt1 := hown.lt
  have hB2 : Below w.heap.size w w2 := hb1.grown hg0 hb1.size (fun j hj => by cases hj)
  obtain ⟨r, hr⟩ : ∃ r, r = w1.heap.size := ⟨_, rfl⟩
  rw [← hr] at hrg0 ⊢
  have hrw : w.heap.size ≤ r := by rw [hr]; exact hb1.size
  clear hg0 hown hb1 hs0 hlt1 hr
  go_loopw [5] (fun _ wr => ∃ (left : Lit → Bool) (cnt : Nat), wr.ranges Tryd.prog 3 (plainElem Tryd.prog 4) w.heap.size r 8 (kD a 8) left cnt ∧ Hid (∀ kl, left kl = true → Maps.has (kD a 8) kl = true) ∧
      Hid (∀ j : Nat, j < 8 → a.testBit j = true → left (.int .i64 (j : Int)) = false → b.testBit j = true) ∧ Below w.heap.size w wr)
    (fun _ wr => wr.rangeLeft w.heap.size r)
  case atStart =>
    have hd0 : Hid (∀ j : Nat, j < 8 → a.testBit j = true → Maps.has (kD a 8) (.int .i64 (j : Int)) = false → b.testBit j = true) := fun j hj hbj hl => by
      rw [kD_has_of a j 8 hj hbj] at hl
      cases hl
    exact ⟨_, _, hrg0, fun _ h => h, hd0, hB2⟩
  case round =>
    obtain ⟨left, cnt, hrg, hsub, hdone, hB⟩ := hrel
    go_wp2_with (at_next; refine wpList_next_ranges _ rfl _ rfl 3 law3 (plainElem Tryd.prog 4) (Value.int .i64) (fun v : Value => v) (fun key kl hk => by obtain ⟨x, rfl, _⟩ := Maps.keyOf_int_inv Tryd.underlying3 hk; exact ⟨x, rfl⟩) (fun v y hv => ⟨v, rfl⟩) w.heap.size r 8 _ _ _ rfl hrg ?_ ?_)
    · intro _ hl0
      have hres : Hid (sub a b = 0) := (sub_zero (by omega) (by omega)).2 fun j hj => hdone.out j (by
        rcases Nat.lt_or_ge j 8 with h8 | h8
        · exact h8
        · rw [Nat.testBit_lt_two_pow (Nat.lt_of_lt_of_le ha (Nat.pow_le_pow_right (n := 2) (by omega) h8))] at hj
          cases hj) hj (hl0 _)
      clear hl0
      go_wp2_with fail
      go_ret
      exact ⟨ret_bool (by rw [hres.out]; rfl), hB⟩
    · intro x c kl y1 y2 w3 cnt3 hkey hlk hR hat hrg3 hlt3 hg3 hs3 hen
      obtain ⟨x', hx', hkl, hwf⟩ := Maps.keyOf_int_inv Tryd.underlying3 hkey
      obtain ⟨j, hj8, hjk, hbj⟩ := kD_has a kl 8 (hsub.out kl hlk)
      obtain rfl : x = (j : Int) := by
        rw [hkl] at hjk
        cases hx'
        cases hjk
        rfl
      subst hjk
      have hB3 : Below w.heap.size w w3 := hB.grown hg3 hB.size (fun i hi => by cases hi; exact hrw)
      have HR := Lib.hid hR; have HK := Lib.hid hkey; have HA := Lib.hid hat; have HBJ := Lib.hid hbj; have HKL := Lib.hid hlk
      clear hR hkey hat hbj hlk hkl hx' hwf hg3 hs3 HR HK HA HKL
      cases hbb : b.testBit j
      · have hres : Hid (decide (sub a b = 0) = false) := by
          show decide (sub a b = 0) = false
          rw [decide_eq_false_iff_not, sub_zero (by omega) (by omega)]
          intro h
          rw [h j HBJ.out] at hbb
          cases hbb
        go_wp2_with (first
          | (go_at_call 69; refine (kinds_any b _ hb).mono ?_; rintro e w4 ⟨rfl, hown4, hb4⟩)
          | (at_lookup; refine wpList_lookup_own_bool _ rfl _ _ 108 rfl 3 4 law3 Tryd.underlying108 Tryd.underlying4 (zero4 _) w3.heap.size 8 _ rfl hown4 _ _ rfl (keyOf_int_mk Tryd.underlying3 (WalkArith.wf_i64 (by omega))) ?_; intro c2 hat2; obtain rfl := kD_bit hj8 hat2))
        go_ret
        exact ⟨ret_bool hres.out.symm, hB3.trans (hb4.mono hB3.size)⟩
      · have HBB := Lib.hid hbb
        go_wp2_with (first
          | (go_at_call 69; refine (kinds_any b _ hb).mono ?_; rintro e w4 ⟨rfl, hown4, hb4⟩)
          | (at_lookup; refine wpList_lookup_own_bool _ rfl _ _ 108 rfl 3 4 law3 Tryd.underlying108 Tryd.underlying4 (zero4 _) w3.heap.size 8 _ rfl hown4 _ _ rfl (keyOf_int_mk Tryd.underlying3 (WalkArith.wf_i64 (by omega))) ?_; intro c2 hat2; obtain rfl := kD_bit hj8 hat2))
        go_roundw
        case rel =>
          refine ⟨_, cnt3, hrg3.kept (row := none) ⟨hb4.os, hb4.tape, hb4.output, hb4.size, fun k hk _ => hb4.block k hk⟩ (by simp) (by simp), fun kl hkl => ?_, fun l hl hbl hll => ?_, hB3.trans (hb4.mono hB3.size)⟩
          · simp only [Bool.and_eq_true] at hkl
            exact hsub.out kl hkl.1
          · by_cases e : l = j
            · subst e
              exact HBB.out
            · refine hdone.out l hl hbl ?_
              have hne : (Lit.int .i64 (l : Int)).sameKey (.int .i64 (j : Int)) = false := sameKey_ne (int_lit_ne e)
              rw [hne] at hll
              simpa using hll
        case measure =>
          have h4 : w4.ranges Tryd.prog 3 (plainElem Tryd.prog 4) w.heap.size r 8 (kD a 8) _ cnt3 := hrg3.kept (row := none) ⟨hb4.os, hb4.tape, hb4.output, hb4.size, fun k hk _ => hb4.block k hk⟩ (by simp) (by simp)
          rw [h4.left_eq, hrg.left_eq]
          exact hlt3
end Go.Proofs.YtekjlbbacieafaaDoor
