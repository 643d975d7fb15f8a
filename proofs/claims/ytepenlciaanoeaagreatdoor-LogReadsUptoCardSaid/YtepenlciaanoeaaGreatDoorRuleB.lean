/- Contracts of packages role, label and rule. -/
import Derived.Test.YtepenlciaanoeaaGreatDoorBase
import Derived.Test.YtepenlciaanoeaaGreatDoorRuleA
set_option linter.unusedVariables false
set_option linter.unusedSimpArgs false
set_option maxRecDepth 100000
namespace Go.Proofs.YtepenlciaanoeaaGreatDoor
open Go.RowKit

end Go.Proofs.YtepenlciaanoeaaGreatDoor
namespace Go.Proofs.YtepenlciaanoeaaGreatDoor
open Go.RowKit

set_option maxHeartbeats 400000 in
theorem check_ok (l c : Int) (w : World) (h1 : 0 ≤ l) (h2 : l ≤ 3) (h3 : 0 ≤ c) (h4 : c ≤ 255) :
    Calls Tryz.prog 170 #[.agg #[.int .i64 l, .int .i64 c]] w fun e w' => e = .returned (.int .i64 0) ∧ Below w.heap.size w w' ∧ w'.heap.size = w.heap.size + 1 := by
  have k1 : ¬ l < 0 := by omega
  have k2 : ¬ 3 < l := by omega
  have k4 : c < 256 := by omega
  go_enter Tryz.func170, Tryz.ntmps170
  go_wp2
  all_goals go_ret
  all_goals exact ⟨rfl, by go_grown, by simp⟩

set_option maxHeartbeats 400000 in
theorem check_bad (l c : Int) (w : World) (h : ¬ (0 ≤ l ∧ l ≤ 3 ∧ 0 ≤ c ∧ c ≤ 255)) :
    Calls Tryz.prog 170 #[.agg #[.int .i64 l, .int .i64 c]] w fun e w' => e = .returned (.int .i64 1) ∧ Below w.heap.size w w' ∧ w'.heap.size = w.heap.size + 1 := by
  by_cases h1 : l < 0
  · clear h
    go_enter Tryz.func170, Tryz.ntmps170
    go_wp2
    all_goals go_ret
    all_goals exact ⟨rfl, by go_grown, by simp⟩
  · by_cases h2 : 3 < l
    · clear h
      go_enter Tryz.func170, Tryz.ntmps170
      go_wp2
      all_goals go_ret
      all_goals exact ⟨rfl, by go_grown, by simp⟩
    · by_cases h3 : 0 ≤ c
      · have h4 : ¬ c < 256 := by omega
        clear h
        go_enter Tryz.func170, Tryz.ntmps170
        go_wp2
        all_goals go_ret
        all_goals exact ⟨rfl, by go_grown, by simp⟩
      · clear h
        go_enter Tryz.func170, Tryz.ntmps170
        go_wp2
        all_goals go_ret
        all_goals exact ⟨rfl, by go_grown, by simp⟩
end Go.Proofs.YtepenlciaanoeaaGreatDoor
namespace Go.Proofs.YtepenlciaanoeaaGreatDoor
open Go.RowKit

theorem errN_keep {rs : Nat → RuleL} {k : Nat} {v : Int} (h : errN rs k = v) (hv : v ≠ 0) : ∀ {n : Nat}, k ≤ n → errN rs n = v
  | 0, hn => by
    obtain rfl : k = 0 := by omega
    exact h
  | n + 1, hn => by
    by_cases e : k = n + 1
    · subst e
      exact h
    · have ih := errN_keep h hv (n := n) (by omega)
      unfold errN
      rw [if_neg (by rw [ih]; exact hv), ih]

set_option maxHeartbeats 400000 in
theorem isBelow_yes (x n : Int) (w : World) (h : 0 ≤ x ∧ x < n) :
    Calls Tryz.prog 223 #[.int .i64 x, .int .i64 n] w fun e w' => e = .returned (.bool true) ∧ w = w' := by
  obtain ⟨h0, h1⟩ := h
  go_enter Tryz.func223, Tryz.ntmps223
  go_wp2
  go_ret
  exact ⟨rfl, rfl⟩
set_option maxHeartbeats 400000 in
theorem isBelow_no (x n : Int) (w : World) (h : ¬ (0 ≤ x ∧ x < n)) :
    Calls Tryz.prog 223 #[.int .i64 x, .int .i64 n] w fun e w' => e = .returned (.bool false) ∧ w = w' := by
  by_cases h0 : 0 ≤ x
  · have h1 : ¬ x < n := by omega
    clear h
    go_enter Tryz.func223, Tryz.ntmps223
    go_wp2
    go_ret
    exact ⟨rfl, rfl⟩
  · clear h
    go_enter Tryz.func223, Tryz.ntmps223
    go_wp2
    go_ret
    exact ⟨rfl, rfl⟩
set_option maxHeartbeats 400000 in
theorem isOrAny_yes (x n : Int) (w : World) (h : -1 ≤ x ∧ x < n) :
    Calls Tryz.prog 249 #[.int .i64 x, .int .i64 n] w fun e w' => e = .returned (.bool true) ∧ w = w' := by
  by_cases h0 : x = -1
  · subst h0
    clear h
    go_enter Tryz.func249, Tryz.ntmps249
    go_wp2_with fail
    go_ret
    exact ⟨rfl, rfl⟩
  · have h1 : (x == -1) = false := by simp [h0]
    have H : Hid (0 ≤ x ∧ x < n) := by show _ ∧ _; omega
    clear h h0
    go_enter Tryz.func249, Tryz.ntmps249
    go_wp2_with fail
    refine (isBelow_yes x n _ H.out).mono ?_
    rintro e w' ⟨rfl, rfl⟩
    go_wp2_with fail
    go_ret
    exact ⟨rfl, rfl⟩
set_option maxHeartbeats 400000 in
theorem isOrAny_no (x n : Int) (w : World) (h : ¬ (-1 ≤ x ∧ x < n)) (hn : 0 ≤ n) :
    Calls Tryz.prog 249 #[.int .i64 x, .int .i64 n] w fun e w' => e = .returned (.bool false) ∧ w = w' := by
  have h1 : (x == -1) = false := by simp; omega
  have H : Hid (¬ (0 ≤ x ∧ x < n)) := by show ¬ _; omega
  clear h
  go_enter Tryz.func249, Tryz.ntmps249
  go_wp2_with fail
  refine (isBelow_no x n _ H.out).mono ?_
  rintro e w' ⟨rfl, rfl⟩
  go_wp2_with fail
  go_ret
  exact ⟨rfl, rfl⟩
set_option maxHeartbeats 400000 in
theorem isCats_yes (c : Int) (w : World) (h : 0 ≤ c ∧ c ≤ 255) :
    Calls Tryz.prog 250 #[.int .i64 c] w fun e w' => e = .returned (.bool true) ∧ Below w.heap.size w w' ∧ w'.heap.size = w.heap.size + 1 := by
  have H := Lib.hid h
  clear h
  go_enter Tryz.func250, Tryz.ntmps250
  go_wp2_with fail
  refine (check_ok 0 c _ (by omega) (by omega) H.out.1 H.out.2).mono ?_
  rintro e w1 ⟨rfl, hb1, hz1⟩
  go_wp2_with fail
  go_ret
  exact ⟨rfl, hb1, hz1⟩
set_option maxHeartbeats 400000 in
theorem isCats_no (c : Int) (w : World) (h : ¬ (0 ≤ c ∧ c ≤ 255)) :
    Calls Tryz.prog 250 #[.int .i64 c] w fun e w' => e = .returned (.bool false) ∧ Below w.heap.size w w' ∧ w'.heap.size = w.heap.size + 1 := by
  have H := Lib.hid h
  clear h
  go_enter Tryz.func250, Tryz.ntmps250
  go_wp2_with fail
  refine (check_bad 0 c _ (fun h => H.out ⟨h.2.2.1, h.2.2.2⟩)).mono ?_
  rintro e w1 ⟨rfl, hb1, hz1⟩
  go_wp2_with fail
  go_ret
  exact ⟨rfl, hb1, hz1⟩
set_option maxHeartbeats 400000 in
theorem one_ok (r : RuleL) (w : World) (h : r.argOk) (h2 : r.frm < r.til) :
    Calls Tryz.prog 198 #[r.v] w fun e w' => e = .returned (.int .i64 0) ∧ Below w.heap.size w w' := by
  obtain ⟨hr, hy, hf, ht, hc⟩ := h
  have hf' : ¬ r.frm < 0 := by omega
  have ht' : ¬ 1000 < r.til := by omega
  have HR := Lib.hid hr; have HY := Lib.hid hy; have HC := Lib.hid hc
  clear hr hy hf ht hc
  have h2' : ¬ r.til ≤ r.frm := by omega
  have hA : Below w.heap.size w (w.alloc (.cells #[.int .i64 r.role, .int .i64 r.why, .int .i64 r.frm, .int .i64 r.til, .int .i64 r.cats, .bool r.allow] 51)) := (Below.refl _ _).alloc (Nat.le_refl _) _
  go_enter Tryz.func198, Tryz.ntmps198
  go_wp2_with fail
  refine (isOrAny_yes r.role 8 _ (by have := HR.out; omega)).mono ?_
  rintro e w' ⟨rfl, rfl⟩
  go_wp2_with fail
  refine (isOrAny_yes r.why 4 _ (by have := HY.out; omega)).mono ?_
  rintro e w' ⟨rfl, rfl⟩
  go_wp2_with fail
  refine (isCats_yes r.cats _ HC.out).mono ?_
  rintro e w1 ⟨rfl, hb1, hz1⟩
  have hB1 : Below w.heap.size w w1 := hA.trans (hb1.mono (by simp))
  obtain ⟨hc1, hf1⟩ := bcell hb1
  go_wp2_with fail
  go_ret
  exact ⟨rfl, hB1⟩
set_option maxHeartbeats 400000 in
theorem one_form (r : RuleL) (w : World) (h : r.argOk) (h2 : ¬ r.frm < r.til) :
    Calls Tryz.prog 198 #[r.v] w fun e w' => e = .returned (.int .i64 3) ∧ Below w.heap.size w w' := by
  obtain ⟨hr, hy, hf, ht, hc⟩ := h
  have hf' : ¬ r.frm < 0 := by omega
  have ht' : ¬ 1000 < r.til := by omega
  have HR := Lib.hid hr; have HY := Lib.hid hy; have HC := Lib.hid hc
  clear hr hy hf ht hc
  have h2' : r.til ≤ r.frm := by omega
  clear h2
  have hA : Below w.heap.size w (w.alloc (.cells #[.int .i64 r.role, .int .i64 r.why, .int .i64 r.frm, .int .i64 r.til, .int .i64 r.cats, .bool r.allow] 51)) := (Below.refl _ _).alloc (Nat.le_refl _) _
  go_enter Tryz.func198, Tryz.ntmps198
  go_wp2_with fail
  refine (isOrAny_yes r.role 8 _ (by have := HR.out; omega)).mono ?_
  rintro e w' ⟨rfl, rfl⟩
  go_wp2_with fail
  refine (isOrAny_yes r.why 4 _ (by have := HY.out; omega)).mono ?_
  rintro e w' ⟨rfl, rfl⟩
  go_wp2_with fail
  refine (isCats_yes r.cats _ HC.out).mono ?_
  rintro e w1 ⟨rfl, hb1, hz1⟩
  have hB1 : Below w.heap.size w w1 := hA.trans (hb1.mono (by simp))
  obtain ⟨hc1, hf1⟩ := bcell hb1
  go_wp2_with fail
  go_ret
  exact ⟨rfl, hB1⟩
set_option maxHeartbeats 400000 in
theorem one_role (r : RuleL) (w : World) (h : ¬ (-1 ≤ r.role ∧ r.role ≤ 7)) :
    Calls Tryz.prog 198 #[r.v] w fun e w' => e = .returned (.int .i64 1) ∧ Below w.heap.size w w' := by
  have H := Lib.hid h
  clear h
  have hA : Below w.heap.size w (w.alloc (.cells #[.int .i64 r.role, .int .i64 r.why, .int .i64 r.frm, .int .i64 r.til, .int .i64 r.cats, .bool r.allow] 51)) := (Below.refl _ _).alloc (Nat.le_refl _) _
  go_enter Tryz.func198, Tryz.ntmps198
  go_wp2_with fail
  refine (isOrAny_no r.role 8 _ (by have := H.out; omega) (by omega)).mono ?_
  rintro e w' ⟨rfl, rfl⟩
  go_wp2_with fail
  go_ret
  exact ⟨rfl, hA⟩
set_option maxHeartbeats 400000 in
theorem one_why (r : RuleL) (w : World) (hr : -1 ≤ r.role ∧ r.role ≤ 7) (h : ¬ (-1 ≤ r.why ∧ r.why ≤ 3)) :
    Calls Tryz.prog 198 #[r.v] w fun e w' => e = .returned (.int .i64 1) ∧ Below w.heap.size w w' := by
  have H := Lib.hid h
  clear h
  have HR := Lib.hid hr
  clear hr
  have hA : Below w.heap.size w (w.alloc (.cells #[.int .i64 r.role, .int .i64 r.why, .int .i64 r.frm, .int .i64 r.til, .int .i64 r.cats, .bool r.allow] 51)) := (Below.refl _ _).alloc (Nat.le_refl _) _
  go_enter Tryz.func198, Tryz.ntmps198
  go_wp2_with fail
  refine (isOrAny_yes r.role 8 _ (by have := HR.out; omega)).mono ?_
  rintro e w' ⟨rfl, rfl⟩
  go_wp2_with fail
  refine (isOrAny_no r.why 4 _ (by have := H.out; omega) (by omega)).mono ?_
  rintro e w' ⟨rfl, rfl⟩
  go_wp2_with fail
  go_ret
  exact ⟨rfl, hA⟩
set_option maxHeartbeats 400000 in
theorem one_frm (r : RuleL) (w : World) (hr : -1 ≤ r.role ∧ r.role ≤ 7) (hy : -1 ≤ r.why ∧ r.why ≤ 3) (h : r.frm < 0) :
    Calls Tryz.prog 198 #[r.v] w fun e w' => e = .returned (.int .i64 1) ∧ Below w.heap.size w w' := by
  have HR := Lib.hid hr; have HY := Lib.hid hy
  clear hr hy
  have hA : Below w.heap.size w (w.alloc (.cells #[.int .i64 r.role, .int .i64 r.why, .int .i64 r.frm, .int .i64 r.til, .int .i64 r.cats, .bool r.allow] 51)) := (Below.refl _ _).alloc (Nat.le_refl _) _
  go_enter Tryz.func198, Tryz.ntmps198
  go_wp2_with fail
  refine (isOrAny_yes r.role 8 _ (by have := HR.out; omega)).mono ?_
  rintro e w' ⟨rfl, rfl⟩
  go_wp2_with fail
  refine (isOrAny_yes r.why 4 _ (by have := HY.out; omega)).mono ?_
  rintro e w' ⟨rfl, rfl⟩
  go_wp2_with fail
  go_ret
  exact ⟨rfl, hA⟩
set_option maxHeartbeats 400000 in
theorem one_til (r : RuleL) (w : World) (hr : -1 ≤ r.role ∧ r.role ≤ 7) (hy : -1 ≤ r.why ∧ r.why ≤ 3) (hf : ¬ r.frm < 0) (h : 1000 < r.til) :
    Calls Tryz.prog 198 #[r.v] w fun e w' => e = .returned (.int .i64 1) ∧ Below w.heap.size w w' := by
  have HR := Lib.hid hr; have HY := Lib.hid hy
  clear hr hy
  have hA : Below w.heap.size w (w.alloc (.cells #[.int .i64 r.role, .int .i64 r.why, .int .i64 r.frm, .int .i64 r.til, .int .i64 r.cats, .bool r.allow] 51)) := (Below.refl _ _).alloc (Nat.le_refl _) _
  go_enter Tryz.func198, Tryz.ntmps198
  go_wp2_with fail
  refine (isOrAny_yes r.role 8 _ (by have := HR.out; omega)).mono ?_
  rintro e w' ⟨rfl, rfl⟩
  go_wp2_with fail
  refine (isOrAny_yes r.why 4 _ (by have := HY.out; omega)).mono ?_
  rintro e w' ⟨rfl, rfl⟩
  go_wp2_with fail
  go_ret
  exact ⟨rfl, hA⟩
set_option maxHeartbeats 400000 in
theorem one_cats (r : RuleL) (w : World) (hr : -1 ≤ r.role ∧ r.role ≤ 7) (hy : -1 ≤ r.why ∧ r.why ≤ 3) (hf : ¬ r.frm < 0) (ht : ¬ 1000 < r.til) (h : ¬ (0 ≤ r.cats ∧ r.cats ≤ 255)) :
    Calls Tryz.prog 198 #[r.v] w fun e w' => e = .returned (.int .i64 1) ∧ Below w.heap.size w w' := by
  have H := Lib.hid h
  clear h
  have HR := Lib.hid hr; have HY := Lib.hid hy
  clear hr hy
  have hA : Below w.heap.size w (w.alloc (.cells #[.int .i64 r.role, .int .i64 r.why, .int .i64 r.frm, .int .i64 r.til, .int .i64 r.cats, .bool r.allow] 51)) := (Below.refl _ _).alloc (Nat.le_refl _) _
  go_enter Tryz.func198, Tryz.ntmps198
  go_wp2_with fail
  refine (isOrAny_yes r.role 8 _ (by have := HR.out; omega)).mono ?_
  rintro e w' ⟨rfl, rfl⟩
  go_wp2_with fail
  refine (isOrAny_yes r.why 4 _ (by have := HY.out; omega)).mono ?_
  rintro e w' ⟨rfl, rfl⟩
  go_wp2_with fail
  refine (isCats_no r.cats _ H.out).mono ?_
  rintro e w1 ⟨rfl, hb1, hz1⟩
  have hB1 : Below w.heap.size w w1 := hA.trans (hb1.mono (by simp))
  obtain ⟨hc1, hf1⟩ := bcell hb1
  go_wp2_with fail
  go_ret
  exact ⟨rfl, hB1⟩

theorem one_any (r : RuleL) (w : World) :
    Calls Tryz.prog 198 #[r.v] w fun e w' => e = .returned (.int .i64 r.err) ∧ Below w.heap.size w w' := by
  by_cases hr : -1 ≤ r.role ∧ r.role ≤ 7
  · by_cases hy : -1 ≤ r.why ∧ r.why ≤ 3
    · by_cases hf : r.frm < 0
      · rw [RuleL.err_arg (fun h => by have := h.2.2.1; omega)]
        exact one_frm r w hr hy hf
      · by_cases ht : 1000 < r.til
        · rw [RuleL.err_arg (fun h => by have := h.2.2.2.1; omega)]
          exact one_til r w hr hy hf ht
        · by_cases hc : 0 ≤ r.cats ∧ r.cats ≤ 255
          · have ha : r.argOk := ⟨hr, hy, by omega, by omega, hc⟩
            by_cases h2 : r.frm < r.til
            · rw [RuleL.err_ok ⟨ha, h2⟩]
              exact one_ok r w ha h2
            · rw [RuleL.err_form ha h2]
              exact one_form r w ha h2
          · rw [RuleL.err_arg (fun h => hc h.2.2.2.2)]
            exact one_cats r w hr hy hf ht hc
    · rw [RuleL.err_arg (fun h => hy h.2.1)]
      exact one_why r w hr hy
  · rw [RuleL.err_arg (fun h => hr h.1)]
    exact one_role r w hr

set_option maxRecDepth 100000 in
set_option maxHeartbeats 1000000 in
theorem rules_any (a : Option Addr) (n cap : Nat) (rs : Nat → RuleL) (w : World) (hs : SlR w a n rs) (hm : n ≤ maxLen) :
    Calls Tryz.prog 145 #[.slice a n cap] w fun e w' => e = .returned (.int .i64 (rulesErr n rs)) ∧ Below w.heap.size w w' := by
  unfold maxLen at hm
  by_cases hn : 20 < n
  · have hr : Hid (rulesErr n rs = 2) := if_pos hn
    have hn' : (20 : Int) < n := by omega
    go_enter Tryz.func145, Tryz.ntmps145
    go_wp2_with fail
    go_ret
    exact ⟨ret_int hr.out.symm, Below.refl _ _⟩
  · have hr : Hid (rulesErr n rs = errN rs n) := if_neg hn
    have hn' : ¬ (20 : Int) < n := by omega
    have HS := Lib.hid hs
    clear hs
    go_enter Tryz.func145, Tryz.ntmps145
    go_wp2_with fail
    go_loopw [11] (fun s wr => ∃ k : Nat, k ≤ n ∧ s = .int .i64 k ∧ Hid (errN rs k = 0) ∧ Below w.heap.size w wr) (fun s _ => n - (intOf s).toNat)
    case atStart => exact ⟨0, Nat.zero_le _, rfl, rfl, Below.refl _ _⟩
    case round =>
      obtain ⟨k, hk, rfl, hE, hB⟩ := hrel
      by_cases hlt : k < n
      · obtain ⟨b, off, rfl, hc⟩ := (HS.out.below hB) k hlt
        have hblt := cell_lt hc.1
        obtain ⟨c0, c1, c2, c3, c4, c5⟩ := hc
        obtain ⟨v, hv⟩ : ∃ v, (rs k).err = v := ⟨_, rfl⟩
        have hv2 : v = 0 ∨ v = 1 ∨ v = 3 := by
          rw [← hv]
          by_cases h : (rs k).ok
          · exact .inl (RuleL.err_ok h)
          · exact .inr (RuleL.err_ne h)
        have HV := Lib.hid hv
        clear hv
        have hst : Hid (errN rs (k + 1) = v) := by show errN rs (k + 1) = v; unfold errN; rw [if_pos hE.out]; exact HV.out
        go_wp2_with fail
        refine (one_any (rs k) _).mono ?_
        rintro e w1 ⟨rfl, hb1⟩
        have hB1 : Below w.heap.size w w1 := (hB.alloc hB.size _).trans (hb1.mono (by have := hB.size; simp; omega))
        clear c0 c1 c2 c3 c4 c5 hb1
        rw [HV.out]
        rcases hv2 with rfl | rfl | rfl
        · go_wp2_with fail
          go_roundw
          case rel => exact ⟨k + 1, by omega, by go_num, hst, hB1⟩
          case measure => simp [intOf]; omega
        · have hfin : Hid (rulesErr n rs = 1) := by show _ = _; rw [hr.out]; exact errN_keep hst.out (by decide) (by omega)
          go_wp2_with fail
          go_ret
          exact ⟨ret_int hfin.out.symm, hB1⟩
        · have hfin : Hid (rulesErr n rs = 3) := by show _ = _; rw [hr.out]; exact errN_keep hst.out (by decide) (by omega)
          go_wp2_with fail
          go_ret
          exact ⟨ret_int hfin.out.symm, hB1⟩
      · obtain rfl : k = n := by omega
        have hfin : Hid (rulesErr k rs = 0) := by show _ = _; rw [hr.out]; exact hE.out
        go_wp2_with fail
        go_ret
        exact ⟨ret_int hfin.out.symm, hB⟩
set_option maxHeartbeats 400000 in
theorem who_yes (x : WhoL) (w : World) (hr : 0 ≤ x.role ∧ x.role ≤ 7) (hy : 0 ≤ x.why ∧ x.why ≤ 3) (ht : 0 ≤ x.time ∧ x.time ≤ 999) :
    Calls Tryz.prog 169 #[x.v] w fun e w' => e = .returned (.bool true) ∧ Below w.heap.size w w' := by
  have hA : Below w.heap.size w (w.alloc (.cells #[.int .i64 x.role, .int .i64 x.why, .int .i64 x.time] 35)) := (Below.refl _ _).alloc (Nat.le_refl _) _
  have HR := Lib.hid hr; have HY := Lib.hid hy; have HT := Lib.hid ht
  clear hr hy ht
  go_enter Tryz.func169, Tryz.ntmps169
  go_wp2_with fail
  refine (isBelow_yes x.role 8 _ (by have := HR.out; omega)).mono ?_
  rintro e w' ⟨rfl, rfl⟩
  go_wp2_with fail
  refine (isBelow_yes x.why 4 _ (by have := HY.out; omega)).mono ?_
  rintro e w' ⟨rfl, rfl⟩
  go_wp2_with fail
  refine (isBelow_yes x.time 1000 _ (by have := HT.out; omega)).mono ?_
  rintro e w' ⟨rfl, rfl⟩
  go_wp2_with fail
  go_ret
  exact ⟨rfl, hA⟩
set_option maxHeartbeats 400000 in
theorem who_time (x : WhoL) (w : World) (hr : 0 ≤ x.role ∧ x.role ≤ 7) (hy : 0 ≤ x.why ∧ x.why ≤ 3) (ht : ¬ (0 ≤ x.time ∧ x.time ≤ 999)) :
    Calls Tryz.prog 169 #[x.v] w fun e w' => e = .returned (.bool false) ∧ Below w.heap.size w w' := by
  have hA : Below w.heap.size w (w.alloc (.cells #[.int .i64 x.role, .int .i64 x.why, .int .i64 x.time] 35)) := (Below.refl _ _).alloc (Nat.le_refl _) _
  have HR := Lib.hid hr; have HY := Lib.hid hy; have HT := Lib.hid ht
  clear hr hy ht
  go_enter Tryz.func169, Tryz.ntmps169
  go_wp2_with fail
  refine (isBelow_yes x.role 8 _ (by have := HR.out; omega)).mono ?_
  rintro e w' ⟨rfl, rfl⟩
  go_wp2_with fail
  refine (isBelow_yes x.why 4 _ (by have := HY.out; omega)).mono ?_
  rintro e w' ⟨rfl, rfl⟩
  go_wp2_with fail
  refine (isBelow_no x.time 1000 _ (by have := HT.out; omega)).mono ?_
  rintro e w' ⟨rfl, rfl⟩
  go_wp2_with fail
  go_ret
  exact ⟨rfl, hA⟩
set_option maxHeartbeats 400000 in
theorem who_why (x : WhoL) (w : World) (hr : 0 ≤ x.role ∧ x.role ≤ 7) (hy : ¬ (0 ≤ x.why ∧ x.why ≤ 3)) :
    Calls Tryz.prog 169 #[x.v] w fun e w' => e = .returned (.bool false) ∧ Below w.heap.size w w' := by
  have hA : Below w.heap.size w (w.alloc (.cells #[.int .i64 x.role, .int .i64 x.why, .int .i64 x.time] 35)) := (Below.refl _ _).alloc (Nat.le_refl _) _
  have HR := Lib.hid hr; have HY := Lib.hid hy
  clear hr hy
  go_enter Tryz.func169, Tryz.ntmps169
  go_wp2_with fail
  refine (isBelow_yes x.role 8 _ (by have := HR.out; omega)).mono ?_
  rintro e w' ⟨rfl, rfl⟩
  go_wp2_with fail
  refine (isBelow_no x.why 4 _ (by have := HY.out; omega)).mono ?_
  rintro e w' ⟨rfl, rfl⟩
  go_wp2_with fail
  go_ret
  exact ⟨rfl, hA⟩
set_option maxHeartbeats 400000 in
theorem who_role (x : WhoL) (w : World) (hr : ¬ (0 ≤ x.role ∧ x.role ≤ 7)) :
    Calls Tryz.prog 169 #[x.v] w fun e w' => e = .returned (.bool false) ∧ Below w.heap.size w w' := by
  have hA : Below w.heap.size w (w.alloc (.cells #[.int .i64 x.role, .int .i64 x.why, .int .i64 x.time] 35)) := (Below.refl _ _).alloc (Nat.le_refl _) _
  have HR := Lib.hid hr
  clear hr
  go_enter Tryz.func169, Tryz.ntmps169
  go_wp2_with fail
  refine (isBelow_no x.role 8 _ (by have := HR.out; omega)).mono ?_
  rintro e w' ⟨rfl, rfl⟩
  go_wp2_with fail
  go_ret
  exact ⟨rfl, hA⟩
theorem who_any (x : WhoL) (w : World) :
    Calls Tryz.prog 169 #[x.v] w fun e w' => e = .returned (.bool (decide x.ok)) ∧ Below w.heap.size w w' := by
  by_cases hr : 0 ≤ x.role ∧ x.role ≤ 7
  · by_cases hy : 0 ≤ x.why ∧ x.why ≤ 3
    · by_cases ht : 0 ≤ x.time ∧ x.time ≤ 999
      · rw [decide_eq_true (show x.ok from ⟨hr, hy, ht⟩)]
        exact who_yes x w hr hy ht
      · rw [decide_eq_false (fun h : x.ok => ht h.2.2)]
        exact who_time x w hr hy ht
    · rw [decide_eq_false (fun h : x.ok => hy h.2.1)]
      exact who_why x w hr hy
  · rw [decide_eq_false (fun h : x.ok => hr h.1)]
    exact who_role x w hr
end Go.Proofs.YtepenlciaanoeaaGreatDoor
namespace Go.Proofs.YtepenlciaanoeaaGreatDoor
open Go.RowKit

end Go.Proofs.YtepenlciaanoeaaGreatDoor
namespace Go.Proofs.YtepenlciaanoeaaGreatDoor
open Go.RowKit

/-- one bit of a number, as rule.isFor asks for it -/
theorem bit_zero (M q : Nat) : (bits .and .i64 ((M : Int) / 2 ^ q) 1 == 0) = !M.testBit q := by
  have h := i64_and_any ((M : Int) / 2 ^ q) 1 1 rfl (by omega)
  have e : ((M : Int) / 2 ^ q) % 2 = ((M / 2 ^ q % 2 : Nat) : Int) := by simp
  rw [show ((1 : Nat) : Int) = 1 from rfl, show ((2 : Int) ^ 1) = 2 from rfl, e] at h
  rw [h, ← bit_eq]
  rcases Nat.mod_two_eq_zero_or_one (M / 2 ^ q) with h | h <;> rw [h] <;> rfl

end Go.Proofs.YtepenlciaanoeaaGreatDoor
namespace Go.Proofs.YtepenlciaanoeaaGreatDoor
open Go.RowKit

theorem tup_dec (n : Nat) : Ending.returned (.tuple #[.bool (((n : Nat) : Int) == 0), .int .i64 0]) = .returned (.tuple #[.bool (decide (n = 0)), .int .i64 0]) := by
  have e : (((n : Nat) : Int) == 0) = decide (n = 0) := by
    rw [Bool.eq_iff_iff, beq_iff_eq, decide_eq_true_iff]
    omega
  rw [e]

end Go.Proofs.YtepenlciaanoeaaGreatDoor
