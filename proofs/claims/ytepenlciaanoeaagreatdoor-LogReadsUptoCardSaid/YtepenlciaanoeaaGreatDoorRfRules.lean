/- Contracts of the document's answer on rules: wyref.Cats, Rule, Who, Rules. -/
import Derived.Test.YtepenlciaanoeaaGreatDoorBase
import Derived.Test.YtepenlciaanoeaaGreatDoorRuleA
import Derived.Deep.CutRange
set_option linter.unusedVariables false
set_option linter.unusedSimpArgs false
set_option maxRecDepth 100000
namespace Go.Proofs.YtepenlciaanoeaaGreatDoor
open Go.RowKit

theorem within_yes (x a b : Int) (w : World) (h1 : a ≤ x) (h2 : x ≤ b) :
    Calls Tryz.prog 77 #[.int .i64 x, .int .i64 a, .int .i64 b] w fun e w' => e = .returned (.bool true) ∧ w = w' := by
  go_enter Tryz.func77, Tryz.ntmps77
  go_wp2
  go_ret
  exact ⟨rfl, rfl⟩

theorem within_no (x a b : Int) (w : World) (h : ¬ (a ≤ x ∧ x ≤ b)) :
    Calls Tryz.prog 77 #[.int .i64 x, .int .i64 a, .int .i64 b] w fun e w' => e = .returned (.bool false) ∧ w = w' := by
  by_cases h1 : a ≤ x
  · have h2 : ¬ x ≤ b := by omega
    clear h
    go_enter Tryz.func77, Tryz.ntmps77
    go_wp2
    go_ret
    exact ⟨rfl, rfl⟩
  · clear h
    go_enter Tryz.func77, Tryz.ntmps77
    go_wp2
    go_ret
    exact ⟨rfl, rfl⟩


set_option maxHeartbeats 400000 in
theorem cats_yes (c : Int) (w : World) (h1 : 0 ≤ c) (h2 : c ≤ 255) : Calls Tryz.prog 153 #[.int .i64 c] w fun e w' => e = .returned (.bool true) ∧ w = w' := by
  go_enter Tryz.func153, Tryz.ntmps153
  go_wp2_with fail
  refine (within_yes c 0 255 _ h1 h2).mono ?_
  rintro e w' ⟨rfl, rfl⟩
  go_wp2_with fail
  go_ret
  exact ⟨rfl, rfl⟩

set_option maxHeartbeats 400000 in
theorem cats_no (c : Int) (w : World) (h : ¬ (0 ≤ c ∧ c ≤ 255)) : Calls Tryz.prog 153 #[.int .i64 c] w fun e w' => e = .returned (.bool false) ∧ w = w' := by
  have H := Lib.hid h
  clear h
  go_enter Tryz.func153, Tryz.ntmps153
  go_wp2_with fail
  refine (within_no c 0 255 _ H.out).mono ?_
  rintro e w' ⟨rfl, rfl⟩
  go_wp2_with fail
  go_ret
  exact ⟨rfl, rfl⟩

set_option maxHeartbeats 400000 in
theorem refRule_ok (r : RuleL) (w : World) (h : r.argOk) (h2 : r.frm < r.til) :
    Calls Tryz.prog 152 #[r.v] w fun e w' => e = .returned (.int .i64 0) ∧ Below w.heap.size w w' ∧ w'.heap.size = w.heap.size + 1 := by
  obtain ⟨hr, hy, hf, ht, hc⟩ := h
  have hf' : ¬ r.frm < 0 := by omega
  have ht' : ¬ 1000 < r.til := by omega
  have HR := Lib.hid hr; have HY := Lib.hid hy; have HC := Lib.hid hc
  clear hr hy hf ht hc
  have h2' : ¬ r.til ≤ r.frm := by omega
  go_enter Tryz.func152, Tryz.ntmps152
  go_wp2_with fail
  refine (within_yes r.role (-1) 7 _ HR.out.1 HR.out.2).mono ?_
  rintro e w' ⟨rfl, rfl⟩
  go_wp2_with fail
  refine (within_yes r.why (-1) 3 _ HY.out.1 HY.out.2).mono ?_
  rintro e w' ⟨rfl, rfl⟩
  go_wp2_with fail
  refine (cats_yes r.cats _ HC.out.1 HC.out.2).mono ?_
  rintro e w' ⟨rfl, rfl⟩
  go_wp2_with fail
  go_ret
  exact ⟨rfl, by go_grown, by simp⟩

set_option maxHeartbeats 400000 in
theorem refRule_form (r : RuleL) (w : World) (h : r.argOk) (h2 : ¬ r.frm < r.til) :
    Calls Tryz.prog 152 #[r.v] w fun e w' => e = .returned (.int .i64 3) ∧ Below w.heap.size w w' ∧ w'.heap.size = w.heap.size + 1 := by
  obtain ⟨hr, hy, hf, ht, hc⟩ := h
  have hf' : ¬ r.frm < 0 := by omega
  have ht' : ¬ 1000 < r.til := by omega
  have HR := Lib.hid hr; have HY := Lib.hid hy; have HC := Lib.hid hc
  clear hr hy hf ht hc
  have h2' : r.til ≤ r.frm := by omega
  clear h2
  go_enter Tryz.func152, Tryz.ntmps152
  go_wp2_with fail
  refine (within_yes r.role (-1) 7 _ HR.out.1 HR.out.2).mono ?_
  rintro e w' ⟨rfl, rfl⟩
  go_wp2_with fail
  refine (within_yes r.why (-1) 3 _ HY.out.1 HY.out.2).mono ?_
  rintro e w' ⟨rfl, rfl⟩
  go_wp2_with fail
  refine (cats_yes r.cats _ HC.out.1 HC.out.2).mono ?_
  rintro e w' ⟨rfl, rfl⟩
  go_wp2_with fail
  go_ret
  exact ⟨rfl, by go_grown, by simp⟩

set_option maxHeartbeats 400000 in
theorem refRule_role (r : RuleL) (w : World) (h : ¬ (-1 ≤ r.role ∧ r.role ≤ 7)) :
    Calls Tryz.prog 152 #[r.v] w fun e w' => e = .returned (.int .i64 1) ∧ Below w.heap.size w w' ∧ w'.heap.size = w.heap.size + 1 := by
  have H := Lib.hid h
  clear h
  go_enter Tryz.func152, Tryz.ntmps152
  go_wp2_with fail
  refine (within_no r.role (-1) 7 _ H.out).mono ?_
  rintro e w' ⟨rfl, rfl⟩
  go_wp2_with fail
  go_ret
  exact ⟨rfl, by go_grown, by simp⟩

set_option maxHeartbeats 400000 in
theorem refRule_why (r : RuleL) (w : World) (hr : -1 ≤ r.role ∧ r.role ≤ 7) (h : ¬ (-1 ≤ r.why ∧ r.why ≤ 3)) :
    Calls Tryz.prog 152 #[r.v] w fun e w' => e = .returned (.int .i64 1) ∧ Below w.heap.size w w' ∧ w'.heap.size = w.heap.size + 1 := by
  have H := Lib.hid h
  have HR := Lib.hid hr
  clear h hr
  go_enter Tryz.func152, Tryz.ntmps152
  go_wp2_with fail
  refine (within_yes r.role (-1) 7 _ HR.out.1 HR.out.2).mono ?_
  rintro e w' ⟨rfl, rfl⟩
  go_wp2_with fail
  refine (within_no r.why (-1) 3 _ H.out).mono ?_
  rintro e w' ⟨rfl, rfl⟩
  go_wp2_with fail
  go_ret
  exact ⟨rfl, by go_grown, by simp⟩

set_option maxHeartbeats 400000 in
theorem refRule_frm (r : RuleL) (w : World) (hr : -1 ≤ r.role ∧ r.role ≤ 7) (hy : -1 ≤ r.why ∧ r.why ≤ 3) (h : r.frm < 0) :
    Calls Tryz.prog 152 #[r.v] w fun e w' => e = .returned (.int .i64 1) ∧ Below w.heap.size w w' ∧ w'.heap.size = w.heap.size + 1 := by
  have HR := Lib.hid hr; have HY := Lib.hid hy
  clear hr hy
  go_enter Tryz.func152, Tryz.ntmps152
  go_wp2_with fail
  refine (within_yes r.role (-1) 7 _ HR.out.1 HR.out.2).mono ?_
  rintro e w' ⟨rfl, rfl⟩
  go_wp2_with fail
  refine (within_yes r.why (-1) 3 _ HY.out.1 HY.out.2).mono ?_
  rintro e w' ⟨rfl, rfl⟩
  go_wp2_with fail
  go_ret
  exact ⟨rfl, by go_grown, by simp⟩

set_option maxHeartbeats 400000 in
theorem refRule_til (r : RuleL) (w : World) (hr : -1 ≤ r.role ∧ r.role ≤ 7) (hy : -1 ≤ r.why ∧ r.why ≤ 3) (hf : ¬ r.frm < 0) (h : 1000 < r.til) :
    Calls Tryz.prog 152 #[r.v] w fun e w' => e = .returned (.int .i64 1) ∧ Below w.heap.size w w' ∧ w'.heap.size = w.heap.size + 1 := by
  have HR := Lib.hid hr; have HY := Lib.hid hy
  clear hr hy
  go_enter Tryz.func152, Tryz.ntmps152
  go_wp2_with fail
  refine (within_yes r.role (-1) 7 _ HR.out.1 HR.out.2).mono ?_
  rintro e w' ⟨rfl, rfl⟩
  go_wp2_with fail
  refine (within_yes r.why (-1) 3 _ HY.out.1 HY.out.2).mono ?_
  rintro e w' ⟨rfl, rfl⟩
  go_wp2_with fail
  go_ret
  exact ⟨rfl, by go_grown, by simp⟩

set_option maxHeartbeats 400000 in
theorem refRule_cats (r : RuleL) (w : World) (hr : -1 ≤ r.role ∧ r.role ≤ 7) (hy : -1 ≤ r.why ∧ r.why ≤ 3) (hf : ¬ r.frm < 0) (h : ¬ 1000 < r.til) (hc : ¬ (0 ≤ r.cats ∧ r.cats ≤ 255)) :
    Calls Tryz.prog 152 #[r.v] w fun e w' => e = .returned (.int .i64 1) ∧ Below w.heap.size w w' ∧ w'.heap.size = w.heap.size + 1 := by
  have HR := Lib.hid hr; have HY := Lib.hid hy
  clear hr hy
  have H := Lib.hid hc
  clear hc
  go_enter Tryz.func152, Tryz.ntmps152
  go_wp2_with fail
  refine (within_yes r.role (-1) 7 _ HR.out.1 HR.out.2).mono ?_
  rintro e w' ⟨rfl, rfl⟩
  go_wp2_with fail
  refine (within_yes r.why (-1) 3 _ HY.out.1 HY.out.2).mono ?_
  rintro e w' ⟨rfl, rfl⟩
  go_wp2_with fail
  refine (cats_no r.cats _ H.out).mono ?_
  rintro e w' ⟨rfl, rfl⟩
  go_wp2_with fail
  go_ret
  exact ⟨rfl, by go_grown, by simp⟩

theorem refRule_any (r : RuleL) (w : World) :
    Calls Tryz.prog 152 #[r.v] w fun e w' => e = .returned (.int .i64 r.err) ∧ Below w.heap.size w w' ∧ w'.heap.size = w.heap.size + 1 := by
  by_cases h : r.argOk
  · by_cases h2 : r.frm < r.til
    · rw [RuleL.err_ok ⟨h, h2⟩]
      exact refRule_ok r w h h2
    · rw [RuleL.err_form h h2]
      exact refRule_form r w h h2
  · rw [RuleL.err_arg h]
    by_cases hr : -1 ≤ r.role ∧ r.role ≤ 7
    · by_cases hy : -1 ≤ r.why ∧ r.why ≤ 3
      · by_cases hf : r.frm < 0
        · exact refRule_frm r w hr hy hf
        · by_cases ht : 1000 < r.til
          · exact refRule_til r w hr hy hf ht
          · exact refRule_cats r w hr hy hf ht fun hc => h ⟨hr, hy, by omega, by omega, hc⟩
      · exact refRule_why r w hr hy
    · exact refRule_role r w hr
end Go.Proofs.YtepenlciaanoeaaGreatDoor
namespace Go.Proofs.YtepenlciaanoeaaGreatDoor
open Go.RowKit

set_option maxHeartbeats 400000 in
theorem refWho_yes (x : WhoL) (w : World) (h : x.ok) :
    Calls Tryz.prog 158 #[x.v] w fun e w' => e = .returned (.bool true) ∧ Below w.heap.size w w' ∧ w'.heap.size = w.heap.size + 1 := by
  have H := Lib.hid h
  clear h
  go_enter Tryz.func158, Tryz.ntmps158
  go_wp2_with fail
  refine (within_yes x.role 0 7 _ H.out.1.1 H.out.1.2).mono ?_
  rintro e w' ⟨rfl, rfl⟩
  go_wp2_with fail
  refine (within_yes x.why 0 3 _ H.out.2.1.1 H.out.2.1.2).mono ?_
  rintro e w' ⟨rfl, rfl⟩
  go_wp2_with fail
  refine (within_yes x.time 0 999 _ H.out.2.2.1 H.out.2.2.2).mono ?_
  rintro e w' ⟨rfl, rfl⟩
  go_wp2_with fail
  go_ret
  exact ⟨rfl, by go_grown, by simp⟩

set_option maxHeartbeats 400000 in
theorem refWho_no (x : WhoL) (w : World) (h : ¬ x.ok) :
    Calls Tryz.prog 158 #[x.v] w fun e w' => e = .returned (.bool false) ∧ Below w.heap.size w w' ∧ w'.heap.size = w.heap.size + 1 := by
  by_cases hr : 0 ≤ x.role ∧ x.role ≤ 7
  · by_cases hy : 0 ≤ x.why ∧ x.why ≤ 3
    · have ht : ¬ (0 ≤ x.time ∧ x.time ≤ 999) := fun ht => h ⟨hr, hy, ht⟩
      have HR := Lib.hid hr; have HY := Lib.hid hy; have HT := Lib.hid ht
      clear hr hy ht h
      go_enter Tryz.func158, Tryz.ntmps158
      go_wp2_with fail
      refine (within_yes x.role 0 7 _ HR.out.1 HR.out.2).mono ?_
      rintro e w' ⟨rfl, rfl⟩
      go_wp2_with fail
      refine (within_yes x.why 0 3 _ HY.out.1 HY.out.2).mono ?_
      rintro e w' ⟨rfl, rfl⟩
      go_wp2_with fail
      refine (within_no x.time 0 999 _ HT.out).mono ?_
      rintro e w' ⟨rfl, rfl⟩
      go_wp2_with fail
      go_ret
      exact ⟨rfl, by go_grown, by simp⟩
    · have HR := Lib.hid hr; have HY := Lib.hid hy
      clear hr hy h
      go_enter Tryz.func158, Tryz.ntmps158
      go_wp2_with fail
      refine (within_yes x.role 0 7 _ HR.out.1 HR.out.2).mono ?_
      rintro e w' ⟨rfl, rfl⟩
      go_wp2_with fail
      refine (within_no x.why 0 3 _ HY.out).mono ?_
      rintro e w' ⟨rfl, rfl⟩
      go_wp2_with fail
      go_ret
      exact ⟨rfl, by go_grown, by simp⟩
  · have HR := Lib.hid hr
    clear hr h
    go_enter Tryz.func158, Tryz.ntmps158
    go_wp2_with fail
    refine (within_no x.role 0 7 _ HR.out).mono ?_
    rintro e w' ⟨rfl, rfl⟩
    go_wp2_with fail
    go_ret
    exact ⟨rfl, by go_grown, by simp⟩

set_option maxRecDepth 100000 in
set_option maxHeartbeats 1000000 in
theorem refRules_ok (a : Option Addr) (n cap : Nat) (rs : Nat → RuleL) (w : World) (hs : SlR w a n rs) (hn : n ≤ 20) (hok : ∀ k, k < n → (rs k).ok) :
    Calls Tryz.prog 80 #[.slice a n cap] w fun e w' => e = .returned (.int .i64 0) ∧ Below w.heap.size w w' := by
  have hn' : ¬ (20 : Int) < n := by omega
  have HS := Lib.hid hs; have HOK := Lib.hid hok
  clear hs hok
  go_enter Tryz.func80, Tryz.ntmps80
  go_wp2_with fail
  go_loopw [11] (fun s wr => ∃ k : Nat, k ≤ n ∧ s = .int .i64 k ∧ Below w.heap.size w wr) (fun s _ => n - (intOf s).toNat)
  case atStart => exact ⟨0, Nat.zero_le _, rfl, Below.refl _ _⟩
  case round =>
    obtain ⟨k, hk, rfl, hB⟩ := hrel
    by_cases hlt : k < n
    · obtain ⟨b, off, rfl, hc⟩ := (HS.out.below hB) k hlt
      have hblt := cell_lt hc.1
      obtain ⟨c0, c1, c2, c3, c4, c5⟩ := hc
      have he := RuleL.err_ok (HOK.out k hlt)
      go_wp2_with fail
      refine (refRule_any (rs k) _).mono ?_
      rintro e w1 ⟨rfl, hb1, -⟩
      have hB1 : Below w.heap.size w w1 := (hB.alloc hB.size _).trans (hb1.mono (by have := hB.size; simp; omega))
      clear c0 c1 c2 c3 c4 c5 hb1
      go_wp2_with fail
      go_roundw
      case rel => exact ⟨k + 1, by omega, by go_num, hB1⟩
      case measure => simp [intOf]; omega
    · go_wp2_with fail
      go_ret
      exact ⟨rfl, hB⟩

set_option maxRecDepth 100000 in
set_option maxHeartbeats 1000000 in
theorem refRules_bad (a : Option Addr) (n cap : Nat) (rs : Nat → RuleL) (w : World) (hs : SlR w a n rs) (hn : n ≤ 20) (j : Nat) (hj : j < n) (hok : ∀ k, k < j → (rs k).ok) (hbad : ¬ (rs j).ok) :
    Calls Tryz.prog 80 #[.slice a n cap] w fun e w' => e = .returned (.int .i64 (rs j).err) ∧ Below w.heap.size w w' := by
  have hn' : ¬ (20 : Int) < n := by omega
  have HS := Lib.hid hs; have HOK := Lib.hid hok; have HBAD := Lib.hid hbad
  clear hs hok hbad
  go_enter Tryz.func80, Tryz.ntmps80
  go_wp2_with fail
  go_loopw [11] (fun s wr => ∃ k : Nat, k ≤ j ∧ s = .int .i64 k ∧ Below w.heap.size w wr) (fun s _ => n - (intOf s).toNat)
  case atStart => exact ⟨0, Nat.zero_le _, rfl, Below.refl _ _⟩
  case round =>
    obtain ⟨k, hk, rfl, hB⟩ := hrel
    have hlt : k < n := by omega
    obtain ⟨b, off, rfl, hc⟩ := (HS.out.below hB) k hlt
    have hblt := cell_lt hc.1
    obtain ⟨c0, c1, c2, c3, c4, c5⟩ := hc
    by_cases hkj : k < j
    · have he := RuleL.err_ok (HOK.out k hkj)
      go_wp2_with fail
      refine (refRule_any (rs k) _).mono ?_
      rintro e w1 ⟨rfl, hb1, -⟩
      have hB1 : Below w.heap.size w w1 := (hB.alloc hB.size _).trans (hb1.mono (by have := hB.size; simp; omega))
      clear c0 c1 c2 c3 c4 c5 hb1
      go_wp2_with fail
      go_roundw
      case rel => exact ⟨k + 1, by omega, by go_num, hB1⟩
      case measure => simp [intOf]; omega
    · obtain rfl : k = j := by omega
      obtain ⟨v, hv⟩ : ∃ v, (rs k).err = v := ⟨_, rfl⟩
      have hv2 : v = 1 ∨ v = 3 := by rw [← hv]; exact RuleL.err_ne HBAD.out
      go_wp2_with fail
      refine (refRule_any (rs k) _).mono ?_
      rintro e w1 ⟨rfl, hb1, -⟩
      have hB1 : Below w.heap.size w w1 := (hB.alloc hB.size _).trans (hb1.mono (by have := hB.size; simp; omega))
      clear c0 c1 c2 c3 c4 c5 hb1
      rw [hv]
      have HV := Lib.hid hv
      clear hv
      rcases hv2 with rfl | rfl
      all_goals
        go_wp2_with fail
        go_ret
        exact ⟨ret_int HV.out.symm, hB1⟩

set_option maxHeartbeats 400000 in
theorem refRules_long (a : Option Addr) (n cap : Nat) (w : World) (hn : 20 < n) (hm : n ≤ maxLen) :
    Calls Tryz.prog 80 #[.slice a n cap] w fun e w' => e = .returned (.int .i64 2) ∧ Below w.heap.size w w' := by
  have hn' : (20 : Int) < n := by omega
  go_enter Tryz.func80, Tryz.ntmps80
  go_wp2_with fail
  go_ret
  exact ⟨rfl, Below.refl _ _⟩

theorem refRules_any (a : Option Addr) (n cap : Nat) (rs : Nat → RuleL) (w : World) (hs : SlR w a n rs) (hm : n ≤ maxLen) :
    Calls Tryz.prog 80 #[.slice a n cap] w fun e w' => e = .returned (.int .i64 (rulesErr n rs)) ∧ Below w.heap.size w w' := by
  unfold rulesErr
  by_cases hn : 20 < n
  · rw [if_pos hn]
    exact refRules_long a n cap w hn hm
  · rw [if_neg hn]
    rcases rules_split rs n with h | ⟨j, h1, h2, h3⟩
    · rw [errN_ok h]
      exact refRules_ok a n cap rs w hs (by omega) h
    · rw [errN_bad h2 h3 h1]
      exact refRules_bad a n cap rs w hs (by omega) j h1 h2 h3
end Go.Proofs.YtepenlciaanoeaaGreatDoor
