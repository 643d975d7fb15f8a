/- Contracts of wyref's functions on rules. -/
import Derived.Test.YtpjmhajhmkfolaaRefRoles
import Derived.Test.YtpjmhajhmkfolaaSeesDefs
import Derived.Test.YtpjmhajhmkfolaaRefKinds
import Derived.Deep.CutRange
set_option linter.unusedVariables false
set_option linter.unusedSimpArgs false
namespace Go.Proofs.Ytpjmhajhmkfolaa
open Go.RowKit

set_option maxHeartbeats 400000 in
theorem cats_yes (c : Int) (w : World) (h1 : 0 ≤ c) (h2 : c ≤ 255) : Calls Try.prog 31 #[.int .i64 c] w fun e w' => e = .returned (.bool true) ∧ w = w' := by
  go_enter Try.func31, Try.ntmps31
  go_wp2_with fail
  refine (within_yes c 0 255 _ h1 h2).mono ?_
  rintro e w' ⟨rfl, rfl⟩
  go_wp2_with fail
  go_ret
  exact ⟨rfl, rfl⟩

set_option maxHeartbeats 400000 in
theorem cats_no (c : Int) (w : World) (h : ¬ (0 ≤ c ∧ c ≤ 255)) : Calls Try.prog 31 #[.int .i64 c] w fun e w' => e = .returned (.bool false) ∧ w = w' := by
  have H := Lib.hid h
  clear h
  go_enter Try.func31, Try.ntmps31
  go_wp2_with fail
  refine (within_no c 0 255 _ H.out).mono ?_
  rintro e w' ⟨rfl, rfl⟩
  go_wp2_with fail
  go_ret
  exact ⟨rfl, rfl⟩

set_option maxHeartbeats 400000 in
theorem refRule_ok (r : RuleL) (w : World) (h : r.argOk) (h2 : r.frm < r.til) :
    Calls Try.prog 14 #[r.v] w fun e w' => e = .returned (.int .i64 0) ∧ Below w.heap.size w w' ∧ w'.heap.size = w.heap.size + 1 := by
  obtain ⟨hr, hy, hf, ht, hc⟩ := h
  have hf' : ¬ r.frm < 0 := by omega
  have ht' : ¬ 1000 < r.til := by omega
  have HR := Lib.hid hr; have HY := Lib.hid hy; have HC := Lib.hid hc
  clear hr hy hf ht hc
  have h2' : ¬ r.til ≤ r.frm := by omega
  go_enter Try.func14, Try.ntmps14
  go_wp2_with fail
  refine (within_yes r.role (-1) 7 _ HR.out.1 HR.out.2).mono ?_
  rintro e w' ⟨rfl, rfl⟩
  go_wp2_with fail
  refine (within_yes r.why (-1) 3 _ HY.out.1 HY.out.2).mono ?_
  rintro e w' ⟨rfl, rfl⟩
  go_wp2_with fail
  refine (cats_yes r.cats _ HC.out.1 HC.out.2).mono ?_
  rintro e w' ⟨rfl, rfl⟩
  go_wp2_with fail
  go_ret
  exact ⟨rfl, by go_grown, by simp⟩

set_option maxHeartbeats 400000 in
theorem refRule_form (r : RuleL) (w : World) (h : r.argOk) (h2 : ¬ r.frm < r.til) :
    Calls Try.prog 14 #[r.v] w fun e w' => e = .returned (.int .i64 3) ∧ Below w.heap.size w w' ∧ w'.heap.size = w.heap.size + 1 := by
  obtain ⟨hr, hy, hf, ht, hc⟩ := h
  have hf' : ¬ r.frm < 0 := by omega
  have ht' : ¬ 1000 < r.til := by omega
  have HR := Lib.hid hr; have HY := Lib.hid hy; have HC := Lib.hid hc
  clear hr hy hf ht hc
  have h2' : r.til ≤ r.frm := by omega
  clear h2
  go_enter Try.func14, Try.ntmps14
  go_wp2_with fail
  refine (within_yes r.role (-1) 7 _ HR.out.1 HR.out.2).mono ?_
  rintro e w' ⟨rfl, rfl⟩
  go_wp2_with fail
  refine (within_yes r.why (-1) 3 _ HY.out.1 HY.out.2).mono ?_
  rintro e w' ⟨rfl, rfl⟩
  go_wp2_with fail
  refine (cats_yes r.cats _ HC.out.1 HC.out.2).mono ?_
  rintro e w' ⟨rfl, rfl⟩
  go_wp2_with fail
  go_ret
  exact ⟨rfl, by go_grown, by simp⟩

set_option maxHeartbeats 400000 in
theorem refRule_role (r : RuleL) (w : World) (h : ¬ (-1 ≤ r.role ∧ r.role ≤ 7)) :
    Calls Try.prog 14 #[r.v] w fun e w' => e = .returned (.int .i64 1) ∧ Below w.heap.size w w' ∧ w'.heap.size = w.heap.size + 1 := by
  have H := Lib.hid h
  clear h
  go_enter Try.func14, Try.ntmps14
  go_wp2_with fail
  refine (within_no r.role (-1) 7 _ H.out).mono ?_
  rintro e w' ⟨rfl, rfl⟩
  go_wp2_with fail
  go_ret
  exact ⟨rfl, by go_grown, by simp⟩

set_option maxHeartbeats 400000 in
theorem refRule_why (r : RuleL) (w : World) (hr : -1 ≤ r.role ∧ r.role ≤ 7) (h : ¬ (-1 ≤ r.why ∧ r.why ≤ 3)) :
    Calls Try.prog 14 #[r.v] w fun e w' => e = .returned (.int .i64 1) ∧ Below w.heap.size w w' ∧ w'.heap.size = w.heap.size + 1 := by
  have H := Lib.hid h
  have HR := Lib.hid hr
  clear h hr
  go_enter Try.func14, Try.ntmps14
  go_wp2_with fail
  refine (within_yes r.role (-1) 7 _ HR.out.1 HR.out.2).mono ?_
  rintro e w' ⟨rfl, rfl⟩
  go_wp2_with fail
  refine (within_no r.why (-1) 3 _ H.out).mono ?_
  rintro e w' ⟨rfl, rfl⟩
  go_wp2_with fail
  go_ret
  exact ⟨rfl, by go_grown, by simp⟩

set_option maxHeartbeats 400000 in
theorem refRule_frm (r : RuleL) (w : World) (hr : -1 ≤ r.role ∧ r.role ≤ 7) (hy : -1 ≤ r.why ∧ r.why ≤ 3) (h : r.frm < 0) :
    Calls Try.prog 14 #[r.v] w fun e w' => e = .returned (.int .i64 1) ∧ Below w.heap.size w w' ∧ w'.heap.size = w.heap.size + 1 := by
  have HR := Lib.hid hr; have HY := Lib.hid hy
  clear hr hy
  go_enter Try.func14, Try.ntmps14
  go_wp2_with fail
  refine (within_yes r.role (-1) 7 _ HR.out.1 HR.out.2).mono ?_
  rintro e w' ⟨rfl, rfl⟩
  go_wp2_with fail
  refine (within_yes r.why (-1) 3 _ HY.out.1 HY.out.2).mono ?_
  rintro e w' ⟨rfl, rfl⟩
  go_wp2_with fail
  go_ret
  exact ⟨rfl, by go_grown, by simp⟩

set_option maxHeartbeats 400000 in
theorem refRule_til (r : RuleL) (w : World) (hr : -1 ≤ r.role ∧ r.role ≤ 7) (hy : -1 ≤ r.why ∧ r.why ≤ 3) (hf : ¬ r.frm < 0) (h : 1000 < r.til) :
    Calls Try.prog 14 #[r.v] w fun e w' => e = .returned (.int .i64 1) ∧ Below w.heap.size w w' ∧ w'.heap.size = w.heap.size + 1 := by
  have HR := Lib.hid hr; have HY := Lib.hid hy
  clear hr hy
  go_enter Try.func14, Try.ntmps14
  go_wp2_with fail
  refine (within_yes r.role (-1) 7 _ HR.out.1 HR.out.2).mono ?_
  rintro e w' ⟨rfl, rfl⟩
  go_wp2_with fail
  refine (within_yes r.why (-1) 3 _ HY.out.1 HY.out.2).mono ?_
  rintro e w' ⟨rfl, rfl⟩
  go_wp2_with fail
  go_ret
  exact ⟨rfl, by go_grown, by simp⟩

set_option maxHeartbeats 400000 in
theorem refRule_cats (r : RuleL) (w : World) (hr : -1 ≤ r.role ∧ r.role ≤ 7) (hy : -1 ≤ r.why ∧ r.why ≤ 3) (hf : ¬ r.frm < 0) (h : ¬ 1000 < r.til) (hc : ¬ (0 ≤ r.cats ∧ r.cats ≤ 255)) :
    Calls Try.prog 14 #[r.v] w fun e w' => e = .returned (.int .i64 1) ∧ Below w.heap.size w w' ∧ w'.heap.size = w.heap.size + 1 := by
  have HR := Lib.hid hr; have HY := Lib.hid hy
  clear hr hy
  have H := Lib.hid hc
  clear hc
  go_enter Try.func14, Try.ntmps14
  go_wp2_with fail
  refine (within_yes r.role (-1) 7 _ HR.out.1 HR.out.2).mono ?_
  rintro e w' ⟨rfl, rfl⟩
  go_wp2_with fail
  refine (within_yes r.why (-1) 3 _ HY.out.1 HY.out.2).mono ?_
  rintro e w' ⟨rfl, rfl⟩
  go_wp2_with fail
  refine (cats_no r.cats _ H.out).mono ?_
  rintro e w' ⟨rfl, rfl⟩
  go_wp2_with fail
  go_ret
  exact ⟨rfl, by go_grown, by simp⟩

theorem refRule_any (r : RuleL) (w : World) :
    Calls Try.prog 14 #[r.v] w fun e w' => e = .returned (.int .i64 r.err) ∧ Below w.heap.size w w' ∧ w'.heap.size = w.heap.size + 1 := by
  by_cases h : r.argOk
  · by_cases h2 : r.frm < r.til
    · rw [RuleL.err_ok ⟨h, h2⟩]
      exact refRule_ok r w h h2
    · rw [RuleL.err_form h h2]
      exact refRule_form r w h h2
  · rw [RuleL.err_arg h]
    by_cases hr : -1 ≤ r.role ∧ r.role ≤ 7
    · by_cases hy : -1 ≤ r.why ∧ r.why ≤ 3
      · by_cases hf : r.frm < 0
        · exact refRule_frm r w hr hy hf
        · by_cases ht : 1000 < r.til
          · exact refRule_til r w hr hy hf ht
          · exact refRule_cats r w hr hy hf ht fun hc => h ⟨hr, hy, by omega, by omega, hc⟩
      · exact refRule_why r w hr hy
    · exact refRule_role r w hr
end Go.Proofs.Ytpjmhajhmkfolaa
