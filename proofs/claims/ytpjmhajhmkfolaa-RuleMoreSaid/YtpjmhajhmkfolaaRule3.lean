/- The contract of rule.isFor. -/
import Derived.Test.YtpjmhajhmkfolaaRule2
set_option linter.unusedVariables false
set_option linter.unusedSimpArgs false
namespace Go.Proofs.Ytpjmhajhmkfolaa
open Go.RowKit

/-- one bit of a number, as rule.isFor asks for it -/
theorem bit_zero (M q : Nat) : (bits .and .i64 ((M : Int) / 2 ^ q) 1 == 0) = !M.testBit q := by
  have h := i64_and_any ((M : Int) / 2 ^ q) 1 1 rfl (by omega)
  have e : ((M : Int) / 2 ^ q) % 2 = ((M / 2 ^ q % 2 : Nat) : Int) := by simp
  rw [show ((1 : Nat) : Int) = 1 from rfl, show ((2 : Int) ^ 1) = 2 from rfl, e] at h
  rw [h, ← bit_eq]
  rcases Nat.mod_two_eq_zero_or_one (M / 2 ^ q) with h | h <;> rw [h] <;> rfl

set_option maxHeartbeats 1000000 in
theorem isFor_all (role why frm til cats : Int) (allow : Bool) (M : Nat) (xr xw xt : Int) (w : World) (hro : role < 0) :
    Calls Try.prog 26 #[.agg #[.int .i64 role, .int .i64 why, .int .i64 frm, .int .i64 til, .int .i64 cats, .bool allow], .int .i64 M, .agg #[.int .i64 xr, .int .i64 xw, .int .i64 xt]] w fun e w' => e = .returned (.bool (isForB M ⟨xr, xw, xt⟩ ⟨role, why, frm, til, cats, allow⟩)) ∧ Below w.heap.size w w' := by
  have hB : Below w.heap.size w ((w.alloc (.cells #[.int .i64 role, .int .i64 why, .int .i64 frm, .int .i64 til, .int .i64 cats, .bool allow] 27)).alloc (.cells #[.int .i64 xr, .int .i64 xw, .int .i64 xt] 25)) := ((Below.refl _ _).alloc (Nat.le_refl _) _).alloc (by simp) _
  have HB := Lib.hid hB
  clear hB
  have g1 : ¬ 0 ≤ role := by omega
  by_cases hwy : why < 0
  · have g2 : ¬ 0 ≤ why := by omega
    by_cases h6 : frm ≤ xt
    · by_cases h7 : xt < til
      · have HRES : Hid (true = isForB M ⟨xr, xw, xt⟩ ⟨role, why, frm, til, cats, allow⟩) := by show true = _; unfold isForB; simp [hro, hwy, h6, h7]
        go_enter Try.func26, Try.ntmps26
        go_wp2_with fail
        go_ret
        exact ⟨ret_bool HRES.out, HB.out⟩
      · have HRES : Hid (false = isForB M ⟨xr, xw, xt⟩ ⟨role, why, frm, til, cats, allow⟩) := by show false = _; unfold isForB; simp [hro, hwy, h6, h7]
        go_enter Try.func26, Try.ntmps26
        go_wp2_with fail
        go_ret
        exact ⟨ret_bool HRES.out, HB.out⟩
    · have HRES : Hid (false = isForB M ⟨xr, xw, xt⟩ ⟨role, why, frm, til, cats, allow⟩) := by show false = _; unfold isForB; simp [hro, hwy, h6]
      go_enter Try.func26, Try.ntmps26
      go_wp2_with fail
      go_ret
      exact ⟨ret_bool HRES.out, HB.out⟩
  · have g2 : 0 ≤ why := by omega
    by_cases hwx : why = xw
    · have g3 : (why != xw) = false := by simp [hwx]
      by_cases h6 : frm ≤ xt
      · by_cases h7 : xt < til
        · have HRES : Hid (true = isForB M ⟨xr, xw, xt⟩ ⟨role, why, frm, til, cats, allow⟩) := by show true = _; unfold isForB; simp [hro, hwy, hwx, h6, h7]
          clear hwx
          go_enter Try.func26, Try.ntmps26
          go_wp2_with fail
          go_ret
          exact ⟨ret_bool HRES.out, HB.out⟩
        · have HRES : Hid (false = isForB M ⟨xr, xw, xt⟩ ⟨role, why, frm, til, cats, allow⟩) := by show false = _; unfold isForB; simp [hro, hwy, hwx, h6, h7]
          clear hwx
          go_enter Try.func26, Try.ntmps26
          go_wp2_with fail
          go_ret
          exact ⟨ret_bool HRES.out, HB.out⟩
      · have HRES : Hid (false = isForB M ⟨xr, xw, xt⟩ ⟨role, why, frm, til, cats, allow⟩) := by show false = _; unfold isForB; simp [hro, hwy, hwx, h6]
        clear hwx
        go_enter Try.func26, Try.ntmps26
        go_wp2_with fail
        go_ret
        exact ⟨ret_bool HRES.out, HB.out⟩
    · have g3 : (why != xw) = true := by simp [hwx]
      have HRES : Hid (false = isForB M ⟨xr, xw, xt⟩ ⟨role, why, frm, til, cats, allow⟩) := by show false = _; unfold isForB; simp [hro, hwy, hwx]
      clear hwx
      go_enter Try.func26, Try.ntmps26
      go_wp2_with fail
      go_ret
      exact ⟨ret_bool HRES.out, HB.out⟩

set_option maxHeartbeats 1000000 in
theorem isFor_role (role why frm til cats : Int) (allow : Bool) (M : Nat) (xr xw xt : Int) (w : World) (q : Nat) (hq : role = q) (hM : M < 256) (hq8 : q < 8) :
    Calls Try.prog 26 #[.agg #[.int .i64 role, .int .i64 why, .int .i64 frm, .int .i64 til, .int .i64 cats, .bool allow], .int .i64 M, .agg #[.int .i64 xr, .int .i64 xw, .int .i64 xt]] w fun e w' => e = .returned (.bool (isForB M ⟨xr, xw, xt⟩ ⟨role, why, frm, til, cats, allow⟩)) ∧ Below w.heap.size w w' := by
  have hB : Below w.heap.size w ((w.alloc (.cells #[.int .i64 role, .int .i64 why, .int .i64 frm, .int .i64 til, .int .i64 cats, .bool allow] 27)).alloc (.cells #[.int .i64 xr, .int .i64 xw, .int .i64 xt] 25)) := ((Below.refl _ _).alloc (Nat.le_refl _) _).alloc (by simp) _
  have HB := Lib.hid hB
  clear hB
  subst hq
  have hbz := bit_zero M q
  have hn : ¬ ((q : Int) < 0) := by omega
  cases ht : M.testBit q
  · rw [ht] at hbz
    have HT := Lib.hid ht
    clear ht
    have HRES : Hid (false = isForB M ⟨xr, xw, xt⟩ ⟨(q : Int), why, frm, til, cats, allow⟩) := by show false = _; unfold isForB; simp [HT.out, hn]
    go_enter Try.func26, Try.ntmps26
    go_wp2_with fail
    go_ret
    exact ⟨ret_bool HRES.out, HB.out⟩
  · rw [ht] at hbz
    have HT := Lib.hid ht
    clear ht
    by_cases hwy : why < 0
    · have g2 : ¬ 0 ≤ why := by omega
      by_cases h6 : frm ≤ xt
      · by_cases h7 : xt < til
        · have HRES : Hid (true = isForB M ⟨xr, xw, xt⟩ ⟨(q : Int), why, frm, til, cats, allow⟩) := by show true = _; unfold isForB; simp [HT.out, hn, hwy, h6, h7]
          go_enter Try.func26, Try.ntmps26
          go_wp2_with fail
          go_ret
          exact ⟨ret_bool HRES.out, HB.out⟩
        · have HRES : Hid (false = isForB M ⟨xr, xw, xt⟩ ⟨(q : Int), why, frm, til, cats, allow⟩) := by show false = _; unfold isForB; simp [HT.out, hn, hwy, h6, h7]
          go_enter Try.func26, Try.ntmps26
          go_wp2_with fail
          go_ret
          exact ⟨ret_bool HRES.out, HB.out⟩
      · have HRES : Hid (false = isForB M ⟨xr, xw, xt⟩ ⟨(q : Int), why, frm, til, cats, allow⟩) := by show false = _; unfold isForB; simp [HT.out, hn, hwy, h6]
        go_enter Try.func26, Try.ntmps26
        go_wp2_with fail
        go_ret
        exact ⟨ret_bool HRES.out, HB.out⟩
    · have g2 : 0 ≤ why := by omega
      by_cases hwx : why = xw
      · have g3 : (why != xw) = false := by simp [hwx]
        by_cases h6 : frm ≤ xt
        · by_cases h7 : xt < til
          · have HRES : Hid (true = isForB M ⟨xr, xw, xt⟩ ⟨(q : Int), why, frm, til, cats, allow⟩) := by show true = _; unfold isForB; simp [HT.out, hn, hwy, hwx, h6, h7]
            clear hwx
            go_enter Try.func26, Try.ntmps26
            go_wp2_with fail
            go_ret
            exact ⟨ret_bool HRES.out, HB.out⟩
          · have HRES : Hid (false = isForB M ⟨xr, xw, xt⟩ ⟨(q : Int), why, frm, til, cats, allow⟩) := by show false = _; unfold isForB; simp [HT.out, hn, hwy, hwx, h6, h7]
            clear hwx
            go_enter Try.func26, Try.ntmps26
            go_wp2_with fail
            go_ret
            exact ⟨ret_bool HRES.out, HB.out⟩
        · have HRES : Hid (false = isForB M ⟨xr, xw, xt⟩ ⟨(q : Int), why, frm, til, cats, allow⟩) := by show false = _; unfold isForB; simp [HT.out, hn, hwy, hwx, h6]
          clear hwx
          go_enter Try.func26, Try.ntmps26
          go_wp2_with fail
          go_ret
          exact ⟨ret_bool HRES.out, HB.out⟩
      · have g3 : (why != xw) = true := by simp [hwx]
        have HRES : Hid (false = isForB M ⟨xr, xw, xt⟩ ⟨(q : Int), why, frm, til, cats, allow⟩) := by show false = _; unfold isForB; simp [HT.out, hn, hwy, hwx]
        clear hwx
        go_enter Try.func26, Try.ntmps26
        go_wp2_with fail
        go_ret
        exact ⟨ret_bool HRES.out, HB.out⟩


theorem isFor_any (r : RuleL) (M : Nat) (x : WhoL) (w : World) (hr : r.ok) (hM : M < 256) :
    Calls Try.prog 26 #[r.v, .int .i64 M, x.v] w fun e w' => e = .returned (.bool (isForB M x r)) ∧ Below w.heap.size w w' := by
  obtain ⟨role, why, frm, til, cats, allow⟩ := r
  obtain ⟨xr, xw, xt⟩ := x
  obtain ⟨⟨⟨h1, h2⟩, _⟩, _⟩ := hr
  simp only at h1 h2
  by_cases h : role < 0
  · exact isFor_all role why frm til cats allow M xr xw xt w h
  · obtain ⟨q, hq⟩ := Int.eq_ofNat_of_zero_le (show 0 ≤ role by omega)
    exact isFor_role role why frm til cats allow M xr xw xt w q hq hM (by omega)
end Go.Proofs.Ytpjmhajhmkfolaa
