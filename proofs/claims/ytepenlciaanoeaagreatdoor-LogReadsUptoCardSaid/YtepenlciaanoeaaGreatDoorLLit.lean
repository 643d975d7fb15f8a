/- Lines that the laws name: plain mathematics. -/
import Derived.Test.YtepenlciaanoeaaGreatDoorLPure
import Derived.Test.YtepenlciaanoeaaGreatDoorLRdA
set_option linter.unusedVariables false
set_option linter.unusedSimpArgs false
set_option maxRecDepth 100000
namespace Go.Proofs.YtepenlciaanoeaaGreatDoor
open Go.RowKit Go.Sort

theorem digits_four {a b c d : Nat} (ha : 1 ≤ a ∧ a < 10) (hb : b < 10) (hc : c < 10) (hd : d < 10) : Lib.decDigits (((a * 10 + b) * 10 + c) * 10 + d) = [UInt8.ofNat (48 + a), UInt8.ofNat (48 + b), UInt8.ofNat (48 + c), UInt8.ofNat (48 + d)] := by
  rw [digits_step (by omega), show (((a * 10 + b) * 10 + c) * 10 + d) / 10 = (a * 10 + b) * 10 + c by omega, show (((a * 10 + b) * 10 + c) * 10 + d) % 10 = d by omega,
    digits_step (by omega), show ((a * 10 + b) * 10 + c) / 10 = a * 10 + b by omega, show ((a * 10 + b) * 10 + c) % 10 = c by omega,
    digits_step (by omega), show (a * 10 + b) / 10 = a by omega, show (a * 10 + b) % 10 = b by omega, Lib.decDigits_one (by omega)]
  rfl
theorem itoa_1651 : Lib.itoa 1651 = [49, 54, 53, 49] := (itoa_pos 1651).trans (digits_four (a := 1) (b := 6) (c := 5) (d := 1) (by omega) (by omega) (by omega) (by omega))
theorem itoa_1652 : Lib.itoa 1652 = [49, 54, 53, 50] := (itoa_pos 1652).trans (digits_four (a := 1) (b := 6) (c := 5) (d := 2) (by omega) (by omega) (by omega) (by omega))
theorem itoa_1234 : Lib.itoa 1234 = [49, 50, 51, 52] := (itoa_pos 1234).trans (digits_four (a := 1) (b := 2) (c := 3) (d := 4) (by omega) (by omega) (by omega) (by omega))
theorem itoa_0 : Lib.itoa 0 = [48] := by
  unfold Lib.itoa
  rw [if_neg (by omega), Lib.decDigits_one (by decide)]
  rfl
/-- "rules =1651\n" -/
def ruB : List UInt8 := [114, 117, 108, 101, 115, 32, 61, 49, 54, 53, 49, 10]
theorem ru_err : logErr (opRules []) = 0 := by
  rw [logErr_rules]
  exact rulesErr_ok (Nat.zero_le _) fun k hk => absurd hk (Nat.not_lt_zero k)
theorem ru_said : (opRules []).said = [114, 117, 108, 101, 115] := by
  unfold OpL.said
  rw [words_rules]
  show Lib.join [wRules] [32] = _
  rw [Lib.join_one]
  rfl
theorem ru_line : (opRules []).line = ruB := by
  rw [line_eq, ru_said, show sumL [114, 117, 108, 101, 115] = 1651 by decide]
  show _ ++ 32 :: 61 :: Lib.itoa 1651 ++ [10] = _
  rw [itoa_1651]
  rfl
theorem ru_wr : wrLine (opRules []) = ⟨#[114, 117, 108, 101, 115, 32, 61, 49, 54, 53, 49, 10]⟩ := by
  unfold wrLine
  rw [if_pos ru_err, ru_line]
  rfl
theorem ru_plain : (opRules []).plain = opRules [] := rfl
theorem ru_all : AllTo (ruB ++ ruB) (.ok ([opRules [], opRules []], 24)) := by
  have := all_log (l := [opRules [], opRules []]) fun o ho => by
    simp only [List.mem_cons, List.mem_nil_iff, or_false] at ho
    rcases ho with rfl | rfl <;> exact ru_err
  unfold logText at this
  rw [List.flatMap_cons, List.flatMap_cons, List.flatMap_nil, ru_line] at this
  exact this
/-- a line "rules =n" whose sum is another one -/
theorem ru_bad {num : List UInt8} {n : Int} (hn : numL num = some n) (h0 : 0 ≤ n ∧ n < 65521) (h1 : n ≠ 1651) (h2 : 32 ∉ num) (h3 : 10 ∉ num) (r : List UInt8) : rdOp ([114, 117, 108, 101, 115, 32, 61] ++ num ++ 10 :: r) = .error 8 := by
  have hl : lineOp ([114, 117, 108, 101, 115, 32, 61] ++ num) = .error 8 := by
    have hm : markL ([114, 117, 108, 101, 115, 32, 61] ++ num) = some ([114, 117, 108, 101, 115], num) := markL_of (a := [114, 117, 108, 101, 115]) (b := num) (fun k => mk_not h2 (by
      rcases mk_cons k with k | ⟨k, _⟩
      · exact k
      · exact absurd k (by decide)))
    have hck : ckE ([114, 117, 108, 101, 115, 32, 61] ++ num) = 8 := by
      rw [ckE_some hm, hn]
      exact ckN_sum (fun k => k h0) (by rw [show sumL [114, 117, 108, 101, 115] = 1651 by decide]; exact h1)
    rw [lineOp_ck, hck, if_neg (by decide)]
  have h10 : 10 ∉ [114, 117, 108, 101, 115, 32, 61] ++ num := fun k => by
    rcases List.mem_append.1 k with k | k
    · exact absurd k (by decide)
    · exact h3 k
  unfold rdOp
  rw [if_pos (by simp), cut_hit r h10]
  show (match lineOp ([114, 117, 108, 101, 115, 32, 61] ++ num) with
    | .error e => (Except.error e : Except Int (OpL × Nat))
    | .ok o => .ok (o, _)) = _
  rw [hl]
theorem num_four {x : List UInt8} {n : Int} (h : Lib.itoa n = x) (h0 : -100000000 < n) (h1 : n < 1000000000) : numL x = some n := h ▸ numL_itoa h0 h1
theorem ru_1234 : rdOp [114, 117, 108, 101, 115, 32, 61, 49, 50, 51, 52, 10] = .error 8 := ru_bad (num := [49, 50, 51, 52]) (num_four itoa_1234 (by decide) (by decide)) (by decide) (by decide) (by decide) (by decide) []
theorem ru_1652 : rdOp [114, 117, 108, 101, 115, 32, 61, 49, 54, 53, 50, 10] = .error 8 := ru_bad (num := [49, 54, 53, 50]) (num_four itoa_1652 (by decide) (by decide)) (by decide) (by decide) (by decide) (by decide) []
theorem ru_all_bad : AllTo (ruB ++ [114, 117, 108, 101, 115, 32, 61, 49, 54, 53, 50, 10]) (.error 8) := by
  have h1 := rd_line ru_err [114, 117, 108, 101, 115, 32, 61, 49, 54, 53, 50, 10]
  rw [ru_line] at h1
  exact AllTo.more h1 (x := .error 8) (.bad ru_1652 (by decide))

/-- the cut of one name that a law begins with -/
def opCa : OpL := ⟨3, who0, 0, fun _ => rule0, ⟨⟨#[]⟩, 0, [], []⟩, ⟨#[97]⟩, fld0⟩
theorem ca_err : logErr opCa = 0 := by
  show logErr (opCut who0 ⟨#[97]⟩ 0) = 0
  rw [logErr_cut, if_pos ⟨by unfold WhoL.ok who0; decide, by decide, by decide⟩, if_pos (by decide)]
theorem ca_said : opCa.said = [99, 117, 116, 32, 48, 32, 48, 32, 48, 32, 97, 32, 48] := by
  unfold OpL.said OpL.words
  rw [if_neg (show ¬ opCa.kind = 1 from (by decide : ¬ (3 : Int) = 1)), if_neg (show ¬ opCa.kind = 2 from (by decide : ¬ (3 : Int) = 2))]
  show Lib.join [wCut, Lib.itoa 0, Lib.itoa 0, Lib.itoa 0, [97], Lib.itoa 0] [32] = _
  rw [itoa_0]
  rfl
theorem ca_line : ∃ r, opCa.line = [99, 117, 116, 32, 48, 32, 48, 32, 48, 32, 97, 32, 48, 32, 61] ++ r := by
  unfold OpL.line
  rw [ca_said]
  exact ⟨_, rfl⟩
end Go.Proofs.YtepenlciaanoeaaGreatDoor
