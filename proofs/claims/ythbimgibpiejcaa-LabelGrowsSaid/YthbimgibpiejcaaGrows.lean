/- The walk of LabelGrows. -/
import Derived.Test.YthbimgibpiejcaaPop
import Derived.Deep.Cut
import Derived.Deep.CutRange
import Derived.Deep.RegionWith
set_option linter.unusedVariables false
set_option linter.unusedSimpArgs false
namespace Go.Proofs.Ythbimgibpiejcaa
open Go.RowKit

theorem grows_join (x y z : Lab) : (x.join z).below ((x.join y).join z) = true := by
  rw [below_iff]
  show max x.lv z.lv ≤ max (max x.lv y.lv) z.lv ∧ ∀ i, (x.ct ||| z.ct).testBit i = true → ((x.ct ||| y.ct) ||| z.ct).testBit i = true
  simp only [Nat.testBit_or, Bool.or_eq_true]
  exact ⟨by omega, fun i hi => hi.elim (fun h => .inl (.inl h)) .inr⟩
theorem grows_meet (x y z : Lab) : (x.meet z).below ((x.join y).meet z) = true := by
  rw [below_iff]
  show min x.lv z.lv ≤ min (max x.lv y.lv) z.lv ∧ ∀ i, (x.ct &&& z.ct).testBit i = true → ((x.ct ||| y.ct) &&& z.ct).testBit i = true
  simp only [Nat.testBit_or, Nat.testBit_and, Bool.or_eq_true, Bool.and_eq_true]
  exact ⟨by omega, fun i hi => ⟨.inl hi.1, hi.2⟩⟩

theorem below_one (w : World) :
    Calls Try.prog 14 #[.agg #[.int .i64 1, .int .i64 0], .agg #[.int .i64 0, .int .i64 255]] w fun e w' =>
      e = .returned (.tuple #[.bool false, .int .i64 0]) ∧ Below w.heap.size w w' ∧ w'.heap.size = w.heap.size + 6 :=
  below_ok 1 0 0 255 w (by omega) (by omega) (by omega) (by omega)
theorem below_two (w : World) :
    Calls Try.prog 14 #[.agg #[.int .i64 0, .int .i64 0], .agg #[.int .i64 0, .int .i64 0]] w fun e w' =>
      e = .returned (.tuple #[.bool true, .int .i64 0]) ∧ Below w.heap.size w w' ∧ w'.heap.size = w.heap.size + 6 :=
  below_ok 0 0 0 0 w (by omega) (by omega) (by omega) (by omega)

/-- what the drawn statement leaves: y lies in a new block -/
def YIs (x z y : Lab) (B : Nat) (s13 s14 : Value) (wc : World) : Prop :=
  ∃ n, (n = B + 16 ∨ n = B + 17 ∨ n = B + 24) ∧ s13 = .pointer (some ⟨n, 0, none⟩) ∧ s14 = .int .i64 0 ∧
    wc.cell? ⟨n, 0, none⟩ = some (.int .i64 (y.lv : Int)) ∧ wc.cell? ⟨n, 1, none⟩ = some (.int .i64 (y.ct : Int)) ∧
    wc.cell? ⟨B + 14, 0, none⟩ = some (.int .i64 (x.lv : Int)) ∧ wc.cell? ⟨B + 14, 1, none⟩ = some (.int .i64 (x.ct : Int)) ∧
    wc.cell? ⟨B + 14 + 1, 0, none⟩ = some (.int .i64 (z.lv : Int)) ∧ wc.cell? ⟨B + 14 + 1, 1, none⟩ = some (.int .i64 (z.ct : Int)) ∧
    wc.heap.size = B + 25

set_option maxRecDepth 100000 in
set_option maxHeartbeats 4000000 in
theorem grows_walk (a b c : Int) (w : World) :
    Calls Try.prog 12 #[.int .i64 a, .int .i64 b, .int .i64 c] w fun e w' => e = .returned (.bool true) ∧ Below w.heap.size w w' := by
  go_enter Try.func12, Try.ntmps12
  go_wp2_with fail
  refine (below_one _).mono ?_
  rintro e w1 ⟨rfl, hb1, hz1⟩
  obtain ⟨hc1, hf1⟩ := bcell hb1
  have hB1 : Below w.heap.size w w1 := by
    refine Below.trans ?_ (hb1.mono ?_)
    · go_grown
    · simp [] <;> omega
  try simp [Nat.add_assoc] at hz1
  go_wp2_with fail
  refine (below_two _).mono ?_
  rintro e w2 ⟨rfl, hb2, hz2⟩
  obtain ⟨hc2, hf2⟩ := bcell hb2
  have hB2 : Below w.heap.size w w2 := by
    refine Below.trans ?_ (hb2.mono ?_)
    · go_grown
    · simp [hz1] <;> omega
  try simp [hz1, Nat.add_assoc] at hz2
  go_wp2_with fail
  refine (secL a _).mono ?_
  rintro e w3 ⟨rfl, hb3, hz3⟩
  obtain ⟨hc3, hf3⟩ := bcell hb3
  have hB3 : Below w.heap.size w w3 := by
    refine Below.trans ?_ (hb3.mono ?_)
    · go_grown
    · simp [hz2] <;> omega
  try simp [hz2, Nat.add_assoc] at hz3
  go_wp2_with fail
  refine (secL c _).mono ?_
  rintro e w4 ⟨rfl, hb4, hz4⟩
  obtain ⟨hc4, hf4⟩ := bcell hb4
  have hB4 : Below w.heap.size w w4 := by
    refine Below.trans ?_ (hb4.mono ?_)
    · go_grown
    · simp [hz3] <;> omega
  try simp [hz3, Nat.add_assoc] at hz4
  go_upto_region 8 with (fail)
  go_cut [13, 14] from 56 to 62 (fun s13 s14 wc => YIs (sec a) (sec c) ((sec a).join (sec b)) w.heap.size s13 s14 wc ∧ Below w.heap.size w wc)
  case first =>
    go_region_with (first
      | (go_at_call 31; refine (secL b _).mono ?_; rintro e wp ⟨rfl, hbp, hzp⟩; obtain ⟨hcp, hfp⟩ := bcell hbp)
      | (go_at_call 15; refine (joinL (sec a) (sec b) _).mono ?_; rintro e wq ⟨rfl, hbq, hzq⟩; obtain ⟨hcq, hfq⟩ := bcell hbq))
    all_goals
      simp [hz4, Nat.add_assoc] at hzp
      simp [hzp, Nat.add_assoc] at hzq
      have hBp : Below w.heap.size w wp := by
        refine Below.trans ?_ (hbp.mono ?_)
        · go_grown
        · simp [hz4] <;> omega
      have hBq : Below w.heap.size w wq := by
        refine Below.trans ?_ (hbq.mono ?_)
        · go_grown
        · simp [hzp] <;> omega
      go_wp2_with fail
      go_meet
    all_goals
      case rel =>
        refine ⟨⟨_, ?_, rfl, rfl, ?_, ?_, ?_, ?_, ?_, ?_, ?_⟩, ?_⟩
        · simp
          try omega
        · go_simp
        · go_simp
        · go_simp
        · go_simp
        · go_simp
        · go_simp
        · simp [hzp, hzq] <;> omega
        · go_grown
  case rest =>
    obtain ⟨⟨n, hn, rfl, rfl, y0, y1, x0, x1, z0, z1, hzc⟩, hBc⟩ := hcut
    clear hc1 hf1 hc2 hf2 hc3 hf3 hc4 hf4 hb1 hb2 hb3 hb4 hB1 hB2 hB3 hB4 hz1 hz2 hz3 hz4
    have p1 := grows_join (sec a) (sec b) (sec c)
    have p2 := grows_meet (sec a) (sec b) (sec c)
    rcases hn with rfl | rfl | rfl
    all_goals
      go_wp2_with fail
      refine (joinL _ _ _).mono ?_
      rintro e w5 ⟨rfl, hb5, hz5⟩
      obtain ⟨hc5, hf5⟩ := bcell hb5
      have hB5 : Below w.heap.size w w5 := by
        refine Below.trans ?_ (hb5.mono ?_)
        · go_grown
        · simp [hzc] <;> omega
      try simp [hzc, Nat.add_assoc] at hz5
      go_wp2_with fail
      refine (joinL _ _ _).mono ?_
      rintro e w6 ⟨rfl, hb6, hz6⟩
      obtain ⟨hc6, hf6⟩ := bcell hb6
      have hB6 : Below w.heap.size w w6 := by
        refine Below.trans ?_ (hb6.mono ?_)
        · go_grown
        · simp [hz5] <;> omega
      try simp [hz5, Nat.add_assoc] at hz6
      go_wp2_with fail
      refine (meetL _ _ _).mono ?_
      rintro e w7 ⟨rfl, hb7, hz7⟩
      obtain ⟨hc7, hf7⟩ := bcell hb7
      have hB7 : Below w.heap.size w w7 := by
        refine Below.trans ?_ (hb7.mono ?_)
        · go_grown
        · simp [hz6] <;> omega
      try simp [hz6, Nat.add_assoc] at hz7
      go_wp2_with fail
      refine (meetL _ _ _).mono ?_
      rintro e w8 ⟨rfl, hb8, hz8⟩
      obtain ⟨hc8, hf8⟩ := bcell hb8
      have hB8 : Below w.heap.size w w8 := by
        refine Below.trans ?_ (hb8.mono ?_)
        · go_grown
        · simp [hz7] <;> omega
      try simp [hz7, Nat.add_assoc] at hz8
      go_wp2_with fail
      refine (belowL _ _ _).mono ?_
      rintro e w9 ⟨rfl, hb9, hz9⟩
      obtain ⟨hc9, hf9⟩ := bcell hb9
      have hB9 : Below w.heap.size w w9 := by
        refine Below.trans ?_ (hb9.mono ?_)
        · go_grown
        · simp [hz8] <;> omega
      try simp [hz8, Nat.add_assoc] at hz9
      go_wp2_with fail
      refine (belowL _ _ _).mono ?_
      rintro e w10 ⟨rfl, hb10, hz10⟩
      obtain ⟨hc10, hf10⟩ := bcell hb10
      have hB10 : Below w.heap.size w w10 := by
        refine Below.trans ?_ (hb10.mono ?_)
        · go_grown
        · simp [hz9] <;> omega
      try simp [hz9, Nat.add_assoc] at hz10
      go_wp2_with fail
      go_rounds 8
      go_ret
      refine ⟨rfl, ?_⟩
      go_grown
end Go.Proofs.Ythbimgibpiejcaa
