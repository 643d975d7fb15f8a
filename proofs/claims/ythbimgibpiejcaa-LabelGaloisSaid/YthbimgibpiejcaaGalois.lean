/- The walk of LabelGalois. -/
import Derived.Test.YthbimgibpiejcaaPop
import Derived.Deep.Cut
set_option linter.unusedVariables false
set_option linter.unusedSimpArgs false
namespace Go.Proofs.Ythbimgibpiejcaa
open Go.RowKit

theorem below_join (x y z : Lab) : (x.join y).below z = (x.below z && y.below z) := by
  rw [Bool.eq_iff_iff, Bool.and_eq_true, below_iff, below_iff, below_iff]
  show max x.lv y.lv ≤ z.lv ∧ (∀ i, (x.ct ||| y.ct).testBit i = true → z.ct.testBit i = true) ↔ _
  simp only [Nat.testBit_or, Bool.or_eq_true]
  constructor
  · rintro ⟨h1, h2⟩
    exact ⟨⟨by omega, fun i hi => h2 i (.inl hi)⟩, ⟨by omega, fun i hi => h2 i (.inr hi)⟩⟩
  · rintro ⟨⟨h1, h2⟩, ⟨h3, h4⟩⟩
    exact ⟨by omega, fun i hi => hi.elim (h2 i) (h4 i)⟩
theorem below_of_meet (x y z : Lab) : z.below (x.meet y) = (z.below x && z.below y) := by
  rw [Bool.eq_iff_iff, Bool.and_eq_true, below_iff, below_iff, below_iff]
  show z.lv ≤ min x.lv y.lv ∧ (∀ i, z.ct.testBit i = true → (x.ct &&& y.ct).testBit i = true) ↔ _
  simp only [Nat.testBit_and, Bool.and_eq_true]
  constructor
  · rintro ⟨h1, h2⟩
    exact ⟨⟨by omega, fun i hi => (h2 i hi).1⟩, ⟨by omega, fun i hi => (h2 i hi).2⟩⟩
  · rintro ⟨⟨h1, h2⟩, ⟨h3, h4⟩⟩
    exact ⟨by omega, fun i hi => ⟨h2 i hi, h4 i hi⟩⟩
theorem below_trans {x y z : Lab} (h1 : x.below y = true) (h2 : y.below z = true) : x.below z = true := by
  rw [below_iff] at *
  exact ⟨by omega, fun i hi => h2.2 i (h1.2 i hi)⟩
theorem below_anti {x y : Lab} (h1 : x.below y = true) (h2 : y.below x = true) : x = y := by
  rw [below_iff] at *
  apply Lab.ext
  · omega
  · apply Nat.eq_of_testBit_eq
    intro i
    rw [Bool.eq_iff_iff]
    exact ⟨h1.2 i, h2.2 i⟩
theorem below_refl (x : Lab) : x.below x = true := by
  rw [below_iff]
  exact ⟨Nat.le_refl _, fun _ h => h⟩

theorem below_first (w : World) :
    Calls Try.prog 14 #[.agg #[.int .i64 0, .int .i64 2], .agg #[.int .i64 1, .int .i64 3]] w fun e w' =>
      e = .returned (.tuple #[.bool true, .int .i64 0]) ∧ Below w.heap.size w w' ∧ w'.heap.size = w.heap.size + 6 :=
  below_ok 0 2 1 3 w (by omega) (by omega) (by omega) (by omega)

set_option maxRecDepth 100000 in
set_option maxHeartbeats 4000000 in
theorem galois_walk (a b c : Int) (w : World) :
    Calls Try.prog 6 #[.int .i64 a, .int .i64 b, .int .i64 c] w fun e w' => e = .returned (.bool true) ∧ Below w.heap.size w w' := by
  go_enter Try.func6, Try.ntmps6
  go_wp2_with fail
  refine (below_first _).mono ?_
  rintro e w1 ⟨rfl, hb1, hz1⟩
  obtain ⟨hc1, hf1⟩ := bcell hb1
  have hB1 : Below w.heap.size w w1 := by
    refine Below.trans ?_ (hb1.mono ?_)
    · go_grown
    · simp [] <;> omega
  try simp [Nat.add_assoc] at hz1
  go_wp2_with fail
  refine (secL a _).mono ?_
  rintro e w2 ⟨rfl, hb2, hz2⟩
  obtain ⟨hc2, hf2⟩ := bcell hb2
  have hB2 : Below w.heap.size w w2 := by
    refine Below.trans ?_ (hb2.mono ?_)
    · go_grown
    · simp [hz1] <;> omega
  try simp [hz1, Nat.add_assoc] at hz2
  go_wp2_with fail
  refine (secL b _).mono ?_
  rintro e w3 ⟨rfl, hb3, hz3⟩
  obtain ⟨hc3, hf3⟩ := bcell hb3
  have hB3 : Below w.heap.size w w3 := by
    refine Below.trans ?_ (hb3.mono ?_)
    · go_grown
    · simp [hz2] <;> omega
  try simp [hz2, Nat.add_assoc] at hz3
  go_wp2_with fail
  refine (secL c _).mono ?_
  rintro e w4 ⟨rfl, hb4, hz4⟩
  obtain ⟨hc4, hf4⟩ := bcell hb4
  have hB4 : Below w.heap.size w w4 := by
    refine Below.trans ?_ (hb4.mono ?_)
    · go_grown
    · simp [hz3] <;> omega
  try simp [hz3, Nat.add_assoc] at hz4
  go_wp2_with fail
  refine (joinL _ _ _).mono ?_
  rintro e w5 ⟨rfl, hb5, hz5⟩
  obtain ⟨hc5, hf5⟩ := bcell hb5
  have hB5 : Below w.heap.size w w5 := by
    refine Below.trans ?_ (hb5.mono ?_)
    · go_grown
    · simp [hz4] <;> omega
  try simp [hz4, Nat.add_assoc] at hz5
  go_wp2_with fail
  refine (meetL _ _ _).mono ?_
  rintro e w6 ⟨rfl, hb6, hz6⟩
  obtain ⟨hc6, hf6⟩ := bcell hb6
  have hB6 : Below w.heap.size w w6 := by
    refine Below.trans ?_ (hb6.mono ?_)
    · go_grown
    · simp [hz5] <;> omega
  try simp [hz5, Nat.add_assoc] at hz6
  go_wp2_with fail
  refine (belowL _ _ _).mono ?_
  rintro e w7 ⟨rfl, hb7, hz7⟩
  obtain ⟨hc7, hf7⟩ := bcell hb7
  have hB7 : Below w.heap.size w w7 := by
    refine Below.trans ?_ (hb7.mono ?_)
    · go_grown
    · simp [hz6] <;> omega
  try simp [hz6, Nat.add_assoc] at hz7
  go_wp2_with fail
  refine (belowL _ _ _).mono ?_
  rintro e w8 ⟨rfl, hb8, hz8⟩
  obtain ⟨hc8, hf8⟩ := bcell hb8
  have hB8 : Below w.heap.size w w8 := by
    refine Below.trans ?_ (hb8.mono ?_)
    · go_grown
    · simp [hz7] <;> omega
  try simp [hz7, Nat.add_assoc] at hz8
  go_wp2_with fail
  refine (belowL _ _ _).mono ?_
  rintro e w9 ⟨rfl, hb9, hz9⟩
  obtain ⟨hc9, hf9⟩ := bcell hb9
  have hB9 : Below w.heap.size w w9 := by
    refine Below.trans ?_ (hb9.mono ?_)
    · go_grown
    · simp [hz8] <;> omega
  try simp [hz8, Nat.add_assoc] at hz9
  go_wp2_with fail
  refine (belowL _ _ _).mono ?_
  rintro e w10 ⟨rfl, hb10, hz10⟩
  obtain ⟨hc10, hf10⟩ := bcell hb10
  have hB10 : Below w.heap.size w w10 := by
    refine Below.trans ?_ (hb10.mono ?_)
    · go_grown
    · simp [hz9] <;> omega
  try simp [hz9, Nat.add_assoc] at hz10
  go_wp2_with fail
  refine (belowL _ _ _).mono ?_
  rintro e w11 ⟨rfl, hb11, hz11⟩
  obtain ⟨hc11, hf11⟩ := bcell hb11
  have hB11 : Below w.heap.size w w11 := by
    refine Below.trans ?_ (hb11.mono ?_)
    · go_grown
    · simp [hz10] <;> omega
  try simp [hz10, Nat.add_assoc] at hz11
  go_wp2_with fail
  refine (belowL _ _ _).mono ?_
  rintro e w12 ⟨rfl, hb12, hz12⟩
  obtain ⟨hc12, hf12⟩ := bcell hb12
  have hB12 : Below w.heap.size w w12 := by
    refine Below.trans ?_ (hb12.mono ?_)
    · go_grown
    · simp [hz11] <;> omega
  try simp [hz11, Nat.add_assoc] at hz12
  go_wp2_with fail
  refine (belowL _ _ _).mono ?_
  rintro e w13 ⟨rfl, hb13, hz13⟩
  obtain ⟨hc13, hf13⟩ := bcell hb13
  have hB13 : Below w.heap.size w w13 := by
    refine Below.trans ?_ (hb13.mono ?_)
    · go_grown
    · simp [hz12] <;> omega
  try simp [hz12, Nat.add_assoc] at hz13
  go_wp2_with fail
  refine wp_loop_rounds 10 ?_
  repeat any_goals (rw [rounds_succ]; go_upto_region 20 with (fail))
  clear hc1 hf1 hf2 hf3 hf4 hf5 hf6 hf7 hf8 hf9 hf10 hf11 hf12 hf13
  have hd : Below w.heap.size w (w13.alloc (Obj.cells #[.int .i64 0, .int .i64 0, .int .i64 0, .int .i64 0, .int .i64 0, .int .i64 0, .int .i64 0, .int .i64 0, .int .i64 0] 24)) := by go_grown
  have hr := below_join (sec a) (sec b) (sec c)
  have hu := below_of_meet (sec a) (sec b) (sec c)
  cases hp : (sec a).below (sec c)
  · cases hq : (sec b).below (sec c)
    · cases hv : (sec a).below (sec b)
      · cases hs : (sec c).below (sec a)
        · cases ht : (sec c).below (sec b)
          · rw [hp, hq] at hr
            rw [hs, ht] at hu
            simp only [Bool.and_true, Bool.and_false, Bool.true_and, Bool.false_and] at hr hu
            have hx : sec a ≠ sec c := by
              intro e
              rw [e, below_refl] at hp hs
              cases hp <;> cases hs
            rcases lab_ne hx with g1 | ⟨g1, g2⟩
            · have m1 : ((sec a).lv == (sec c).lv) = false := by simp; omega
              have m1' : (((sec a).lv : Int) == ((sec c).lv : Int)) = false := by simp; omega
              clear hx g1
              go_wp2
              go_ret
              exact ⟨rfl, hd⟩
            · have m1 : ((sec a).ct == (sec c).ct) = false := by simp; omega
              have m1' : (((sec a).ct : Int) == ((sec c).ct : Int)) = false := by simp; omega
              clear hx g2
              go_wp2
              go_ret
              exact ⟨rfl, hd⟩
          · rw [hp, hq] at hr
            rw [hs, ht] at hu
            simp only [Bool.and_true, Bool.and_false, Bool.true_and, Bool.false_and] at hr hu
            have hx : sec a ≠ sec c := by
              intro e
              rw [e, below_refl] at hp hs
              cases hp <;> cases hs
            rcases lab_ne hx with g1 | ⟨g1, g2⟩
            · have m1 : ((sec a).lv == (sec c).lv) = false := by simp; omega
              have m1' : (((sec a).lv : Int) == ((sec c).lv : Int)) = false := by simp; omega
              clear hx g1
              go_wp2
              go_ret
              exact ⟨rfl, hd⟩
            · have m1 : ((sec a).ct == (sec c).ct) = false := by simp; omega
              have m1' : (((sec a).ct : Int) == ((sec c).ct : Int)) = false := by simp; omega
              clear hx g2
              go_wp2
              go_ret
              exact ⟨rfl, hd⟩
        · cases ht : (sec c).below (sec b)
          · rw [hp, hq] at hr
            rw [hs, ht] at hu
            simp only [Bool.and_true, Bool.and_false, Bool.true_and, Bool.false_and] at hr hu
            have hx : sec a ≠ sec c := by
              intro e
              rw [e, below_refl] at hp hs
              cases hp <;> cases hs
            rcases lab_ne hx with g1 | ⟨g1, g2⟩
            · have m1 : ((sec a).lv == (sec c).lv) = false := by simp; omega
              have m1' : (((sec a).lv : Int) == ((sec c).lv : Int)) = false := by simp; omega
              clear hx g1
              go_wp2
              go_ret
              exact ⟨rfl, hd⟩
            · have m1 : ((sec a).ct == (sec c).ct) = false := by simp; omega
              have m1' : (((sec a).ct : Int) == ((sec c).ct : Int)) = false := by simp; omega
              clear hx g2
              go_wp2
              go_ret
              exact ⟨rfl, hd⟩
          · rw [hp, hq] at hr
            rw [hs, ht] at hu
            simp only [Bool.and_true, Bool.and_false, Bool.true_and, Bool.false_and] at hr hu
            have hx : sec a ≠ sec c := by
              intro e
              rw [e, below_refl] at hp hs
              cases hp <;> cases hs
            rcases lab_ne hx with g1 | ⟨g1, g2⟩
            · have m1 : ((sec a).lv == (sec c).lv) = false := by simp; omega
              have m1' : (((sec a).lv : Int) == ((sec c).lv : Int)) = false := by simp; omega
              clear hx g1
              go_wp2
              go_ret
              exact ⟨rfl, hd⟩
            · have m1 : ((sec a).ct == (sec c).ct) = false := by simp; omega
              have m1' : (((sec a).ct : Int) == ((sec c).ct : Int)) = false := by simp; omega
              clear hx g2
              go_wp2
              go_ret
              exact ⟨rfl, hd⟩
      · cases hs : (sec c).below (sec a)
        · cases ht : (sec c).below (sec b)
          · rw [hp, hq] at hr
            rw [hs, ht] at hu
            simp only [Bool.and_true, Bool.and_false, Bool.true_and, Bool.false_and] at hr hu
            have hx : sec a ≠ sec c := by
              intro e
              rw [e, below_refl] at hp hs
              cases hp <;> cases hs
            rcases lab_ne hx with g1 | ⟨g1, g2⟩
            · have m1 : ((sec a).lv == (sec c).lv) = false := by simp; omega
              have m1' : (((sec a).lv : Int) == ((sec c).lv : Int)) = false := by simp; omega
              clear hx g1
              go_wp2
              go_ret
              exact ⟨rfl, hd⟩
            · have m1 : ((sec a).ct == (sec c).ct) = false := by simp; omega
              have m1' : (((sec a).ct : Int) == ((sec c).ct : Int)) = false := by simp; omega
              clear hx g2
              go_wp2
              go_ret
              exact ⟨rfl, hd⟩
          · rw [hp, hq] at hr
            rw [hs, ht] at hu
            simp only [Bool.and_true, Bool.and_false, Bool.true_and, Bool.false_and] at hr hu
            have hx : sec a ≠ sec c := by
              intro e
              rw [e, below_refl] at hp hs
              cases hp <;> cases hs
            rcases lab_ne hx with g1 | ⟨g1, g2⟩
            · have m1 : ((sec a).lv == (sec c).lv) = false := by simp; omega
              have m1' : (((sec a).lv : Int) == ((sec c).lv : Int)) = false := by simp; omega
              clear hx g1
              go_wp2
              go_ret
              exact ⟨rfl, hd⟩
            · have m1 : ((sec a).ct == (sec c).ct) = false := by simp; omega
              have m1' : (((sec a).ct : Int) == ((sec c).ct : Int)) = false := by simp; omega
              clear hx g2
              go_wp2
              go_ret
              exact ⟨rfl, hd⟩
        · cases ht : (sec c).below (sec b)
          · rw [hp, hq] at hr
            rw [hs, ht] at hu
            simp only [Bool.and_true, Bool.and_false, Bool.true_and, Bool.false_and] at hr hu
            have hx : sec a ≠ sec c := by
              intro e
              rw [e, below_refl] at hp hs
              cases hp <;> cases hs
            rcases lab_ne hx with g1 | ⟨g1, g2⟩
            · have m1 : ((sec a).lv == (sec c).lv) = false := by simp; omega
              have m1' : (((sec a).lv : Int) == ((sec c).lv : Int)) = false := by simp; omega
              clear hx g1
              go_wp2
              go_ret
              exact ⟨rfl, hd⟩
            · have m1 : ((sec a).ct == (sec c).ct) = false := by simp; omega
              have m1' : (((sec a).ct : Int) == ((sec c).ct : Int)) = false := by simp; omega
              clear hx g2
              go_wp2
              go_ret
              exact ⟨rfl, hd⟩
          · rw [hp, hq] at hr
            rw [hs, ht] at hu
            simp only [Bool.and_true, Bool.and_false, Bool.true_and, Bool.false_and] at hr hu
            have hx : sec a ≠ sec c := by
              intro e
              rw [e, below_refl] at hp hs
              cases hp <;> cases hs
            rcases lab_ne hx with g1 | ⟨g1, g2⟩
            · have m1 : ((sec a).lv == (sec c).lv) = false := by simp; omega
              have m1' : (((sec a).lv : Int) == ((sec c).lv : Int)) = false := by simp; omega
              clear hx g1
              go_wp2
              go_ret
              exact ⟨rfl, hd⟩
            · have m1 : ((sec a).ct == (sec c).ct) = false := by simp; omega
              have m1' : (((sec a).ct : Int) == ((sec c).ct : Int)) = false := by simp; omega
              clear hx g2
              go_wp2
              go_ret
              exact ⟨rfl, hd⟩
    · cases hv : (sec a).below (sec b)
      · cases hs : (sec c).below (sec a)
        · cases ht : (sec c).below (sec b)
          · rw [hp, hq] at hr
            rw [hs, ht] at hu
            simp only [Bool.and_true, Bool.and_false, Bool.true_and, Bool.false_and] at hr hu
            have hx : sec a ≠ sec c := by
              intro e
              rw [e, below_refl] at hp hs
              cases hp <;> cases hs
            rcases lab_ne hx with g1 | ⟨g1, g2⟩
            · have m1 : ((sec a).lv == (sec c).lv) = false := by simp; omega
              have m1' : (((sec a).lv : Int) == ((sec c).lv : Int)) = false := by simp; omega
              clear hx g1
              go_wp2
              go_ret
              exact ⟨rfl, hd⟩
            · have m1 : ((sec a).ct == (sec c).ct) = false := by simp; omega
              have m1' : (((sec a).ct : Int) == ((sec c).ct : Int)) = false := by simp; omega
              clear hx g2
              go_wp2
              go_ret
              exact ⟨rfl, hd⟩
          · rw [hp, hq] at hr
            rw [hs, ht] at hu
            simp only [Bool.and_true, Bool.and_false, Bool.true_and, Bool.false_and] at hr hu
            have hx : sec a ≠ sec c := by
              intro e
              rw [e, below_refl] at hp hs
              cases hp <;> cases hs
            rcases lab_ne hx with g1 | ⟨g1, g2⟩
            · have m1 : ((sec a).lv == (sec c).lv) = false := by simp; omega
              have m1' : (((sec a).lv : Int) == ((sec c).lv : Int)) = false := by simp; omega
              clear hx g1
              go_wp2
              go_ret
              exact ⟨rfl, hd⟩
            · have m1 : ((sec a).ct == (sec c).ct) = false := by simp; omega
              have m1' : (((sec a).ct : Int) == ((sec c).ct : Int)) = false := by simp; omega
              clear hx g2
              go_wp2
              go_ret
              exact ⟨rfl, hd⟩
        · cases ht : (sec c).below (sec b)
          · rw [hp, hq] at hr
            rw [hs, ht] at hu
            simp only [Bool.and_true, Bool.and_false, Bool.true_and, Bool.false_and] at hr hu
            have hx : sec a ≠ sec c := by
              intro e
              rw [e, below_refl] at hp hs
              cases hp <;> cases hs
            rcases lab_ne hx with g1 | ⟨g1, g2⟩
            · have m1 : ((sec a).lv == (sec c).lv) = false := by simp; omega
              have m1' : (((sec a).lv : Int) == ((sec c).lv : Int)) = false := by simp; omega
              clear hx g1
              go_wp2
              go_ret
              exact ⟨rfl, hd⟩
            · have m1 : ((sec a).ct == (sec c).ct) = false := by simp; omega
              have m1' : (((sec a).ct : Int) == ((sec c).ct : Int)) = false := by simp; omega
              clear hx g2
              go_wp2
              go_ret
              exact ⟨rfl, hd⟩
          · rw [hp, hq] at hr
            rw [hs, ht] at hu
            simp only [Bool.and_true, Bool.and_false, Bool.true_and, Bool.false_and] at hr hu
            have hx : sec a ≠ sec c := by
              intro e
              rw [e, below_refl] at hp hs
              cases hp <;> cases hs
            rcases lab_ne hx with g1 | ⟨g1, g2⟩
            · have m1 : ((sec a).lv == (sec c).lv) = false := by simp; omega
              have m1' : (((sec a).lv : Int) == ((sec c).lv : Int)) = false := by simp; omega
              clear hx g1
              go_wp2
              go_ret
              exact ⟨rfl, hd⟩
            · have m1 : ((sec a).ct == (sec c).ct) = false := by simp; omega
              have m1' : (((sec a).ct : Int) == ((sec c).ct : Int)) = false := by simp; omega
              clear hx g2
              go_wp2
              go_ret
              exact ⟨rfl, hd⟩
      · cases hs : (sec c).below (sec a)
        · cases ht : (sec c).below (sec b)
          · exact absurd (below_trans hv hq) (by rw [hp]; decide)
          · exact absurd (below_trans hv hq) (by rw [hp]; decide)
        · cases ht : (sec c).below (sec b)
          · exact absurd (below_trans hv hq) (by rw [hp]; decide)
          · exact absurd (below_trans hv hq) (by rw [hp]; decide)
  · cases hq : (sec b).below (sec c)
    · cases hv : (sec a).below (sec b)
      · cases hs : (sec c).below (sec a)
        · cases ht : (sec c).below (sec b)
          · rw [hp, hq] at hr
            rw [hs, ht] at hu
            simp only [Bool.and_true, Bool.and_false, Bool.true_and, Bool.false_and] at hr hu
            have hx : sec a ≠ sec c := by
              intro e
              rw [e, below_refl] at hp hs
              cases hp <;> cases hs
            rcases lab_ne hx with g1 | ⟨g1, g2⟩
            · have m1 : ((sec a).lv == (sec c).lv) = false := by simp; omega
              have m1' : (((sec a).lv : Int) == ((sec c).lv : Int)) = false := by simp; omega
              clear hx g1
              go_wp2
              go_ret
              exact ⟨rfl, hd⟩
            · have m1 : ((sec a).ct == (sec c).ct) = false := by simp; omega
              have m1' : (((sec a).ct : Int) == ((sec c).ct : Int)) = false := by simp; omega
              clear hx g2
              go_wp2
              go_ret
              exact ⟨rfl, hd⟩
          · rw [hp, hq] at hr
            rw [hs, ht] at hu
            simp only [Bool.and_true, Bool.and_false, Bool.true_and, Bool.false_and] at hr hu
            have hx : sec a ≠ sec c := by
              intro e
              rw [e, below_refl] at hp hs
              cases hp <;> cases hs
            rcases lab_ne hx with g1 | ⟨g1, g2⟩
            · have m1 : ((sec a).lv == (sec c).lv) = false := by simp; omega
              have m1' : (((sec a).lv : Int) == ((sec c).lv : Int)) = false := by simp; omega
              clear hx g1
              go_wp2
              go_ret
              exact ⟨rfl, hd⟩
            · have m1 : ((sec a).ct == (sec c).ct) = false := by simp; omega
              have m1' : (((sec a).ct : Int) == ((sec c).ct : Int)) = false := by simp; omega
              clear hx g2
              go_wp2
              go_ret
              exact ⟨rfl, hd⟩
        · cases ht : (sec c).below (sec b)
          · rw [hp, hq] at hr
            rw [hs, ht] at hu
            simp only [Bool.and_true, Bool.and_false, Bool.true_and, Bool.false_and] at hr hu
            have hx := below_anti hp hs
            have e1 : (sec a).lv = (sec c).lv := congrArg Lab.lv hx
            have e2 : (sec a).ct = (sec c).ct := congrArg Lab.ct hx
            clear hx
            go_wp2
            go_ret
            exact ⟨rfl, hd⟩
          · rw [hp, hq] at hr
            rw [hs, ht] at hu
            simp only [Bool.and_true, Bool.and_false, Bool.true_and, Bool.false_and] at hr hu
            have hx := below_anti hp hs
            have e1 : (sec a).lv = (sec c).lv := congrArg Lab.lv hx
            have e2 : (sec a).ct = (sec c).ct := congrArg Lab.ct hx
            clear hx
            go_wp2
            go_ret
            exact ⟨rfl, hd⟩
      · cases hs : (sec c).below (sec a)
        · cases ht : (sec c).below (sec b)
          · rw [hp, hq] at hr
            rw [hs, ht] at hu
            simp only [Bool.and_true, Bool.and_false, Bool.true_and, Bool.false_and] at hr hu
            have hx : sec a ≠ sec c := by
              intro e
              rw [e, below_refl] at hp hs
              cases hp <;> cases hs
            rcases lab_ne hx with g1 | ⟨g1, g2⟩
            · have m1 : ((sec a).lv == (sec c).lv) = false := by simp; omega
              have m1' : (((sec a).lv : Int) == ((sec c).lv : Int)) = false := by simp; omega
              clear hx g1
              go_wp2
              go_ret
              exact ⟨rfl, hd⟩
            · have m1 : ((sec a).ct == (sec c).ct) = false := by simp; omega
              have m1' : (((sec a).ct : Int) == ((sec c).ct : Int)) = false := by simp; omega
              clear hx g2
              go_wp2
              go_ret
              exact ⟨rfl, hd⟩
          · rw [hp, hq] at hr
            rw [hs, ht] at hu
            simp only [Bool.and_true, Bool.and_false, Bool.true_and, Bool.false_and] at hr hu
            have hx : sec a ≠ sec c := by
              intro e
              rw [e, below_refl] at hp hs
              cases hp <;> cases hs
            rcases lab_ne hx with g1 | ⟨g1, g2⟩
            · have m1 : ((sec a).lv == (sec c).lv) = false := by simp; omega
              have m1' : (((sec a).lv : Int) == ((sec c).lv : Int)) = false := by simp; omega
              clear hx g1
              go_wp2
              go_ret
              exact ⟨rfl, hd⟩
            · have m1 : ((sec a).ct == (sec c).ct) = false := by simp; omega
              have m1' : (((sec a).ct : Int) == ((sec c).ct : Int)) = false := by simp; omega
              clear hx g2
              go_wp2
              go_ret
              exact ⟨rfl, hd⟩
        · cases ht : (sec c).below (sec b)
          · rw [hp, hq] at hr
            rw [hs, ht] at hu
            simp only [Bool.and_true, Bool.and_false, Bool.true_and, Bool.false_and] at hr hu
            have hx := below_anti hp hs
            have e1 : (sec a).lv = (sec c).lv := congrArg Lab.lv hx
            have e2 : (sec a).ct = (sec c).ct := congrArg Lab.ct hx
            clear hx
            go_wp2
            go_ret
            exact ⟨rfl, hd⟩
          · rw [hp, hq] at hr
            rw [hs, ht] at hu
            simp only [Bool.and_true, Bool.and_false, Bool.true_and, Bool.false_and] at hr hu
            have hx := below_anti hp hs
            have e1 : (sec a).lv = (sec c).lv := congrArg Lab.lv hx
            have e2 : (sec a).ct = (sec c).ct := congrArg Lab.ct hx
            clear hx
            go_wp2
            go_ret
            exact ⟨rfl, hd⟩
    · cases hv : (sec a).below (sec b)
      · cases hs : (sec c).below (sec a)
        · cases ht : (sec c).below (sec b)
          · rw [hp, hq] at hr
            rw [hs, ht] at hu
            simp only [Bool.and_true, Bool.and_false, Bool.true_and, Bool.false_and] at hr hu
            have hx : sec a ≠ sec c := by
              intro e
              rw [e, below_refl] at hp hs
              cases hp <;> cases hs
            rcases lab_ne hx with g1 | ⟨g1, g2⟩
            · have m1 : ((sec a).lv == (sec c).lv) = false := by simp; omega
              have m1' : (((sec a).lv : Int) == ((sec c).lv : Int)) = false := by simp; omega
              clear hx g1
              go_wp2
              go_ret
              exact ⟨rfl, hd⟩
            · have m1 : ((sec a).ct == (sec c).ct) = false := by simp; omega
              have m1' : (((sec a).ct : Int) == ((sec c).ct : Int)) = false := by simp; omega
              clear hx g2
              go_wp2
              go_ret
              exact ⟨rfl, hd⟩
          · rw [hp, hq] at hr
            rw [hs, ht] at hu
            simp only [Bool.and_true, Bool.and_false, Bool.true_and, Bool.false_and] at hr hu
            have hx : sec a ≠ sec c := by
              intro e
              rw [e, below_refl] at hp hs
              cases hp <;> cases hs
            rcases lab_ne hx with g1 | ⟨g1, g2⟩
            · have m1 : ((sec a).lv == (sec c).lv) = false := by simp; omega
              have m1' : (((sec a).lv : Int) == ((sec c).lv : Int)) = false := by simp; omega
              clear hx g1
              go_wp2
              go_ret
              exact ⟨rfl, hd⟩
            · have m1 : ((sec a).ct == (sec c).ct) = false := by simp; omega
              have m1' : (((sec a).ct : Int) == ((sec c).ct : Int)) = false := by simp; omega
              clear hx g2
              go_wp2
              go_ret
              exact ⟨rfl, hd⟩
        · cases ht : (sec c).below (sec b)
          · rw [hp, hq] at hr
            rw [hs, ht] at hu
            simp only [Bool.and_true, Bool.and_false, Bool.true_and, Bool.false_and] at hr hu
            have hx := below_anti hp hs
            have e1 : (sec a).lv = (sec c).lv := congrArg Lab.lv hx
            have e2 : (sec a).ct = (sec c).ct := congrArg Lab.ct hx
            clear hx
            go_wp2
            go_ret
            exact ⟨rfl, hd⟩
          · rw [hp, hq] at hr
            rw [hs, ht] at hu
            simp only [Bool.and_true, Bool.and_false, Bool.true_and, Bool.false_and] at hr hu
            have hx := below_anti hp hs
            have e1 : (sec a).lv = (sec c).lv := congrArg Lab.lv hx
            have e2 : (sec a).ct = (sec c).ct := congrArg Lab.ct hx
            clear hx
            go_wp2
            go_ret
            exact ⟨rfl, hd⟩
      · cases hs : (sec c).below (sec a)
        · cases ht : (sec c).below (sec b)
          · rw [hp, hq] at hr
            rw [hs, ht] at hu
            simp only [Bool.and_true, Bool.and_false, Bool.true_and, Bool.false_and] at hr hu
            have hx : sec a ≠ sec c := by
              intro e
              rw [e, below_refl] at hp hs
              cases hp <;> cases hs
            rcases lab_ne hx with g1 | ⟨g1, g2⟩
            · have m1 : ((sec a).lv == (sec c).lv) = false := by simp; omega
              have m1' : (((sec a).lv : Int) == ((sec c).lv : Int)) = false := by simp; omega
              clear hx g1
              go_wp2
              go_ret
              exact ⟨rfl, hd⟩
            · have m1 : ((sec a).ct == (sec c).ct) = false := by simp; omega
              have m1' : (((sec a).ct : Int) == ((sec c).ct : Int)) = false := by simp; omega
              clear hx g2
              go_wp2
              go_ret
              exact ⟨rfl, hd⟩
          · rw [hp, hq] at hr
            rw [hs, ht] at hu
            simp only [Bool.and_true, Bool.and_false, Bool.true_and, Bool.false_and] at hr hu
            have hx : sec a ≠ sec c := by
              intro e
              rw [e, below_refl] at hp hs
              cases hp <;> cases hs
            rcases lab_ne hx with g1 | ⟨g1, g2⟩
            · have m1 : ((sec a).lv == (sec c).lv) = false := by simp; omega
              have m1' : (((sec a).lv : Int) == ((sec c).lv : Int)) = false := by simp; omega
              clear hx g1
              go_wp2
              go_ret
              exact ⟨rfl, hd⟩
            · have m1 : ((sec a).ct == (sec c).ct) = false := by simp; omega
              have m1' : (((sec a).ct : Int) == ((sec c).ct : Int)) = false := by simp; omega
              clear hx g2
              go_wp2
              go_ret
              exact ⟨rfl, hd⟩
        · cases ht : (sec c).below (sec b)
          · rw [hp, hq] at hr
            rw [hs, ht] at hu
            simp only [Bool.and_true, Bool.and_false, Bool.true_and, Bool.false_and] at hr hu
            have hx := below_anti hp hs
            have e1 : (sec a).lv = (sec c).lv := congrArg Lab.lv hx
            have e2 : (sec a).ct = (sec c).ct := congrArg Lab.ct hx
            clear hx
            go_wp2
            go_ret
            exact ⟨rfl, hd⟩
          · rw [hp, hq] at hr
            rw [hs, ht] at hu
            simp only [Bool.and_true, Bool.and_false, Bool.true_and, Bool.false_and] at hr hu
            have hx := below_anti hp hs
            have e1 : (sec a).lv = (sec c).lv := congrArg Lab.lv hx
            have e2 : (sec a).ct = (sec c).ct := congrArg Lab.ct hx
            clear hx
            go_wp2
            go_ret
            exact ⟨rfl, hd⟩
end Go.Proofs.Ythbimgibpiejcaa
