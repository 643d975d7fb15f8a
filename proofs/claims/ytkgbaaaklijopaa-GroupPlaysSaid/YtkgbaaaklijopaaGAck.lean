/- Ack: what a follower told. -/
import Derived.Test.YtkgbaaaklijopaaGAdd
set_option linter.unusedVariables false
set_option linter.unusedSimpArgs false
set_option maxRecDepth 100000
namespace Go.Proofs.Ytkgbaaaklijopaa
open Go.RowKit Go.Sort

theorem setT_ok {X : GrpX} {j m : Nat} (h : X.Ok) (hj : j < X.n) (h1 : m ≤ (X.L (j + 1)).length) (h0 : m ≤ (X.L 0).length) : (X.setT (j + 1) (max (X.told (j + 1)) m)).Ok := by
  refine ⟨h.n4, h.few, fun i h2 hi => ?_⟩
  have ht := h.tl i h2 hi
  by_cases e : i = j + 1
  · subst e
    simp only [GrpX.setT, if_true]
    omega
  · simp only [GrpX.setT, if_neg e]
    exact ht
theorem GTo.told {O : Nat → Prop} {p q : Nat} {X : GrpX} {w : World} {A : Nat → Option Addr} {C : Nat → Nat} (h : GrpA w O p q X A C) {j m : Nat} (hj : j < X.n) (hok : (X.setT (j + 1) m).Ok) : GTo O p q (X.setT (j + 1) m) w (w.setCell ⟨q, j * 2 + 1, none⟩ (.int .i64 m)) :=
  ⟨O, ⟨A, C, h.setT hj hok⟩, fun _ hz => .inl hz, Kept.setCell w (fun hz => hz h.oq) _⟩

theorem ack_yes {w : World} {O : Nat → Prop} {p q : Nat} {X : GrpX} {i : Int} {j m : Nat} (h : Grp w O p q X) (hi : i = ((j + 1 : Nat) : Int)) (hj : j < X.n) (hm : m ≤ (X.L (j + 1)).length) (hm0 : m ≤ (X.L 0).length) :
    Calls Try.prog 11 #[ptr p, .int .i64 i, .int .i64 (m : Int)] w fun e w' => e = .returned (.int .i64 0) ∧ GTo O p q (X.setT (j + 1) (max (X.told (j + 1)) m)) w w' := by
  obtain ⟨A, C, h⟩ := h
  have c0 := h.cl 0 (Nat.zero_le _)
  rw [gloc_zero] at c0
  have cj := h.cl (j + 1) hj
  rw [gloc_succ] at cj
  have ct := h.ct j hj
  have fq := h.zq (j * 2 + 1)
  have HF := Lib.hid (fol_yes w h.c1 hi hj h.ok.n4)
  have HG := Lib.hid (GTo.told h hj (setT_ok h.ok hj hm hm0))
  have n1 : ¬ (m : Int) < 0 := by omega
  have n2 : ¬ ((X.L (j + 1)).length : Int) < (m : Int) := by omega
  have n3 : ¬ ((X.L 0).length : Int) < (m : Int) := by omega
  generalize (X.L (j + 1)).length = k at cj n2
  generalize (X.L 0).length = k0 at c0 n3
  generalize A (j + 1) = a1 at cj
  generalize C (j + 1) = kc1 at cj
  generalize A 0 = a0 at c0
  generalize C 0 = kc0 at c0
  obtain ⟨M, hM⟩ : ∃ M, max (X.told (j + 1)) m = M := ⟨_, rfl⟩
  rw [hM] at HG ⊢
  generalize X.told (j + 1) = T at ct hM
  have HM := Lib.hid hM
  clear h hm hm0 hi hj hM
  go_enter Try.func11, Try.ntmps11
  go_wp2_with fail
  refine HF.out.mono ?_
  rintro e w' ⟨rfl, rfl⟩
  go_wp2_with fail
  go_ret
  have e1 : max (T : Int) (m : Int) = (M : Int) := by have := HM.out; omega
  rw [e1]
  exact ⟨rfl, HG.out⟩
theorem ack_arg {w : World} {O : Nat → Prop} {p q : Nat} {X : GrpX} {i m : Int} {j : Nat} (h : Grp w O p q X) (hi : i = ((j + 1 : Nat) : Int)) (hj : j < X.n) (hm : m < 0 ∨ ((X.L (j + 1)).length : Int) < m ∨ ((X.L 0).length : Int) < m) :
    Calls Try.prog 11 #[ptr p, .int .i64 i, .int .i64 m] w fun e w' => e = .returned (.int .i64 1) ∧ w' = w := by
  obtain ⟨A, C, h⟩ := h
  have c0 := h.cl 0 (Nat.zero_le _)
  rw [gloc_zero] at c0
  have cj := h.cl (j + 1) hj
  rw [gloc_succ] at cj
  have HF := Lib.hid (fol_yes w h.c1 hi hj h.ok.n4)
  generalize (X.L (j + 1)).length = k at cj hm
  generalize (X.L 0).length = k0 at c0 hm
  generalize A (j + 1) = a1 at cj
  generalize C (j + 1) = kc1 at cj
  generalize A 0 = a0 at c0
  generalize C 0 = kc0 at c0
  clear h hi hj
  by_cases h0 : m < 0
  · clear hm
    go_enter Try.func11, Try.ntmps11
    go_wp2_with fail
    refine HF.out.mono ?_
    rintro e w' ⟨rfl, rfl⟩
    go_wp2_with fail
    go_ret
    exact ⟨rfl, rfl⟩
  · by_cases h2 : (k : Int) < m
    · clear hm
      go_enter Try.func11, Try.ntmps11
      go_wp2_with fail
      refine HF.out.mono ?_
      rintro e w' ⟨rfl, rfl⟩
      go_wp2_with fail
      go_ret
      exact ⟨rfl, rfl⟩
    · have h3 : (k0 : Int) < m := by omega
      clear hm
      go_enter Try.func11, Try.ntmps11
      go_wp2_with fail
      refine HF.out.mono ?_
      rintro e w' ⟨rfl, rfl⟩
      go_wp2_with fail
      go_ret
      exact ⟨rfl, rfl⟩
theorem ack_none {w : World} {O : Nat → Prop} {p q : Nat} {X : GrpX} {i m : Int} (h : Grp w O p q X) (hi : i < 1 ∨ (X.n : Int) < i) :
    Calls Try.prog 11 #[ptr p, .int .i64 i, .int .i64 m] w fun e w' => e = .returned (.int .i64 4) ∧ w' = w := by
  obtain ⟨A, C, h⟩ := h
  have HF := Lib.hid (fol_no w h.c1 hi)
  clear h hi
  go_enter Try.func11, Try.ntmps11
  go_wp2_with fail
  refine HF.out.mono ?_
  rintro e w' ⟨rfl, rfl⟩
  go_wp2_with fail
  go_ret
  exact ⟨rfl, rfl⟩
end Go.Proofs.Ytkgbaaaklijopaa
