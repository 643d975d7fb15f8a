/- Send, Log, Ack: what is told. -/
import Derived.Test.YtkgbaaaklijopaaGFol
import Derived.Test.YtkgbaaaklijopaaGSl
set_option linter.unusedVariables false
set_option linter.unusedSimpArgs false
set_option maxRecDepth 100000
namespace Go.Proofs.Ytkgbaaaklijopaa
open Go.RowKit Go.Sort

/-- a list of strings that is new, and no error -/
def ListTo (l : List ByteArray) (w : World) (e : Ending) (w' : World) : Prop :=
  ∃ A c, e = .returned (.tuple #[.slice A l.length c, .int .i64 0]) ∧ OwnS w.heap.size w' (.slice A l.length c) l ∧ Below w.heap.size w w'
/-- an error, and nothing -/
def NoneTo (er : Int) (w : World) (e : Ending) (w' : World) : Prop := e = .returned (.tuple #[.slice none 0 0, .int .i64 er]) ∧ w' = w

theorem send_yes {w : World} {O : Nat → Prop} {p q : Nat} {X : GrpX} {i : Int} {j m : Nat} (h : Grp w O p q X) (hi : i = ((j + 1 : Nat) : Int)) (hj : j < X.n) (hm : m ≤ (X.L 0).length) :
    Calls Try.prog 16 #[ptr p, .int .i64 i, .int .i64 (m : Int)] w (ListTo ((X.L 0).drop m) w) := by
  obtain ⟨A, C, h⟩ := h
  have c1 := h.c1
  have c0 := h.cl 0 (Nat.zero_le _)
  rw [gloc_zero] at c0
  obtain ⟨h1, h2, h3⟩ := OwnS.sl (h.ow 0 (Nat.zero_le _))
  have h60 := h.ok.few 0 (Nat.zero_le _)
  have HF := Lib.hid (fol_yes w c1 hi hj h.ok.n4)
  obtain ⟨k, hk⟩ : ∃ k, (X.L 0).length = k := ⟨_, rfl⟩
  rw [hk] at c0 hm h2 h60
  obtain ⟨a', hrun, hsl, hnear⟩ := sl_from (a := A 0) (c := C 0) .i64 hm h2
  have hc := cloneS_any a' ((X.L 0).drop m) (C 0 - m) w (hsl w _ h1 hk) (by rw [List.length_drop, hk]; omega)
  unfold ListTo
  unfold NewS at hc
  rw [List.length_drop, hk] at hc ⊢
  have HC := Lib.hid hc
  have n1 : ¬ (m : Int) < 0 := by omega
  have n2 : ¬ (k : Int) < (m : Int) := by omega
  generalize A 0 = a0 at c0 hrun
  generalize C 0 = k0 at c0 hrun HC
  clear h h1 h2 h3 h60 hi hj hm hk hsl hnear hc c1
  go_enter Try.func16, Try.ntmps16
  go_wp2_with fail
  refine HF.out.mono ?_
  rintro e w' ⟨rfl, rfl⟩
  go_wp2_with fail
  refine HC.out.mono ?_
  rintro e w' ⟨A', c', rfl, ho, hb⟩
  go_wp2_with fail
  go_ret2
  exact ⟨A', c', rfl, ho, hb⟩
theorem send_none {w : World} {O : Nat → Prop} {p q : Nat} {X : GrpX} {i m : Int} (h : Grp w O p q X) (hi : i < 1 ∨ (X.n : Int) < i) :
    Calls Try.prog 16 #[ptr p, .int .i64 i, .int .i64 m] w (NoneTo 4 w) := by
  obtain ⟨A, C, h⟩ := h
  have HF := Lib.hid (fol_no w h.c1 hi)
  clear h hi
  go_enter Try.func16, Try.ntmps16
  go_wp2_with fail
  refine HF.out.mono ?_
  rintro e w' ⟨rfl, rfl⟩
  go_wp2_with fail
  go_ret2
  exact ⟨rfl, rfl⟩
theorem send_arg {w : World} {O : Nat → Prop} {p q : Nat} {X : GrpX} {i m : Int} {j : Nat} (h : Grp w O p q X) (hi : i = ((j + 1 : Nat) : Int)) (hj : j < X.n) (hm : m < 0 ∨ ((X.L 0).length : Int) < m) :
    Calls Try.prog 16 #[ptr p, .int .i64 i, .int .i64 m] w (NoneTo 1 w) := by
  obtain ⟨A, C, h⟩ := h
  have c1 := h.c1
  have c0 := h.cl 0 (Nat.zero_le _)
  rw [gloc_zero] at c0
  have HF := Lib.hid (fol_yes w c1 hi hj h.ok.n4)
  obtain ⟨k, hk⟩ : ∃ k, (X.L 0).length = k := ⟨_, rfl⟩
  rw [hk] at c0 hm
  clear h hi hj c1 hk
  by_cases h0 : m < 0
  · clear hm
    go_enter Try.func16, Try.ntmps16
    go_wp2_with fail
    refine HF.out.mono ?_
    rintro e w' ⟨rfl, rfl⟩
    go_wp2_with fail
    go_ret2
    exact ⟨rfl, rfl⟩
  · have n2 : (k : Int) < m := by omega
    clear hm
    go_enter Try.func16, Try.ntmps16
    go_wp2_with fail
    refine HF.out.mono ?_
    rintro e w' ⟨rfl, rfl⟩
    go_wp2_with fail
    go_ret2
    exact ⟨rfl, rfl⟩

theorem log_zero {w : World} {O : Nat → Prop} {p q : Nat} {X : GrpX} (h : Grp w O p q X) :
    Calls Try.prog 26 #[ptr p, .int .i64 0] w (ListTo (X.L 0) w) := by
  obtain ⟨A, C, h⟩ := h
  have c0 := h.cl 0 (Nat.zero_le _)
  rw [gloc_zero] at c0
  obtain ⟨h1, h2, h3⟩ := OwnS.sl (h.ow 0 (Nat.zero_le _))
  have h60 := h.ok.few 0 (Nat.zero_le _)
  have hc := cloneS_any (A 0) (X.L 0) (C 0) w h1 (by omega)
  unfold ListTo
  unfold NewS at hc
  have HC := Lib.hid hc
  generalize A 0 = a0 at c0 HC
  generalize C 0 = k0 at c0 HC
  generalize (X.L 0).length = k at c0 HC ⊢
  clear h h1 h2 h3 h60 hc
  go_enter Try.func26, Try.ntmps26
  go_wp2_with fail
  refine HC.out.mono ?_
  rintro e w' ⟨A', c', rfl, ho, hb⟩
  go_wp2_with fail
  go_ret2
  exact ⟨A', c', rfl, ho, hb⟩
theorem log_yes {w : World} {O : Nat → Prop} {p q : Nat} {X : GrpX} {i : Int} {j : Nat} (h : Grp w O p q X) (hi : i = ((j + 1 : Nat) : Int)) (hj : j < X.n) :
    Calls Try.prog 26 #[ptr p, .int .i64 i] w (ListTo (X.L (j + 1)) w) := by
  obtain ⟨A, C, h⟩ := h
  have c0 := h.cl (j + 1) hj
  rw [gloc_succ] at c0
  obtain ⟨h1, h2, h3⟩ := OwnS.sl (h.ow (j + 1) hj)
  have h60 := h.ok.few (j + 1) hj
  have hc := cloneS_any (A (j + 1)) (X.L (j + 1)) (C (j + 1)) w h1 (by omega)
  have HF := Lib.hid (fol_yes w h.c1 hi hj h.ok.n4)
  unfold ListTo
  unfold NewS at hc
  have HC := Lib.hid hc
  generalize A (j + 1) = a0 at c0 HC
  generalize C (j + 1) = k0 at c0 HC
  generalize (X.L (j + 1)).length = k at c0 HC ⊢
  have n0 : (i == 0) = false := by rw [beq_eq_false_iff_ne]; omega
  clear h h1 h2 h3 h60 hc hi hj
  go_enter Try.func26, Try.ntmps26
  go_wp2_with fail
  refine HF.out.mono ?_
  rintro e w' ⟨rfl, rfl⟩
  go_wp2_with fail
  refine HC.out.mono ?_
  rintro e w' ⟨A', c', rfl, ho, hb⟩
  go_wp2_with fail
  go_ret2
  exact ⟨A', c', rfl, ho, hb⟩
theorem log_none {w : World} {O : Nat → Prop} {p q : Nat} {X : GrpX} {i : Int} (h : Grp w O p q X) (hi : i < 0 ∨ (X.n : Int) < i) :
    Calls Try.prog 26 #[ptr p, .int .i64 i] w (NoneTo 4 w) := by
  obtain ⟨A, C, h⟩ := h
  have HF := Lib.hid (fol_no (i := i) w h.c1 (by omega))
  have n0 : (i == 0) = false := by rw [beq_eq_false_iff_ne]; omega
  clear h hi
  go_enter Try.func26, Try.ntmps26
  go_wp2_with fail
  refine HF.out.mono ?_
  rintro e w' ⟨rfl, rfl⟩
  go_wp2_with fail
  go_ret2
  exact ⟨rfl, rfl⟩
end Go.Proofs.Ytkgbaaaklijopaa
