/- What the document's answer for a group tells: Is, Send, Told, Lose, Sure. -/
import Derived.Test.YtkgbaaaklijopaaGRef
set_option linter.unusedVariables false
set_option linter.unusedSimpArgs false
set_option maxRecDepth 100000
namespace Go.Proofs.Ytkgbaaaklijopaa
open Go.RowKit Go.Sort

theorem rin_is {x lo hi : Int} {b : Bool} (w : World) (hb : decide (lo ≤ x ∧ x ≤ hi) = b) :
    Calls Try.prog 34 #[.int .i64 x, .int .i64 lo, .int .i64 hi] w fun e w' => e = .returned (.bool b) ∧ w' = w := by
  by_cases h1 : lo ≤ x
  · by_cases h2 : x ≤ hi
    · have e : b = true := by rw [← hb, decide_eq_true_eq]; exact ⟨h1, h2⟩
      subst e
      clear hb
      go_enter Try.func34, Try.ntmps34
      go_wp2_with fail
      go_ret
      exact ⟨rfl, rfl⟩
    · have e : b = false := by rw [← hb, decide_eq_false_iff_not]; exact fun k => h2 k.2
      subst e
      clear hb
      go_enter Try.func34, Try.ntmps34
      go_wp2_with fail
      go_ret
      exact ⟨rfl, rfl⟩
  · have e : b = false := by rw [← hb, decide_eq_false_iff_not]; exact fun k => h1 k.1
    subst e
    clear hb
    go_enter Try.func34, Try.ntmps34
    go_wp2_with fail
    go_ret
    exact ⟨rfl, rfl⟩
theorem ris_is {w : World} {p h n : Nat} {i : Int} {b : Bool} (c0 : w.cell? ⟨p, 0, none⟩ = some (.slice (some ⟨h, 0, none⟩) (n + 1) (n + 1))) (hn : n ≤ 4) (hb : decide (1 ≤ i ∧ i ≤ (n : Int)) = b) :
    Calls Try.prog 33 #[ptr p, .int .i64 i] w fun e w' => e = .returned (.bool b) ∧ w' = w := by
  have hw := rin_is w hb
  have HW := Lib.hid hw
  have e1 : wrap64 (((n + 1 : Nat) : Int) - 1) = (n : Int) := by unfold wrap64; omega
  obtain ⟨m, hm⟩ : ∃ m, n + 1 = m := ⟨_, rfl⟩
  rw [hm] at c0 e1
  have e2 : (m : Int) - 1 = (n : Int) := by omega
  have n1 : (m : Int) ≤ 5 := by omega
  clear hb hw hm hn
  go_enter Try.func33, Try.ntmps33
  go_wp2_with fail
  refine HW.out.mono ?_
  rintro e w' ⟨rfl, rfl⟩
  go_wp2_with fail
  go_ret
  exact ⟨rfl, rfl⟩

section
variable {w : World} {O : Nat → Prop} {S p h k : Nat} {X : GrpX} {A : Nat → Option Addr} {C : Nat → Nat}
theorem RefA.is_yes (r : RefA w O S p h k X A C) (hn : X.n ≤ 4) {i : Int} {j : Nat} (hi : i = ((j + 1 : Nat) : Int)) (hj : j < X.n) :
    Calls Try.prog 33 #[ptr p, .int .i64 i] w fun e w' => e = .returned (.bool true) ∧ w' = w := ris_is r.c0 hn (by rw [decide_eq_true_eq]; omega)
theorem RefA.is_no (r : RefA w O S p h k X A C) (hn : X.n ≤ 4) {i : Int} (hi : i < 1 ∨ (X.n : Int) < i) :
    Calls Try.prog 33 #[ptr p, .int .i64 i] w fun e w' => e = .returned (.bool false) ∧ w' = w := ris_is r.c0 hn (by rw [decide_eq_false_iff_not]; omega)

/-! ## Send -/
theorem RefA.send_none (r : RefA w O S p h k X A C) (hn : X.n ≤ 4) {i f : Int} (hi : i < 1 ∨ (X.n : Int) < i) :
    Calls Try.prog 17 #[ptr p, .int .i64 i, .int .i64 f] w (NoneTo 4 w) := by
  have HI := Lib.hid (r.is_no hn hi)
  clear r hi
  go_enter Try.func17, Try.ntmps17
  go_wp2_with fail
  refine HI.out.mono ?_
  rintro e w' ⟨rfl, rfl⟩
  go_wp2_with fail
  go_ret2
  exact ⟨rfl, rfl⟩
theorem RefA.send_arg (r : RefA w O S p h k X A C) (hn : X.n ≤ 4) {i f : Int} {j : Nat} (hi : i = ((j + 1 : Nat) : Int)) (hj : j < X.n) (hf : f < 0 ∨ ((X.L 0).length : Int) < f) :
    Calls Try.prog 17 #[ptr p, .int .i64 i, .int .i64 f] w (NoneTo 1 w) := by
  have HI := Lib.hid (r.is_yes hn hi hj)
  have c0 := r.c0
  have cl := r.cl 0 (Nat.zero_le _)
  have HW := Lib.hid (rin_is (x := f) (lo := 0) (hi := ((X.L 0).length : Int)) (b := false) w (by rw [decide_eq_false_iff_not]; omega))
  generalize (X.L 0).length = l0 at cl HW
  generalize A 0 = a0 at cl
  generalize C 0 = k0 at cl
  obtain ⟨m, hm⟩ : ∃ m, X.n + 1 = m := ⟨_, rfl⟩
  rw [hm] at c0
  have i1 : (0 : Int) < (m : Int) := by omega
  clear r hi hf hm
  go_enter Try.func17, Try.ntmps17
  go_wp2_with fail
  refine HI.out.mono ?_
  rintro e w' ⟨rfl, rfl⟩
  go_wp2_with fail
  refine HW.out.mono ?_
  rintro e w' ⟨rfl, rfl⟩
  go_wp2_with fail
  go_ret2
  exact ⟨rfl, rfl⟩
/-- what is sent: a part of the leader's list, where it lies -/
theorem RefA.send_yes (r : RefA w O S p h k X A C) (hn : X.n ≤ 4) {i : Int} {j f n : Nat} (hi : i = ((j + 1 : Nat) : Int)) (hj : j < X.n) (hf : f ≤ (X.L 0).length) (hl : ((X.L 0).drop f).length = n) :
    Calls Try.prog 17 #[ptr p, .int .i64 i, .int .i64 (f : Int)] w fun e w' => ∃ a c, e = .returned (.tuple #[.slice a n c, .int .i64 0]) ∧ SlS w a ((X.L 0).drop f) ∧ n ≤ c ∧ (∀ d, a = some d → ¬ O d.block) ∧ w' = w := by
  have HI := Lib.hid (r.is_yes hn hi hj)
  have c0 := r.c0
  have cl := r.cl 0 (Nat.zero_le _)
  obtain ⟨s1, s2⟩ := r.sl 0 (Nat.zero_le _)
  have hal := r.al 0 (Nat.zero_le _)
  have HW := Lib.hid (rin_is (x := (f : Int)) (lo := 0) (hi := ((X.L 0).length : Int)) (b := true) w (by rw [decide_eq_true_eq]; omega))
  obtain ⟨l0, hl0⟩ : ∃ l0, (X.L 0).length = l0 := ⟨_, rfl⟩
  rw [List.length_drop, hl0] at hl
  rw [hl0] at cl HW s2 hf
  obtain ⟨a', hrun, hsl, hnr⟩ := sl_from (a := A 0) (n := l0) (c := C 0) (m := f) .i64 hf s2
  rw [hl] at hrun
  have hs' := hsl w _ s1 hl0
  have HR := Lib.hid (show n ≤ C 0 - f ∧ ∀ d, a' = some d → ¬ O d.block from ⟨by omega, fun d e => by
    obtain ⟨e0, e1, e2⟩ := hnr d e
    rw [e2]
    exact (hal e0 e1).1⟩)
  have HS := Lib.hid hs'
  generalize A 0 = a0 at cl hrun
  generalize C 0 = k0 at cl hrun HR
  obtain ⟨m, hm⟩ : ∃ m, X.n + 1 = m := ⟨_, rfl⟩
  rw [hm] at c0
  have i1 : (0 : Int) < (m : Int) := by omega
  clear r hi hf hm hl hl0 s1 s2 hal hsl hnr hs'
  go_enter Try.func17, Try.ntmps17
  go_wp2_with fail
  refine HI.out.mono ?_
  rintro e w' ⟨rfl, rfl⟩
  go_wp2_with fail
  refine HW.out.mono ?_
  rintro e w' ⟨rfl, rfl⟩
  go_wp2_with fail
  go_ret2
  exact ⟨a', _, rfl, HS.out, HR.out.1, HR.out.2, rfl⟩

/-! ## Told -/
theorem RefA.told_none (r : RefA w O S p h k X A C) (hn : X.n ≤ 4) {i f : Int} (hi : i < 1 ∨ (X.n : Int) < i) :
    Calls Try.prog 21 #[ptr p, .int .i64 i, .int .i64 f] w fun e w' => e = .returned (.int .i64 4) ∧ w' = w := by
  have HI := Lib.hid (r.is_no hn hi)
  clear r hi
  go_enter Try.func21, Try.ntmps21
  go_wp2_with fail
  refine HI.out.mono ?_
  rintro e w' ⟨rfl, rfl⟩
  go_wp2_with fail
  go_ret
  exact ⟨rfl, rfl⟩
set_option maxHeartbeats 1000000 in
theorem RefA.told_arg (r : RefA w O S p h k X A C) (hn : X.n ≤ 4) {i f : Int} {j : Nat} (hi : i = ((j + 1 : Nat) : Int)) (hj : j < X.n) (hf : f < 0 ∨ ((X.L (j + 1)).length : Int) < f ∨ ((X.L 0).length : Int) < f) :
    Calls Try.prog 21 #[ptr p, .int .i64 i, .int .i64 f] w fun e w' => e = .returned (.int .i64 1) ∧ Below w.heap.size w w' := by
  have HI := Lib.hid (r.is_yes hn hi hj)
  have c0 := r.c0
  have cl := r.cl 0 (Nat.zero_le _)
  have cj := r.cl (j + 1) hj
  obtain ⟨l0, hl0⟩ : ∃ l0, (X.L 0).length = l0 := ⟨_, rfl⟩
  obtain ⟨lj, hlj⟩ : ∃ lj, (X.L (j + 1)).length = lj := ⟨_, rfl⟩
  rw [hl0] at cl hf
  rw [hlj] at cj hf
  have HW := Lib.hid (fun V : World => rin_is (x := f) (lo := 0) (hi := min (lj : Int) (l0 : Int)) (b := false) V (by rw [decide_eq_false_iff_not]; omega))
  generalize A 0 = a0 at cl
  generalize C 0 = k0 at cl
  generalize A (j + 1) = aj at cj
  generalize C (j + 1) = kj at cj
  obtain ⟨m, hm⟩ : ∃ m, X.n + 1 = m := ⟨_, rfl⟩
  rw [hm] at c0
  obtain ⟨j1, hj1⟩ : ∃ j1, j1 = j + 1 := ⟨_, rfl⟩
  rw [← hj1] at cj hi
  have i1 : (0 : Int) < (m : Int) := by omega
  have i2 : (j1 : Int) < (m : Int) := by omega
  have i3 : (0 : Int) ≤ (j1 : Int) := by omega
  subst hi
  clear r hf hm hl0 hlj hj hj1
  go_enter Try.func21, Try.ntmps21
  go_wp2_with fail
  refine HI.out.mono ?_
  rintro e w' ⟨rfl, rfl⟩
  go_wp2_with fail
  go_quiet ((go_at_call 34; exact Calls.quiet_of_same (HW.out _)))
  go_wp2_with fail
  go_ret
  exact ⟨rfl, drewn_below w' _⟩
/-- what becomes of the answer: X' -/
def RefTo (O : Nat → Prop) (S p h k : Nat) (Y : GrpX) (w w' : World) : Prop := ∃ A C, RefA w' O S p h k Y A C ∧ Kept (fun z => z ≠ h ∧ z ≠ k) w w'
set_option maxHeartbeats 2000000 in
theorem RefA.told_yes (r : RefA w O S p h k X A C) (hn : X.n ≤ 4) {i : Int} {j f : Nat} (hi : i = ((j + 1 : Nat) : Int)) (hj : j < X.n) (hf : f ≤ (X.L (j + 1)).length) (hf0 : f ≤ (X.L 0).length) :
    Calls Try.prog 21 #[ptr p, .int .i64 i, .int .i64 (f : Int)] w fun e w' => e = .returned (.int .i64 0) ∧ RefTo O S p h k (X.setT (j + 1) (max (X.told (j + 1)) f)) w w' := by
  have HI := Lib.hid (r.is_yes hn hi hj)
  have c0 := r.c0
  have c1 := r.c1
  have cl := r.cl 0 (Nat.zero_le _)
  have cj := r.cl (j + 1) hj
  have ct := r.ct (j + 1) hj
  have fk := r.fk (j + 1)
  have HG : Hid (∀ W, Below w.heap.size w W → RefTo O S p h k (X.setT (j + 1) (max (X.told (j + 1)) f)) w (W.setCell ⟨k, j + 1, none⟩ (.int .i64 ((max (X.told (j + 1)) f : Nat) : Int)))) := fun W hW =>
    ⟨A, C, (r.below hW).setT hj (Nat.succ_pos _), (Kept.of hW).trans (Kept.setCell W (fun z => z.2 rfl) _)⟩
  have et : X.tell (j + 1) = X.told (j + 1) := by unfold GrpX.tell; rw [if_neg (by omega)]
  rw [et] at ct
  obtain ⟨M, hM⟩ : ∃ M, max (X.told (j + 1)) f = M := ⟨_, rfl⟩
  rw [hM] at HG ⊢
  generalize X.told (j + 1) = T at ct hM
  have e1 : max (T : Int) (f : Int) = (M : Int) := by omega
  obtain ⟨l0, hl0⟩ : ∃ l0, (X.L 0).length = l0 := ⟨_, rfl⟩
  obtain ⟨lj, hlj⟩ : ∃ lj, (X.L (j + 1)).length = lj := ⟨_, rfl⟩
  rw [hl0] at cl hf0
  rw [hlj] at cj hf
  have HW := Lib.hid (fun V : World => rin_is (x := (f : Int)) (lo := 0) (hi := min (lj : Int) (l0 : Int)) (b := true) V (by rw [decide_eq_true_eq]; omega))
  generalize A 0 = a0 at cl
  generalize C 0 = k0 at cl
  generalize A (j + 1) = aj at cj
  generalize C (j + 1) = kj at cj
  obtain ⟨m, hm⟩ : ∃ m, X.n + 1 = m := ⟨_, rfl⟩
  rw [hm] at c0 c1
  obtain ⟨j1, hj1⟩ : ∃ j1, j1 = j + 1 := ⟨_, rfl⟩
  rw [← hj1] at cj hi ct fk HG ⊢
  have i1 : (0 : Int) < (m : Int) := by omega
  have i2 : (j1 : Int) < (m : Int) := by omega
  have i3 : (0 : Int) ≤ (j1 : Int) := by omega
  subst hi
  have E1 := Lib.hid e1
  have lk := r.lk
  clear r hf hf0 hm hl0 hlj hj hj1 et hM e1
  go_enter Try.func21, Try.ntmps21
  go_wp2_with fail
  refine HI.out.mono ?_
  rintro e w' ⟨rfl, rfl⟩
  go_wp2_with fail
  go_quiet ((go_at_call 34; exact Calls.quiet_of_same (HW.out _)))
  go_wp2_with fail
  go_region
  all_goals
    go_wp2_with fail
    go_ret
    rw [E1.out]
    exact ⟨rfl, HG.out _ (drewn_below w' _).drew⟩
end
end Go.Proofs.Ytkgbaaaklijopaa
