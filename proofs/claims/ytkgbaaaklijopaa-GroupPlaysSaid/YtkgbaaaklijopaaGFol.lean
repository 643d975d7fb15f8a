/- Which follower; New; what is sent, what is had. -/
import Derived.Test.YtkgbaaaklijopaaGMem
import Derived.Laws.MakeOwn
set_option linter.unusedVariables false
set_option linter.unusedSimpArgs false
set_option maxRecDepth 100000
namespace Go.Proofs.Ytkgbaaaklijopaa
open Go.RowKit Go.Sort

/-- the pointer to block p's first cell -/
abbrev ptr (p : Nat) : Value := .pointer (some ⟨p, 0, none⟩)
abbrev ptrF (q j : Nat) : Value := .pointer (some ⟨q, j * 2, none⟩)

theorem fol_yes {p q n : Nat} {i : Int} {j : Nat} (w : World) (h1 : w.cell? ⟨p, 1, none⟩ = some (.slice (some ⟨q, 0, none⟩) n n)) (hi : i = ((j + 1 : Nat) : Int)) (hj : j < n) (hn : n ≤ 4) :
    Calls Try.prog 30 #[ptr p, .int .i64 i] w fun e w' => e = .returned (ptrF q j) ∧ w' = w := by
  have n1 : ¬ i < 1 := by omega
  have n2 : ¬ (n : Int) < i := by omega
  have i6 : wrap64 (i - 1) = (j : Int) := by unfold wrap64; omega
  have i3 : (0 : Int) ≤ (j : Int) := by omega
  have i4 : (j : Int) < (n : Int) := by omega
  clear hi hj hn
  go_enter Try.func30, Try.ntmps30
  go_wp2_with fail
  go_ret
  exact ⟨rfl, rfl⟩
theorem fol_no {p q n : Nat} {i : Int} (w : World) (h1 : w.cell? ⟨p, 1, none⟩ = some (.slice (some ⟨q, 0, none⟩) n n)) (hi : i < 1 ∨ (n : Int) < i) :
    Calls Try.prog 30 #[ptr p, .int .i64 i] w fun e w' => e = .returned (.pointer none) ∧ w' = w := by
  by_cases h0 : i < 1
  · clear hi
    go_enter Try.func30, Try.ntmps30
    go_wp2_with fail
    go_ret
    exact ⟨rfl, rfl⟩
  · have h2 : (n : Int) < i := by omega
    clear hi
    go_enter Try.func30, Try.ntmps30
    go_wp2_with fail
    go_ret
    exact ⟨rfl, rfl⟩
/-! ## New -/
/-- a group that is new: its blocks lie from block B on -/
def NewG (n : Nat) (w : World) (e : Ending) (w' : World) : Prop :=
  ∃ p q O, e = .returned (.tuple #[ptr p, .int .i64 0]) ∧ Grp w' O p q (GrpX.new n) ∧ (∀ z, O z → w.heap.size ≤ z) ∧ Below w.heap.size w w'

theorem Try.infoFol : (Try.prog.info? 59).map (fun i => (i.zero, i.size, i.bytes)) = some (some (.agg #[.slice none 0 0, .int .i64 0]), 2, 32) := by kernel_rfl
theorem made_at {z : Array Value} {n k : Nat} (h : k < n) : (madeCells z n)[k]? = some (z[k % z.size]!) := by
  unfold madeCells
  simp [h]
theorem new_in {n : Nat} (w : World) (hn : n ≤ 4) :
    Grp ((w.alloc (.cells (madeCells #[.slice none 0 0, .int .i64 0] (n * 2)) 59)).alloc (.cells #[.slice none 0 0, .slice (some ⟨w.heap.size, 0, none⟩) n n] 55)) (fun z => z = w.heap.size ∨ z = w.heap.size + 1) (w.heap.size + 1) w.heap.size (GrpX.new n) := by
  have hq : ∀ o, ((w.alloc (.cells (madeCells #[.slice none 0 0, .int .i64 0] (n * 2)) 59)).alloc (.cells #[.slice none 0 0, .slice (some ⟨w.heap.size, 0, none⟩) n n] 55)).cell? ⟨w.heap.size, o, none⟩ = (madeCells #[.slice none 0 0, .int .i64 0] (n * 2))[o]? := fun o => by simp [go_sem]
  refine ⟨fun _ => none, fun _ => 0, .inr rfl, .inl rfl, by omega, ?_, fun o => by simp [go_sem], fun o => by simp [go_sem], GrpX.new_ok hn, by simp [go_sem, GrpX.new], ?_, ?_, fun j _ => World.ownsRow_nil _ _ _ _, (fun _ _ _ e => by cases e), (fun _ _ _ _ _ _ _ e => by cases e)⟩
  · rintro z (rfl | rfl)
    · simp
      omega
    · simp
  · intro j hj
    cases j with
    | zero => simp [gloc, go_sem, GrpX.new]
    | succ j =>
      rw [gloc_succ, hq, made_at (by have : j + 1 ≤ n := hj; omega)]
      have e : j * 2 % 2 = 0 := by omega
      simp [GrpX.new, e]
  · intro j hj
    rw [hq, made_at (by have : j < n := hj; omega)]
    have e : (j * 2 + 1) % 2 = 1 := by omega
    simp [GrpX.new, e]
theorem new_yes {m : Nat} (n : Nat) (w : World) (hm : m = n + 1) (hn : n ≤ 4) :
    Calls Try.prog 10 #[.int .i64 (m : Int)] w (NewG n w) := by
  obtain ⟨i0, hi, hz0, hz1, hz2⟩ := info_parts Try.infoFol
  have hmk := run_make (P := Try.prog) w 53 59 i0 (.agg #[.slice none 0 0, .int .i64 0]) Try.underlying53 hi hz0 .i64 .i64 n n (by omega) (Int.le_refl _) (by rw [hz2]; omega) (by omega)
  rw [hz1, Int.toNat_natCast, show (Value.agg #[.slice none 0 0, .int .i64 0]).cells = #[.slice none 0 0, .int .i64 0] from by kernel_rfl] at hmk
  have n1 : ¬ (m : Int) < 1 := by omega
  have n2 : ¬ 5 < (m : Int) := by omega
  rw [show (n : Int) = (m : Int) - 1 by omega] at hmk
  have HI := Lib.hid (new_in w hn)
  generalize hcs : madeCells #[.slice none 0 0, .int .i64 0] (n * 2) = cs at HI hmk
  clear hm hi hz0 hz1 hz2 hcs
  go_enter Try.func10, Try.ntmps10
  go_wp2_with fail
  go_ret2
  exact ⟨w.heap.size + 1, w.heap.size, fun z => z = w.heap.size ∨ z = w.heap.size + 1, rfl, HI.out, (by rintro z (rfl | rfl) <;> omega), ((Below.refl _ _).alloc (Nat.le_refl _) _).alloc (by simp) _⟩
theorem new_no (n : Int) (w : World) (h : n < 1 ∨ 5 < n) :
    Calls Try.prog 10 #[.int .i64 n] w fun e w' => e = .returned (.tuple #[.pointer none, .int .i64 1]) ∧ w' = w := by
  by_cases h0 : n < 1
  · clear h
    go_enter Try.func10, Try.ntmps10
    go_wp2_with fail
    go_ret2
    exact ⟨rfl, rfl⟩
  · have h2 : 5 < n := by omega
    clear h
    go_enter Try.func10, Try.ntmps10
    go_wp2_with fail
    go_ret2
    exact ⟨rfl, rfl⟩
end Go.Proofs.Ytkgbaaaklijopaa
