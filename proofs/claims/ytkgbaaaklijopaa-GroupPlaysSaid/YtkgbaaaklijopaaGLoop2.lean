/- A group in a walk: what is told, lost, had, and what is refused. -/
import Derived.Test.YtkgbaaaklijopaaGLoop
set_option linter.unusedVariables false
set_option linter.unusedSimpArgs false
set_option maxRecDepth 100000
namespace Go.Proofs.Ytkgbaaaklijopaa
open Go.RowKit Go.Sort

theorem LpG.tellingNo {S p q : Nat} {w3 w : World} {X : GrpX} {i m : Int} {j : Nat} (h : LpG S p q w3 X w) (hi : i = ((j + 1 : Nat) : Int)) (hj : j < X.n) (hm : m < 0 ∨ ((X.L (j + 1)).length : Int) < m ∨ ((X.L 0).length : Int) < m) :
    Calls Try.prog 11 #[ptr p, .int .i64 i, .int .i64 m] w fun e w' => e = .returned (.int .i64 1) ∧ LpG S p q w3 X w' := by
  have h' := h
  obtain ⟨O, h1, _⟩ := h
  refine (ack_arg h1 hi hj hm).mono ?_
  rintro e w' ⟨rfl, rfl⟩
  exact ⟨rfl, h'⟩
theorem LpG.losing {S p q : Nat} {w3 w : World} {X X' : GrpX} {i : Int} {j m : Nat} (h : LpG S p q w3 X w) (hS : S ≤ w3.heap.size) (hi : i = ((j + 1 : Nat) : Int)) (hj : j < X.n) (ht : X.told (j + 1) ≤ m) (hm : m ≤ (X.L (j + 1)).length) (hX : X.setL (j + 1) ((X.L (j + 1)).take m) = X') :
    Calls Try.prog 22 #[ptr p, .int .i64 i, .int .i64 (m : Int)] w fun e w' => e = .returned (.int .i64 0) ∧ LpG S p q w3 X' w' := by
  obtain ⟨O, h1, h2, h3⟩ := h
  refine (lose_yes h1 hi hj ht hm).mono ?_
  rintro e w' ⟨rfl, hg⟩
  rw [hX] at hg
  exact ⟨rfl, LpG.step h1 h2 h3 hS hg⟩
theorem LpG.losingNo {S p q : Nat} {w3 w : World} {X : GrpX} {i m : Int} {j : Nat} (h : LpG S p q w3 X w) (hi : i = ((j + 1 : Nat) : Int)) (hj : j < X.n) (hm : m < (X.told (j + 1) : Int) ∨ ((X.L (j + 1)).length : Int) < m) :
    Calls Try.prog 22 #[ptr p, .int .i64 i, .int .i64 m] w fun e w' => e = .returned (.int .i64 1) ∧ LpG S p q w3 X w' := by
  have h' := h
  obtain ⟨O, h1, _⟩ := h
  refine (lose_arg h1 hi hj hm).mono ?_
  rintro e w' ⟨rfl, rfl⟩
  exact ⟨rfl, h'⟩
/-- what Log leaves -/
def LogTo (S p q : Nat) (w3 : World) (X : GrpX) (l : List ByteArray) (n : Nat) (w : World) (e : Ending) (w' : World) : Prop := ∃ A c, e = .returned (.tuple #[.slice A n c, .int .i64 0]) ∧ n ≤ c ∧ c ≤ maxLen ∧ LpS S p q w3 X A l w' ∧ Below w.heap.size w w'
theorem LpS.of {S p q n : Nat} {w3 w w' : World} {X : GrpX} {l : List ByteArray} {A : Option Addr} {c : Nat} (h : LpG S p q w3 X w) (hS : S ≤ w3.heap.size) (ho : OwnS w.heap.size w' (.slice A n c) l) (hn : l.length = n) (hb : Below w.heap.size w w') : n ≤ c ∧ c ≤ maxLen ∧ LpS S p q w3 X A l w' := by
  obtain ⟨O, h1, h2, h3⟩ := h
  subst hn
  obtain ⟨k1, k2, k3⟩ := OwnS.sl ho
  refine ⟨k2, k3, O, h1.below hb, h2, h3.trans (hb.mono (Nat.le_trans hS h3.size)), k1, fun d e => ?_⟩
  have := World.ownsRow.lt ho d.block (by rw [e]; rfl)
  exact ⟨fun k => by have := h1.lt _ k; omega, this.2⟩
theorem LpG.logging {S p q n : Nat} {w3 w : World} {X : GrpX} {i : Int} {j : Nat} {l : List ByteArray} (h : LpG S p q w3 X w) (hS : S ≤ w3.heap.size) (hi : i = ((j + 1 : Nat) : Int)) (hj : j < X.n) (hl : X.L (j + 1) = l) (hn : l.length = n) :
    Calls Try.prog 26 #[ptr p, .int .i64 i] w (LogTo S p q w3 X l n w) := by
  have h' := h
  obtain ⟨O, h1, h2, h3⟩ := h
  refine (log_yes h1 hi hj).mono ?_
  rintro e w' ⟨A, c, rfl, ho, hb⟩
  rw [hl] at ho
  rw [hl, hn]
  rw [hn] at ho
  obtain ⟨k1, k2, k3⟩ := LpS.of h' hS ho hn hb
  exact ⟨A, c, rfl, k1, k2, k3, hb⟩
theorem LpG.logging0 {S p q n : Nat} {w3 w : World} {X : GrpX} {l : List ByteArray} (h : LpG S p q w3 X w) (hS : S ≤ w3.heap.size) (hl : X.L 0 = l) (hn : l.length = n) :
    Calls Try.prog 26 #[ptr p, .int .i64 0] w (LogTo S p q w3 X l n w) := by
  have h' := h
  obtain ⟨O, h1, h2, h3⟩ := h
  refine (log_zero h1).mono ?_
  rintro e w' ⟨A, c, rfl, ho, hb⟩
  rw [hl] at ho
  rw [hl, hn]
  rw [hn] at ho
  obtain ⟨k1, k2, k3⟩ := LpS.of h' hS ho hn hb
  exact ⟨A, c, rfl, k1, k2, k3, hb⟩
theorem LpG.takingNo {S p q m c : Nat} {w3 w : World} {X : GrpX} {i f : Int} {j : Nat} {A : Option Addr} {l : List ByteArray} {er : Int} (h : LpG S p q w3 X w) (hS : S ≤ w3.heap.size) (hi : i = ((j + 1 : Nat) : Int)) (hj : j < X.n) (hs : SlS w A l) (hm : l.length = m) (hmc : m ≤ c) (he : takeE (X.L (j + 1)) l f = er) (h0 : er ≠ 0) :
    Calls Try.prog 19 #[ptr p, .int .i64 i, .int .i64 f, .slice A m c] w fun e w' => e = .returned (.tuple #[.int .i64 0, .int .i64 er]) ∧ LpG S p q w3 X w' ∧ Below w.heap.size w w' := by
  have h' := h
  obtain ⟨O, h1, h2, h3⟩ := h
  refine (take_no h1 hi hj hs hm hmc he h0).mono ?_
  rintro e w' ⟨rfl, hb⟩
  exact ⟨rfl, h'.below hS hb, hb⟩
/-- .. of a list that lies where the group doesn't -/
theorem LpG.takingAt {S p q m c F : Nat} {w3 w : World} {X X' : GrpX} {i : Int} {j K : Nat} {A : Option Addr} {l L' : List ByteArray} (h : LpG S p q w3 X w) (hS : S ≤ w3.heap.size) (hi : i = ((j + 1 : Nat) : Int)) (hj : j < X.n) (hs : SlS w A l) (hm : l.length = m) (hmc : m ≤ c) (he : takeE (X.L (j + 1)) l (F : Int) = 0)
    (hL : takeL (X.L (j + 1)) l F = L') (hK : L'.length = K) (hX : X.setL (j + 1) L' = X') :
    Calls Try.prog 19 #[ptr p, .int .i64 i, .int .i64 (F : Int), .slice A m c] w fun e w' => e = .returned (.tuple #[.int .i64 (K : Int), .int .i64 0]) ∧ LpG S p q w3 X' w' := by
  obtain ⟨O, h1, h2, h3⟩ := h
  refine (take_yes h1 hi hj hs hm hmc he).mono ?_
  rintro e w' ⟨rfl, hg⟩
  rw [hL, hK]
  rw [hL, hX] at hg
  exact ⟨rfl, LpG.step h1 h2 h3 hS hg⟩
end Go.Proofs.Ytkgbaaaklijopaa
