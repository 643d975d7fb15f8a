/- append of lists of strings. -/
import Derived.Test.YtbchfodmdgogjaaGreatDoorROwn
import Derived.Lib.AppendZeros
import Derived.Lib.AppendZerosOnto
import Derived.Lib.SliceRun
set_option linter.unusedVariables false
set_option linter.unusedSimpArgs false
set_option maxRecDepth 100000
namespace Go.Proofs.YtbchfodmdgogjaaGreatDoor
open Go.RowKit Go.Sort

theorem cellsS_append (a b : List ByteArray) : cellsS (a ++ b) = cellsS a ++ cellsS b := by unfold cellsS; rw [List.map_append]

/-- the same, and what is owned by another stays -/
theorem run_appS' {w : World} (ty : TypeId) {B c : Nat} {v : Value} {fs q : List ByteArray} {A : Option Addr} (hown : OwnS B w v fs) (hq : SlS w A q) (hn : fs.length + q.length ≤ 100000) (hB : B ≤ w.heap.size) :
    ∃ A' c' w', (Builtin.append_ #[26, 26] ty #[v, .slice A q.length c]).run Tryz.prog w = .ok (.slice A' (fs ++ q).length c') w' ∧ OwnS B w' (.slice A' (fs ++ q).length c') (fs ++ q) ∧ Below B w w' ∧ ∀ i, i < w.heap.size → v.ownBlock ≠ some i → w'.heap[i]? = w.heap[i]? := by
  obtain ⟨i0, hi, hz0, hz1, hz2⟩ := info_parts Tryz.infoStr
  cases A with
  | none =>
    have h0 : q = [] := by
      cases q with
      | nil => rfl
      | cons f q =>
        obtain ⟨b, off, e, _⟩ := hq 0 f rfl
        cases e
    subst h0
    obtain ⟨A', c', rfl⟩ := hown.form
    refine ⟨A', c', w, ?_, by simpa using hown, Below.refl _ _, fun _ _ _ => rfl⟩
    rcases hown.2 with ⟨e, h0⟩ | ⟨g, cap, cur, e, _, _, hnc, _⟩
    · injection e with e1 e2 e3
      subst e1 e3
      simp [Builtin.append_, run_underlying Tryz.underlying26, sizeOf, typeInfo, hi, Builtin.lenOf, Builtin.firstCells, h0]
    · cases e
      simp [Builtin.append_, run_underlying Tryz.underlying26, sizeOf, typeInfo, hi, Builtin.lenOf, Builtin.firstCells, hnc, storeCells]
  | some ad =>
    obtain ⟨v', w', hrun, hown', hgrow, _⟩ := run_append_own (P := Tryz.prog) w B 26 ty 9 i0 _ 1 16 Tryz.underlying26 hi hz0 hz1 hz2 rfl (by decide) v fs.length (cellsS fs) hown ad q.length c (cellsS q) (cellsS_len q) hq.cells (cellsS_one q) (by unfold maxLen; omega) (by omega) hB
    have ho : OwnS B w' v' (fs ++ q) := by
      unfold OwnS
      rw [cellsS_append, List.length_append]
      exact hown'
    obtain ⟨A', c', rfl⟩ := ho.form
    refine ⟨A', c', w', hrun, ho, ⟨hgrow.os, hgrow.tape, hgrow.output, hgrow.size, fun i hi => hgrow.block i (by omega) fun e => ?_⟩, fun i h1 h2 => hgrow.block i h1 fun e => h2 e.symm⟩
    have := (World.ownsRow.lt hown i e.symm).1
    omega


/-- a list that another owns, from a later block on, stays where one appends -/
theorem SlS.off {w w' : World} {B2 B3 : Nat} {v : Value} {A : Option Addr} {c : Nat} {L : List ByteArray} (ho : OwnS B3 w (.slice A L.length c) L) (hv : ∀ i, v.ownBlock = some i → i < B2) (hB : B2 ≤ B3) (hk : ∀ i, i < w.heap.size → v.ownBlock ≠ some i → w'.heap[i]? = w.heap[i]?) : SlS w' A L := by
  have hs := (OwnS.sl ho).1
  rcases ho.2 with ⟨e, h0⟩ | ⟨g, cap, cur, e, hlo, hg, h1, h2, h3, h4⟩
  · rw [List.eq_nil_of_length_eq_zero h0]
    exact SlS.nil _ _
  · injection e with e1 _ e3
    subst e1
    intro k s hk2
    obtain ⟨b, off, e4, h5⟩ := hs k s hk2
    cases e4
    refine ⟨_, _, rfl, ?_⟩
    have hlt := cell_lt h5
    have hb := hk _ hlt fun e => by have := hv _ e; omega
    rw [← h5]
    simp only [World.cell?, hb]

/-- append of whatever list of strings, nil or not, onto one's own -/
theorem run_appS {w : World} (ty : TypeId) {B c : Nat} {v : Value} {fs q : List ByteArray} {A : Option Addr} (hown : OwnS B w v fs) (hq : SlS w A q) (hn : fs.length + q.length ≤ 100000) (hB : B ≤ w.heap.size) :
    ∃ A' c' w', (Builtin.append_ #[26, 26] ty #[v, .slice A q.length c]).run Tryz.prog w = .ok (.slice A' (fs ++ q).length c') w' ∧ OwnS B w' (.slice A' (fs ++ q).length c') (fs ++ q) ∧ Below B w w' := by
  obtain ⟨A', c', w', h1, h2, h3, _⟩ := run_appS' (c := c) ty hown hq hn hB
  exact ⟨A', c', w', h1, h2, h3⟩
end Go.Proofs.YtbchfodmdgogjaaGreatDoor
