/- Write and Read with their answers named; what Read answers. -/
import Derived.Test.YtepenlciaanoeaaGreatDoorRWrite
import Derived.Test.YtepenlciaanoeaaGreatDoorRRead
import Derived.Test.YtepenlciaanoeaaGreatDoorREq
set_option linter.unusedVariables false
set_option linter.unusedSimpArgs false
set_option maxRecDepth 100000
namespace Go.Proofs.YtepenlciaanoeaaGreatDoor
open Go.RowKit Go.Sort

/-- a record's four cells at block b -/
structure Held (r : RecL) (p : At) (b : Nat) (w : World) : Prop where
  c0 : w.cell? ⟨b, 0, none⟩ = some (.string r.id)
  c1 : w.cell? ⟨b, 1, none⟩ = some (.int .i64 r.cats)
  c2 : w.cell? ⟨b, 2, none⟩ = some (.slice p.fa r.fs.length p.fc)
  c3 : w.cell? ⟨b, 3, none⟩ = some (.slice p.ra r.rs.length p.rc)
theorem Held.lt {r : RecL} {p : At} {b : Nat} {w : World} (h : Held r p b w) : b < w.heap.size := cell_lt h.c0
theorem Held.below {r : RecL} {p : At} {b : Nat} {w w' : World} (h : Held r p b w) (hb : Below w.heap.size w w') : Held r p b w' := by
  obtain ⟨hc, _⟩ := bcell hb
  exact ⟨(hc _ _ h.lt).trans h.c0, (hc _ _ h.lt).trans h.c1, (hc _ _ h.lt).trans h.c2, (hc _ _ h.lt).trans h.c3⟩

theorem held_new (r : RecL) (p : At) (w : World) : Held r p w.heap.size (w.alloc (.cells #[.string r.id, .int .i64 r.cats, .slice p.fa r.fs.length p.fc, .slice p.ra r.rs.length p.rc] 39)) := ⟨by simp [go_sem], by simp [go_sem], by simp [go_sem], by simp [go_sem]⟩

theorem write_is {S : ByteArray} {er : Int} (r : RecL) (p : At) (w : World) (hE : Env w) (hi : r.in_ p w) (hS : wrS r = S) (he : r.err = er) :
    Calls Tryz.prog 177 #[r.v p] w fun e w' => e = .returned (.tuple #[.string S, .int .i64 er]) ∧ Below w.heap.size w w' := by
  have := write_any r p w hE hi
  rw [hS, he] at this
  exact this
theorem read_is {R : RecL} {er : Int} (s : ByteArray) (w : World) (hE : Env w) (hs : s.size < 4294967281) (hR : rdRec s.data.toList = R) (he : rdErr s.data.toList = er) :
    Calls Tryz.prog 38 #[.string s] w fun e w' => ∃ p' : At, e = .returned (.tuple #[R.v p', .int .i64 er]) ∧ R.in_ p' w' ∧ Below w.heap.size w w' := by
  have := read_any s w hE hs
  unfold ReadTo at this
  rw [hR, he] at this
  exact this

theorem read_isN {R : RecL} {er : Int} (s : ByteArray) (w : World) (hE : Env w) (hs : s.size < 4294967281) (hR : rdRec s.data.toList = R) (he : rdErr s.data.toList = er) :
    Calls Tryz.prog 38 #[.string s] w fun e w' => ∃ p' : At, e = .returned (.tuple #[R.v p', .int .i64 er]) ∧ R.in_ p' w' ∧ Below w.heap.size w w' ∧ p'.from_ (w.heap.size + 1) := by
  have := read_new s w hE hs
  unfold ReadNew at this
  rw [hR, he] at this
  exact this

theorem rd_text {r : RecL} (h : r.err = 0) : rdRec (bs r.text).data.toList = r ∧ rdErr (bs r.text).data.toList = 0 := by
  rw [data_bs]
  unfold rdRec rdErr
  rw [recL_text ((RecL.err_ok r).1 h)]
  exact ⟨if_pos h, h⟩
theorem rd_ok {s : ByteArray} {R : RecL} (hR : rdRec s.data.toList = R) (he : rdErr s.data.toList = 0) : wrS R = s ∧ R.err = 0 := by
  cases h : recL s.data.toList with
  | none =>
    unfold rdErr at he
    rw [h] at he
    exact absurd he (by decide)
  | some x =>
    unfold rdErr at he
    rw [h] at he
    have he : x.err = 0 := he
    have e : x = R := by
      rw [← hR]
      unfold rdRec
      rw [h]
      exact (if_pos he).symm
    subst e
    refine ⟨?_, he⟩
    rw [wrS_ok he, text_recL h, bs_data]
theorem rd_no {s : ByteArray} {R : RecL} {er : Int} (hR : rdRec s.data.toList = R) (he : rdErr s.data.toList = er) (h0 : er ≠ 0) : R = RecL.zero := by
  rw [← hR]
  unfold rdRec
  cases h : recL s.data.toList with
  | none => rfl
  | some x =>
    unfold rdErr at he
    rw [h] at he
    exact if_neg (fun k => h0 (he.symm.trans k))
end Go.Proofs.YtepenlciaanoeaaGreatDoor
