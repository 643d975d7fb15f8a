/- Contracts in the form in which the laws use them. -/
import Derived.Test.YteimdhkajbldjaaGreatSGet
import Derived.Test.YteimdhkajbldjaaGreatSCut
import Derived.Test.YteimdhkajbldjaaGreatSPut2
import Derived.Test.YteimdhkajbldjaaGreatSSame
import Derived.Test.YteimdhkajbldjaaGreatSMath2
set_option linter.unusedVariables false
set_option linter.unusedSimpArgs false
set_option maxRecDepth 100000
namespace Go.Proofs.YteimdhkajbldjaaGreat
open Go.RowKit Go.Sort

/-- what is left of a number by a mask of eight bits -/
def mk8 (k : Int) : Nat := (k % 256).toNat
theorem mk8_eq (k : Int) : bits .and .i64 k 255 = ((mk8 k : Nat) : Int) := (i64_and_any k 255 8 rfl (by omega)).trans (by unfold mk8; omega)
theorem mk8_le (k : Int) : mk8 k ≤ 255 := by unfold mk8; omega
theorem prt_fine {vs : List VerL} (h : stErr vs = 0) {s : Nat} (hs : s ≤ 255) : prtL vs s = prt vs s ∧ prtErr vs s = 0 := by
  have e : prtErr vs s = 0 := prtErr_ok.2 ⟨h, by omega, by omega⟩
  exact ⟨by unfold prtL; rw [if_pos e], e⟩
/-- a part, of a store that may be -/
theorem part_is {n : Nat} {a : Option Addr} {vs : List VerL} (c : Nat) (s : Nat) (w : World) (h : VsAt w a n vs) (hst : stErr vs = 0) (hs : s ≤ 255) :
    Calls Tryz.prog 49 #[.slice a n c, .int .i64 (s : Int)] w (ListTo (prt vs s) 0 w) :=
  prt_is c s w h (by have := h.len; have := (stErr_ok.1 hst).1; unfold maxLen; omega) (prt_fine hst hs).1 (prt_fine hst hs).2
/-- are two stores the same? -/
theorem alike_is {b : Bool} {n m : Nat} {a a' : Option Addr} {vs us : List VerL} (c c' : Nat) (w : World) (h : VsAt w a n vs) (h' : VsAt w a' m us) (h1 : stErr vs = 0) (h2 : stErr us = 0) (hb : decide (vs = us) = b) :
    Calls Tryz.prog 19 #[.slice a n c, .slice a' m c'] w fun e w' => e = .returned (.bool b) ∧ Below w.heap.size w w' :=
  sameS_is c c' w h h' (by have := h.len; have := (stErr_ok.1 h1).1; unfold maxLen; omega) (by have := h'.len; have := (stErr_ok.1 h2).1; unfold maxLen; omega) hb


/-- a record in its box -/
def BoxAt (w : World) (b : Nat) (r : RecL) (p : At) : Prop := w.cell? ⟨b, 0, none⟩ = some (.string r.id) ∧ w.cell? ⟨b, 1, none⟩ = some (.int .i64 r.cats) ∧ w.cell? ⟨b, 2, none⟩ = some (.slice p.fa r.fs.length p.fc) ∧ w.cell? ⟨b, 3, none⟩ = some (.slice p.ra r.rs.length p.rc)
theorem BoxAt.below {w w' : World} {b : Nat} {r : RecL} {p : At} (h : BoxAt w b r p) (hb : Below w.heap.size w w') : BoxAt w' b r p := by
  obtain ⟨h0, h1, h2, h3⟩ := h
  obtain ⟨hc, _⟩ := bcell hb
  exact ⟨(hc _ _ (cell_lt h0)).trans h0, (hc _ _ (cell_lt h1)).trans h1, (hc _ _ (cell_lt h2)).trans h2, (hc _ _ (cell_lt h3)).trans h3⟩
theorem BoxAt.alloc {w : World} {b : Nat} {r : RecL} {p : At} (h : BoxAt w b r p) (o : Obj) : BoxAt (w.alloc o) b r p := h.below ((Below.refl _ _).alloc (Nat.le_refl _) _)
theorem BoxAt.new (w : World) (r : RecL) (p : At) (t : TypeId) : BoxAt (w.alloc (.cells #[.string r.id, .int .i64 r.cats, .slice p.fa r.fs.length p.fc, .slice p.ra r.rs.length p.rc] t)) w.heap.size r p := by
  refine ⟨?_, ?_, ?_, ?_⟩ <;> simp [go_sem]

theorem put_fine {n : Nat} {er : Int} {R : List VerL} {a : Option Addr} {vs : List VerL} (c : Nat) (r : RecL) (p : At) (w : World) (h : VsAt w a n vs) (hst : stErr vs = 0) (hi : r.in_ p w) (hR : putL vs r = R) (he : putErr vs r = er) :
    Calls Tryz.prog 67 #[.slice a n c, r.v p] w (ListTo R er w) :=
  put_is c r p w h (by have := h.len; have := (stErr_ok.1 hst).1; unfold maxLen; omega) hi hR he
theorem cut_fine {n : Nat} {er : Int} {R : List VerL} {a : Option Addr} {vs : List VerL} (c : Nat) (id : ByteArray) (ct : Int) (w : World) (h : VsAt w a n vs) (hst : stErr vs = 0) (hR : cutL vs id ct = R) (he : cutErr vs id ct = er) :
    Calls Tryz.prog 102 #[.slice a n c, .string id, .int .i64 ct] w (ListTo R er w) :=
  cut_is c id ct w h (by have := h.len; have := (stErr_ok.1 hst).1; unfold maxLen; omega) hR he
theorem get_fine {n : Nat} {er : Int} {R : RecL} {a : Option Addr} {vs : List VerL} (c : Nat) (id : ByteArray) (w : World) (h : VsAt w a n vs) (hst : stErr vs = 0) (hR : getR vs id = R) (he : getErr vs id = er) :
    Calls Tryz.prog 68 #[.slice a n c, .string id] w (GetTo R er w) :=
  get_is c id w h (by have := h.len; have := (stErr_ok.1 hst).1; unfold maxLen; omega) hR he
theorem hist_fine {n : Nat} {er : Int} {R : List VerL} {a : Option Addr} {vs : List VerL} (c : Nat) (id : ByteArray) (w : World) (h : VsAt w a n vs) (hst : stErr vs = 0) (hR : hist vs id = R) (he : histErr vs id = er) :
    Calls Tryz.prog 105 #[.slice a n c, .string id] w (ListTo R er w) :=
  hist_is c id w h (by have := h.len; have := (stErr_ok.1 hst).1; unfold maxLen; omega) (by unfold histL; rw [if_neg (fun k => k hst)]; exact hR) he
theorem histErr_two {l : List VerL} (h : stErr l = 0) (id : ByteArray) : (hist l id = [] ∧ histErr l id = 4) ∨ (hist l id ≠ [] ∧ histErr l id = 0) := by
  unfold histErr
  rw [if_neg (fun k => k h)]
  by_cases he : hist l id = []
  · exact .inl ⟨he, by rw [if_pos he]⟩
  · exact .inr ⟨he, by rw [if_neg he]⟩
theorem putL_no {l : List VerL} {r : RecL} (h : putErr l r ≠ 0) : putL l r = [] := by unfold putL; rw [if_neg h]
theorem putL_yes {l : List VerL} {r : RecL} (h : putErr l r = 0) : putL l r = l ++ [⟨r, false⟩] := by unfold putL; rw [if_pos h]
theorem cutL_no {l : List VerL} {id : ByteArray} {c : Int} (h : cutErr l id c ≠ 0) : cutL l id c = [] := by unfold cutL; rw [if_neg h]
theorem cutL_yes {l : List VerL} {id : ByteArray} {c : Int} (h : cutErr l id c = 0) : cutL l id c = l ++ [goneV id c] := by unfold cutL; rw [if_pos h]
theorem stErr_put {l : List VerL} {r : RecL} (h : putErr l r = 0) (hn : l.length < 5120) : stErr (l ++ [⟨r, false⟩]) = 0 := by
  obtain ⟨h1, h2, h3⟩ := putErr_ok.1 h
  exact stErr_ok.2 ⟨by rw [List.length_append]; simp; omega, StOk.put (stErr_ok.1 h1).2 h2 h3⟩
theorem stErr_cut {l : List VerL} {id : ByteArray} {c : Int} (h : cutErr l id c = 0) (hn : l.length < 5120) : stErr (l ++ [goneV id c]) = 0 := by
  obtain ⟨h1, h2, h3, h4, h5⟩ := cutErr_ok.1 h
  exact stErr_ok.2 ⟨by rw [List.length_append]; simp; omega, StOk.cut (stErr_ok.1 h1).2 h2 h3 h4 h5⟩
end Go.Proofs.YteimdhkajbldjaaGreat
