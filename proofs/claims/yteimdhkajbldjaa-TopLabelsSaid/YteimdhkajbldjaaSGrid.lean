/- Rows of numbers; storeBegun. -/
import Derived.Test.YteimdhkajbldjaaSGet
import Derived.Test.YteimdhkajbldjaaSWithin
set_option linter.unusedVariables false
set_option linter.unusedSimpArgs false
set_option maxRecDepth 100000
namespace Go.Proofs.Yteimdhkajbldjaa
open Go.RowKit Go.Sort

/-- a row of numbers: where, which, and how much room -/
structure RowI where
  a : Option Addr
  z : List Int
  c : Nat
def RowI.val (r : RowI) : Value := .slice r.a r.z.length r.c
structure RowI.in_ (r : RowI) (w : World) : Prop where
  at_ : ∀ j x, r.z[j]? = some x → ∃ b off, r.a = some ⟨b, off, none⟩ ∧ w.cell? ⟨b, off + j, none⟩ = some (.int .i64 x)
  le : r.z.length ≤ r.c
  max : r.c ≤ maxLen
theorem RowI.in_.below {r : RowI} {w w' : World} (h : r.in_ w) (hb : Below w.heap.size w w') : r.in_ w' := ⟨fun j x hx => by
  obtain ⟨b, off, e, hc⟩ := h.at_ j x hx
  exact ⟨b, off, e, (hb.cell (p := ⟨b, off + j, none⟩) (cell_lt hc)).trans hc⟩, h.le, h.max⟩
/-- rows, one behind the other -/
def SlG (w : World) (a : Option Addr) (l : List RowI) : Prop :=
  ∀ k r, l[k]? = some r → r.in_ w ∧ ∃ b off, a = some ⟨b, off, none⟩ ∧ w.cell? ⟨b, off + k, none⟩ = some (.slice r.a r.z.length r.c)
theorem SlG.below {w w' : World} {a : Option Addr} {l : List RowI} (h : SlG w a l) (hb : Below w.heap.size w w') : SlG w' a l := fun k r hk => by
  obtain ⟨h1, b, off, e, hc⟩ := h k r hk
  exact ⟨h1.below hb, b, off, e, (hb.cell (p := ⟨b, off + k, none⟩) (cell_lt hc)).trans hc⟩

/-! ## storeBegun -/
def recA : RecL := ⟨⟨#[97]⟩, 1, [], []⟩
theorem recA_ok : recA.Ok := RecL.okBare (by decide) (by decide)
theorem recA_in (w : World) : recA.in_ At.none w := (NewRec.none 0 w ⟨#[97]⟩ 1).in_

end Go.Proofs.Yteimdhkajbldjaa
