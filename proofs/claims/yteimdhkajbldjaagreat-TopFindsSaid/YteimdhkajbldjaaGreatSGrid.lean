/- Rows of numbers; storeBegun. -/
import Derived.Test.YteimdhkajbldjaaGreatSGet
import Derived.Test.YteimdhkajbldjaaGreatSWithin
set_option linter.unusedVariables false
set_option linter.unusedSimpArgs false
set_option maxRecDepth 100000
namespace Go.Proofs.YteimdhkajbldjaaGreat
open Go.RowKit Go.Sort

/-- a row of numbers: where, which, and how much room -/
structure RowI where
  a : Option Addr
  z : List Int
  c : Nat
def RowI.val (r : RowI) : Value := .slice r.a r.z.length r.c
structure RowI.in_ (r : RowI) (w : World) : Prop where
  at_ : ∀ j x, r.z[j]? = some x → ∃ b off, r.a = some ⟨b, off, none⟩ ∧ w.cell? ⟨b, off + j, none⟩ = some (.int .i64 x)
  le : r.z.length ≤ r.c
  max : r.c ≤ maxLen
theorem RowI.in_.below {r : RowI} {w w' : World} (h : r.in_ w) (hb : Below w.heap.size w w') : r.in_ w' := ⟨fun j x hx => by
  obtain ⟨b, off, e, hc⟩ := h.at_ j x hx
  exact ⟨b, off, e, (hb.cell (p := ⟨b, off + j, none⟩) (cell_lt hc)).trans hc⟩, h.le, h.max⟩
/-- rows, one behind the other -/
def SlG (w : World) (a : Option Addr) (l : List RowI) : Prop :=
  ∀ k r, l[k]? = some r → r.in_ w ∧ ∃ b off, a = some ⟨b, off, none⟩ ∧ w.cell? ⟨b, off + k, none⟩ = some (.slice r.a r.z.length r.c)
theorem SlG.below {w w' : World} {a : Option Addr} {l : List RowI} (h : SlG w a l) (hb : Below w.heap.size w w') : SlG w' a l := fun k r hk => by
  obtain ⟨h1, b, off, e, hc⟩ := h k r hk
  exact ⟨h1.below hb, b, off, e, (hb.cell (p := ⟨b, off + k, none⟩) (cell_lt hc)).trans hc⟩

/-! ## storeBegun -/
def recA : RecL := ⟨⟨#[97]⟩, 1, [], []⟩
theorem recA_ok : recA.Ok := RecL.okBare (by decide) (by decide)
theorem recA_in (w : World) : recA.in_ At.none w := (NewRec.none 0 w ⟨#[97]⟩ 1).in_

set_option maxHeartbeats 1000000 in
theorem begun_is (w : World) : Calls Tryz.prog 21 #[] w fun e w' => e = .returned (.bool true) ∧ Below w.heap.size w w' := by
  have h0 : stErr ([] : List VerL) = 0 := stErr_ok.2 ⟨Nat.zero_le _, stOk_nil⟩
  obtain ⟨p1, p2⟩ := putErr_yes (l := []) (r := recA) h0 ((recA.err_ok).2 recA_ok) (by rw [same_nil]; omega)
  have HP := Lib.hid (put_is (n := 0) 0 recA At.none w (VsAt.nil w none) (Nat.zero_le _) (recA_in w) p2 p1)
  obtain ⟨g1, g2⟩ := get_some (l := [⟨recA, false⟩]) (id := recA.id) (v := ⟨recA, false⟩) (stErr_ok.2 ⟨by decide, StOk.put stOk_nil recA_ok (by rw [same_nil]; omega)⟩) (getV_put [] recA)
  have HG1 := Lib.hid g1
  have HG2 := Lib.hid g2
  clear h0 p1 p2 g1 g2
  go_enter Tryz.func21, Tryz.ntmps21
  go_wp2_with fail
  refine HP.out.mono ?_
  rintro e w1 ⟨A, m, c', rfl, hnw, hb1⟩
  have hcap := hnw.cap
  have hget := get_is c' ⟨#[97]⟩ w1 hnw.at_ (Nat.le_trans hcap.1 hcap.2) HG2.out HG1.out
  have HGET := Lib.hid hget
  have HB1 := Lib.hid hb1
  clear hnw hcap hget hb1
  go_wp2_with fail
  refine HGET.out.mono ?_
  rintro e w2 ⟨p, rfl, hnr, hb2⟩
  have HB2 := Lib.hid (HB1.out.trans (hb2.mono HB1.out.size))
  have l1 : (recA.id.toList == [97]) = true := by decide +kernel
  clear hnr hb2
  go_wp2_with fail
  go_ret
  exact ⟨rfl, HB2.out.alloc HB2.out.size _⟩
end Go.Proofs.YteimdhkajbldjaaGreat
