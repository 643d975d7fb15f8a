/- wytop.begun. -/
import Derived.Test.YteimdhkajbldjaaSFine
set_option linter.unusedVariables false
set_option linter.unusedSimpArgs false
set_option maxRecDepth 100000
namespace Go.Proofs.Yteimdhkajbldjaa
open Go.RowKit Go.Sort

def recZ : RecL := ⟨⟨#[97]⟩, 0, [], []⟩
theorem recZ_ok : recZ.Ok := RecL.okBare (by decide) (by decide)
theorem recZ_in (w : World) : recZ.in_ At.none w := (NewRec.none 0 w ⟨#[97]⟩ 0).in_
set_option maxHeartbeats 1000000 in
theorem topBegun_is (w : World) : Calls Try.prog 23 #[] w fun e w' => e = .returned (.bool true) ∧ Below w.heap.size w w' := by
  have h0 : stErr ([] : List VerL) = 0 := stErr_ok.2 ⟨Nat.zero_le _, stOk_nil⟩
  obtain ⟨p1, p2⟩ := putErr_yes (l := []) (r := recZ) h0 ((recZ.err_ok).2 recZ_ok) (by rw [same_nil]; omega)
  have HP := Lib.hid (put_is (n := 0) 0 recZ At.none w (VsAt.nil w none) (Nat.zero_le _) (recZ_in w) p2 p1)
  clear h0 p1 p2
  go_enter Try.func23, Try.ntmps23
  go_wp2_with fail
  refine HP.out.mono ?_
  rintro e w1 ⟨A, m, c', rfl, hnw, hb1⟩
  obtain rfl : m = 1 := hnw.at_.len
  have HB1 := Lib.hid hb1
  clear hnw hb1
  go_wp2_with fail
  go_ret
  exact ⟨rfl, HB1.out⟩
end Go.Proofs.Yteimdhkajbldjaa
