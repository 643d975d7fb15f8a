/- Versions in memory. -/
import Derived.Test.YteimdhkajbldjaaGreatSMath
import Derived.Test.YteimdhkajbldjaaGreatRCheck
import Derived.Test.YteimdhkajbldjaaGreatRClone
set_option linter.unusedVariables false
set_option linter.unusedSimpArgs false
set_option maxRecDepth 100000
namespace Go.Proofs.YteimdhkajbldjaaGreat
open Go.RowKit Go.Sort

/-- a version, and where its lists lie -/
structure PV where
  v : VerL
  p : At
def PV.cells (x : PV) : List Value := [.string x.v.r.id, .int .i64 x.v.r.cats, .slice x.p.fa x.v.r.fs.length x.p.fc, .slice x.p.ra x.v.r.rs.length x.p.rc, .bool x.v.gone]
abbrev PV.val (x : PV) : Value := .agg #[.string x.v.r.id, .int .i64 x.v.r.cats, .slice x.p.fa x.v.r.fs.length x.p.fc, .slice x.p.ra x.v.r.rs.length x.p.rc, .bool x.v.gone]
abbrev PV.in_ (x : PV) (w : World) : Prop := x.v.r.in_ x.p w
abbrev PV.box (x : PV) (w : World) : World := w.alloc (.cells #[.string x.v.r.id, .int .i64 x.v.r.cats, .slice x.p.fa x.v.r.fs.length x.p.fc, .slice x.p.ra x.v.r.rs.length x.p.rc, .bool x.v.gone] 55)
theorem PV.box_below (x : PV) (w : World) : Below w.heap.size w (x.box w) := (Below.refl _ _).alloc (Nat.le_refl _) _

theorem cellsVer : Tryz.prog.cellsOf 55 = 5 := by kernel_rfl

set_option maxHeartbeats 400000 in
theorem spot_any (x : PV) (w : World) : Calls Tryz.prog 111 #[x.val] w fun e w' => e = .returned (.agg #[.string x.v.r.id, .int .i64 x.v.r.cats]) ∧ Below w.heap.size w w' ∧ w'.heap.size = w.heap.size + 2 := by
  go_enter Tryz.func111, Tryz.ntmps111
  go_wp2_with fail
  exact bodyPost_ret (v := .agg #[.string x.v.r.id, .int .i64 x.v.r.cats]) (by simp [results, Tryz.results111, go_sem]) rfl ⟨rfl, ((Below.refl _ _).alloc (Nat.le_refl _) _).alloc (by simp) _, by simp⟩
end Go.Proofs.YteimdhkajbldjaaGreat
