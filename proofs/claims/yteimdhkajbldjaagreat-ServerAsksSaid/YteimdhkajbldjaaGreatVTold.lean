/- wyref.SameTold at two that tell the same. -/
import Derived.Test.YteimdhkajbldjaaGreatSrvB
import Derived.Test.YteimdhkajbldjaaGreatFAll
set_option linter.unusedVariables false
set_option linter.unusedSimpArgs false
set_option maxRecDepth 100000
namespace Go.Proofs.YteimdhkajbldjaaGreat
open Go.RowKit Go.Sort

set_option maxHeartbeats 4000000 in
theorem told_yes {B B' : Nat} (T : ToldL) (P P' : ToldP) (w : World) (h : NewTold B w T P) (h' : NewTold B' w T P') :
    Calls Tryz.prog 17 #[T.v P, T.v P'] w fun e w' => e = .returned (.bool true) ∧ Below w.heap.size w w' := by
  obtain ⟨code, tv, ti, tn⟩ := T
  obtain ⟨va, vc, ia, ic, na, nc⟩ := P
  obtain ⟨va', vc', ia', ic', na', nc'⟩ := P'
  obtain ⟨hv, hi, hn⟩ := h
  obtain ⟨hv', hi', hn'⟩ := h'
  simp only at hv hi hn hv' hi' hn'
  obtain ⟨W, hW⟩ : ∃ W, W = (w.alloc (.cells #[.int .i64 code, .slice va tv.length vc, .slice ia ti.length ic, .slice na tn.length nc] 48)).alloc (.cells #[.int .i64 code, .slice va' tv.length vc', .slice ia' ti.length ic', .slice na' tn.length nc'] 48) := ⟨_, rfl⟩
  have hA : Below w.heap.size w W := by rw [hW]; exact ((Below.refl _ _).alloc (Nat.le_refl _) _).alloc (by simp) _
  have b2 : W.cell? ⟨w.heap.size, 2, none⟩ = some (.slice ia ti.length ic) := by rw [hW]; simp [go_sem]
  have b3 : W.cell? ⟨w.heap.size, 3, none⟩ = some (.slice na tn.length nc) := by rw [hW]; simp [go_sem]
  have d2 : W.cell? ⟨w.heap.size + 1, 2, none⟩ = some (.slice ia' ti.length ic') := by rw [hW]; simp [go_sem]
  have d3 : W.cell? ⟨w.heap.size + 1, 3, none⟩ = some (.slice na' tn.length nc') := by rw [hW]; simp [go_sem]
  have hcv := hv.cap
  have hcv' := hv'.cap
  have HC1 := Lib.hid (sameS_is (b := true) vc vc' W (hv.at_.below hA) (hv'.at_.below hA) (by omega) (by omega) (by simp))
  have hsi := OwnS.at_ hi rfl
  have hsi' := OwnS.at_ hi' rfl
  have hsn := OwnN.sl hn
  have hsn' := OwnN.sl hn'
  have HC2 : Hid (∀ w1, Below W.heap.size W w1 → Calls Tryz.prog 35 #[.slice ia ti.length ic, .slice ia' ti.length ic'] w1 fun e w' => e = .returned (.bool true) ∧ Below w1.heap.size w1 w') := fun w1 hb => by
    have hb' := hA.trans (hb.mono hA.size)
    exact eqS_is (b := true) ia ia' ti ti ic ic' w1 (hsi.1.below hb') (hsi'.1.below hb') (by omega) (by omega) (by simp)
  have HC3 : Hid (∀ w1, Below W.heap.size W w1 → Calls Tryz.prog 63 #[.slice na tn.length nc, .slice na' tn.length nc'] w1 fun e w' => e = .returned (.bool true) ∧ Below w1.heap.size w1 w') := fun w1 hb => by
    have hb' := hA.trans (hb.mono hA.size)
    exact eqN_yes na na' nc nc' tn w1 (hsn.1.below hb') (hsn'.1.below hb') (by omega)
  have HA := Lib.hid hA
  have HW := Lib.hid hW
  have HB := Lib.hid (And.intro b2 (And.intro b3 (And.intro d2 d3)))
  rw [hW] at HC1
  clear hv hi hn hv' hi' hn' hcv hcv' hsi hsi' hsn hsn' hA hW b2 b3 d2 d3
  go_enter Tryz.func17, Tryz.ntmps17
  go_wp2_with fail
  refine HC1.out.mono ?_
  rintro e w1 ⟨rfl, hb1⟩
  rw [← HW.out] at hb1
  have HB1 := Lib.hid hb1
  have HD := Lib.hid (HC2.out w1 hb1)
  obtain ⟨b2, b3, d2, d3⟩ := HB.out
  have e2 := (hb1.cell (p := ⟨w.heap.size, 2, none⟩) (cell_lt b2)).trans b2
  have f2 := (hb1.cell (p := ⟨w.heap.size + 1, 2, none⟩) (cell_lt d2)).trans d2
  clear hb1 HC1 b2 b3 d2 d3
  go_wp2_with fail
  refine HD.out.mono ?_
  rintro e w2 ⟨rfl, hb2⟩
  have hb12 := HB1.out.trans (hb2.mono HB1.out.size)
  have HB2 := Lib.hid hb12
  have HE := Lib.hid (HC3.out w2 hb12)
  obtain ⟨b2, b3, d2, d3⟩ := HB.out
  clear e2 f2
  have e3 := (hb12.cell (p := ⟨w.heap.size, 3, none⟩) (cell_lt b3)).trans b3
  have f3 := (hb12.cell (p := ⟨w.heap.size + 1, 3, none⟩) (cell_lt d3)).trans d3
  clear hb2 hb12 HD b2 b3 d2 d3
  go_wp2_with fail
  refine HE.out.mono ?_
  rintro e w3 ⟨rfl, hb3⟩
  have hb := HB2.out.trans (hb3.mono HB2.out.size)
  have HBF := Lib.hid (HA.out.trans (hb.mono HA.out.size))
  clear hb3 hb
  go_wp2_with fail
  go_ret
  exact ⟨rfl, HBF.out⟩
end Go.Proofs.YteimdhkajbldjaaGreat
