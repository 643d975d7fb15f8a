/- What a program does that does anything; two groups at once; GroupOne. -/
import Derived.Test.YtkgbaaaklijopaaGSure
set_option linter.unusedVariables false
set_option linter.unusedSimpArgs false
set_option maxRecDepth 100000
namespace Go.Proofs.Ytkgbaaaklijopaa
open Go.RowKit Go.Sort

theorem sure_is {w : World} {O : Nat → Prop} {p q s : Nat} {X : GrpX} (h : Grp w O p q X) (hs : IsSure X.tolds s) :
    Calls Try.prog 24 #[ptr p] w fun e w' => e = .returned (.int .i64 (s : Nat)) ∧ Below w.heap.size w w' := by
  refine (sure_any h).mono ?_
  rintro e w' ⟨s', rfl, h', hb⟩
  rw [hs.eq h']
  exact ⟨rfl, hb⟩
theorem tolds_0 {X : GrpX} (h : X.n = 0) : X.tolds = [(X.L 0).length] := by unfold GrpX.tolds; rw [h]; rfl
theorem tolds_1 {X : GrpX} (h : X.n = 1) : X.tolds = [(X.L 0).length, X.told 1] := by unfold GrpX.tolds; rw [h]; rfl
theorem tolds_2 {X : GrpX} (h : X.n = 2) : X.tolds = [(X.L 0).length, X.told 1, X.told 2] := by unfold GrpX.tolds; rw [h]; rfl
theorem sure_0 {X : GrpX} (h : X.n = 0) : IsSure X.tolds (X.L 0).length := by rw [tolds_0 h]; unfold IsSure; simp
theorem sure_1 {X : GrpX} (h : X.n = 1) (h0 : X.told 1 = 0) : IsSure X.tolds 0 := by
  rw [tolds_1 h, h0]
  unfold IsSure
  have : List.countP (fun x => decide (0 < x)) [(X.L 0).length, 0] ≤ 1 := by
    rw [List.countP_cons]
    simp
    split <;> omega
  simp at this ⊢
  omega

/-- block p is a group that has X; since the world w3 nothing has changed that lay below block S -/
def LpG (S p q : Nat) (w3 : World) (X : GrpX) (w : World) : Prop := ∃ O, Grp w O p q X ∧ (∀ z, O z → S ≤ z) ∧ Below S w3 w
theorem LpG.ok {S p q : Nat} {w3 w : World} {X : GrpX} (h : LpG S p q w3 X w) : X.Ok := by
  obtain ⟨O, h, _⟩ := h
  exact h.ok
theorem LpG.base {S p q : Nat} {w3 w : World} {X : GrpX} (h : LpG S p q w3 X w) : Below S w3 w := by
  obtain ⟨O, _, _, h⟩ := h
  exact h
theorem LpG.below {S p q : Nat} {w3 w w' : World} {X : GrpX} (h : LpG S p q w3 X w) (hS : S ≤ w3.heap.size) (hb : Below w.heap.size w w') : LpG S p q w3 X w' := by
  obtain ⟨O, h1, h2, h3⟩ := h
  exact ⟨O, h1.below hb, h2, h3.trans (hb.mono (Nat.le_trans hS h3.size))⟩
theorem LpG.step {S p q : Nat} {w3 w w' : World} {X X' : GrpX} {O : Nat → Prop} (h1 : Grp w O p q X) (h2 : ∀ z, O z → S ≤ z) (h3 : Below S w3 w) (hS : S ≤ w3.heap.size) (hg : GTo O p q X' w w') : LpG S p q w3 X' w' := by
  obtain ⟨O', g1, g2, g3⟩ := hg
  have hw := Nat.le_trans hS h3.size
  refine ⟨O', g1, fun z hz => ?_, h3.trans (g3.to (fun z hz k => ?_) hw)⟩
  · rcases g2 z hz with k | k
    · exact h2 z k
    · omega
  · have := h2 z k
    omega

set_option maxHeartbeats 1000000 in
theorem begun_is (w : World) : Calls Try.prog 27 #[] w fun e w' => e = .returned (.bool true) ∧ Below w.heap.size w w' := by
  have HN := Lib.hid (new_yes (m := 3) 2 w rfl (by omega))
  go_enter Try.func27, Try.ntmps27
  go_wp2_with fail
  refine HN.out.mono ?_
  rintro e w1 ⟨p, q, O, rfl, hg, hO, hb⟩
  have HA := Lib.hid (add_yes (s := ⟨#[97]⟩) hg (by decide))
  have HL := Lib.hid (And.intro hg (And.intro hO hb))
  clear hg hO hb HN
  go_wp2_with fail
  refine HA.out.mono ?_
  rintro e w2 ⟨rfl, hg⟩
  have h2 := LpG.step HL.out.1 HL.out.2.1 HL.out.2.2 (Nat.le_refl _) hg
  obtain ⟨O2, k1, k2, k3⟩ := h2
  have HS := Lib.hid (sure_is (s := 0) k1 (by rw [tolds_2 rfl]; unfold IsSure; decide))
  have HB := Lib.hid k3
  clear hg k1 k2 k3 HA HL
  go_wp2_with fail
  refine HS.out.mono ?_
  rintro e w3 ⟨rfl, hb3⟩
  have HB3 := Lib.hid (HB.out.trans (hb3.mono HB.out.size))
  clear hb3
  go_wp2_with fail
  go_ret
  exact ⟨rfl, HB3.out⟩
end Go.Proofs.Ytkgbaaaklijopaa
