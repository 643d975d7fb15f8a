/- What RuleTimes and RuleKinds lay out: two rules in variables of their own. -/
import Derived.Test.YtpjmhajhmkfolaaSeesLit
import Derived.Test.YtpjmhajhmkfolaaApp
import Derived.Test.YtpjmhajhmkfolaaWithin
import Derived.Deep.RegionHeld3
import Derived.Deep.DrawnRows
import Derived.Deep.Cut
import Derived.Deep.CutRange
set_option linter.unusedVariables false
set_option linter.unusedSimpArgs false
namespace Go.Proofs.Ytpjmhajhmkfolaa
open Go.RowKit
attribute [local go_sem ↓] Go.wp_at_zero Go.wp_at_succ

/-- the two structs that were handed in -/
def XR (w : World) (B : Nat) (x : WhoL) (r : RuleL) : Prop := WhoAt w B x ∧ RuleAt w (B + 1) 0 r
theorem XR.below {w w' : World} {B : Nat} {x : WhoL} {r : RuleL} (h : XR w B x r) (hb : Below w.heap.size w w') : XR w' B x r := ⟨h.1.below hb, h.2.below hb⟩
/-- what the region reads stays as it was -/
theorem keepXR {w w1 w2 : World} {T B : Nat} {x : WhoL} {r : RuleL} (hT0 : w.heap.size ≤ T) (hT1 : (w.heap.size + 1) ≤ T) (h : Below w.heap.size w w1 ∧ T < w1.heap.size ∧ w1.cell? ⟨w.heap.size, 0, none⟩ = some (.int .i64 x.role) ∧ w1.cell? ⟨w.heap.size, 1, none⟩ = some (.int .i64 x.why) ∧ w1.cell? ⟨w.heap.size, 2, none⟩ = some (.int .i64 x.time) ∧ w1.cell? ⟨(w.heap.size + 1), 0, none⟩ = some (.int .i64 r.role) ∧ w1.cell? ⟨(w.heap.size + 1), 1, none⟩ = some (.int .i64 r.why) ∧ w1.cell? ⟨(w.heap.size + 1), 2, none⟩ = some (.int .i64 r.frm) ∧ w1.cell? ⟨(w.heap.size + 1), 3, none⟩ = some (.int .i64 r.til) ∧ w1.cell? ⟨(w.heap.size + 1), 4, none⟩ = some (.int .i64 r.cats) ∧ w1.cell? ⟨(w.heap.size + 1), 5, none⟩ = some (.bool r.allow)) (hb : Below B w1 w2) (hTB : T < B) (hwT : w.heap.size ≤ T) : Below w.heap.size w w2 ∧ T < w2.heap.size ∧ w2.cell? ⟨w.heap.size, 0, none⟩ = some (.int .i64 x.role) ∧ w2.cell? ⟨w.heap.size, 1, none⟩ = some (.int .i64 x.why) ∧ w2.cell? ⟨w.heap.size, 2, none⟩ = some (.int .i64 x.time) ∧ w2.cell? ⟨(w.heap.size + 1), 0, none⟩ = some (.int .i64 r.role) ∧ w2.cell? ⟨(w.heap.size + 1), 1, none⟩ = some (.int .i64 r.why) ∧ w2.cell? ⟨(w.heap.size + 1), 2, none⟩ = some (.int .i64 r.frm) ∧ w2.cell? ⟨(w.heap.size + 1), 3, none⟩ = some (.int .i64 r.til) ∧ w2.cell? ⟨(w.heap.size + 1), 4, none⟩ = some (.int .i64 r.cats) ∧ w2.cell? ⟨(w.heap.size + 1), 5, none⟩ = some (.bool r.allow) := by
  obtain ⟨h0, h1, c0, c1, c2, c3, c4, c5, c6, c7, c8⟩ := h
  exact ⟨h0.trans (hb.mono (by omega)), Nat.lt_of_lt_of_le h1 hb.size, (hb.cell (p := ⟨w.heap.size, 0, none⟩) (Nat.lt_of_le_of_lt hT0 hTB)).trans c0, (hb.cell (p := ⟨w.heap.size, 1, none⟩) (Nat.lt_of_le_of_lt hT0 hTB)).trans c1, (hb.cell (p := ⟨w.heap.size, 2, none⟩) (Nat.lt_of_le_of_lt hT0 hTB)).trans c2, (hb.cell (p := ⟨(w.heap.size + 1), 0, none⟩) (Nat.lt_of_le_of_lt hT1 hTB)).trans c3, (hb.cell (p := ⟨(w.heap.size + 1), 1, none⟩) (Nat.lt_of_le_of_lt hT1 hTB)).trans c4, (hb.cell (p := ⟨(w.heap.size + 1), 2, none⟩) (Nat.lt_of_le_of_lt hT1 hTB)).trans c5, (hb.cell (p := ⟨(w.heap.size + 1), 3, none⟩) (Nat.lt_of_le_of_lt hT1 hTB)).trans c6, (hb.cell (p := ⟨(w.heap.size + 1), 4, none⟩) (Nat.lt_of_le_of_lt hT1 hTB)).trans c7, (hb.cell (p := ⟨(w.heap.size + 1), 5, none⟩) (Nat.lt_of_le_of_lt hT1 hTB)).trans c8⟩
theorem startXR {w w' : World} {T : Nat} {x : WhoL} {r : RuleL} (h : XR w' w.heap.size x r) (hB : Below w.heap.size w w') (hT : T < w'.heap.size) : Below w.heap.size w w'.drew ∧ T < w'.drew.heap.size ∧ w'.drew.cell? ⟨w.heap.size, 0, none⟩ = some (.int .i64 x.role) ∧ w'.drew.cell? ⟨w.heap.size, 1, none⟩ = some (.int .i64 x.why) ∧ w'.drew.cell? ⟨w.heap.size, 2, none⟩ = some (.int .i64 x.time) ∧ w'.drew.cell? ⟨(w.heap.size + 1), 0, none⟩ = some (.int .i64 r.role) ∧ w'.drew.cell? ⟨(w.heap.size + 1), 1, none⟩ = some (.int .i64 r.why) ∧ w'.drew.cell? ⟨(w.heap.size + 1), 2, none⟩ = some (.int .i64 r.frm) ∧ w'.drew.cell? ⟨(w.heap.size + 1), 3, none⟩ = some (.int .i64 r.til) ∧ w'.drew.cell? ⟨(w.heap.size + 1), 4, none⟩ = some (.int .i64 r.cats) ∧ w'.drew.cell? ⟨(w.heap.size + 1), 5, none⟩ = some (.bool r.allow) :=
  ⟨⟨hB.os, hB.tape, hB.output, hB.size, hB.block⟩, hT, h.1.c0, h.1.c1, h.1.c2, h.2.1, h.2.2.1, h.2.2.2.1, h.2.2.2.2.1, h.2.2.2.2.2.1, h.2.2.2.2.2.2⟩

/-- two rules in variables of their own, beside what was handed in -/
def TwoIs (w : World) (x : WhoL) (r a b : RuleL) (ga gb : Nat) (w2 : World) : Prop :=
  (w.heap.size + 1 < ga ∧ w.heap.size + 1 < gb ∧ ga ≠ gb) ∧ RuleAt w2 ga 0 a ∧ RuleAt w2 gb 0 b ∧
    ((∀ i, w2.frozen? ⟨ga, i, none⟩ = false) ∧ (∀ i, w2.frozen? ⟨gb, i, none⟩ = false)) ∧ XR w2 w.heap.size x r ∧ Below w.heap.size w w2
def TwoAt (w : World) (x : WhoL) (r a b : RuleL) (s t : Value) (w2 : World) : Prop :=
  ∃ ga gb, s = .pointer (some ⟨ga, 0, none⟩) ∧ t = .pointer (some ⟨gb, 0, none⟩) ∧ TwoIs w x r a b ga gb w2

theorem below_drew {B : Nat} {a w : World} (h : Below B a w) : Below B a w.drew := ⟨h.os, h.tape, h.output, h.size, h.block⟩
theorem alloc2_facts (w : World) (t : TypeId) (cs ds : Array Value) : (∀ i, ((w.alloc (.cells cs t)).alloc (.cells ds t)).drew.cell? ⟨w.heap.size, i, none⟩ = cs[i]?) ∧ (∀ i, ((w.alloc (.cells cs t)).alloc (.cells ds t)).drew.cell? ⟨w.heap.size + 1, i, none⟩ = ds[i]?) ∧
    (∀ i, ((w.alloc (.cells cs t)).alloc (.cells ds t)).drew.frozen? ⟨w.heap.size, i, none⟩ = false) ∧ (∀ i, ((w.alloc (.cells cs t)).alloc (.cells ds t)).drew.frozen? ⟨w.heap.size + 1, i, none⟩ = false) := by
  refine ⟨fun i => ?_, fun i => ?_, fun i => ?_, fun i => ?_⟩ <;> go_simp
theorem twoAt_ab {w wc : World} {x : WhoL} {r a b : RuleL} (hX : XR wc w.heap.size x r) (hB : Below w.heap.size w wc) (hT : w.heap.size + 1 < wc.heap.size) :
    TwoAt w x r a b (.pointer (some ⟨wc.heap.size, 0, none⟩)) (.pointer (some ⟨wc.heap.size + 1, 0, none⟩)) ((wc.alloc (.cells #[.int .i64 a.role, .int .i64 a.why, .int .i64 a.frm, .int .i64 a.til, .int .i64 a.cats, .bool a.allow] 27)).alloc (.cells #[.int .i64 b.role, .int .i64 b.why, .int .i64 b.frm, .int .i64 b.til, .int .i64 b.cats, .bool b.allow] 27)).drew := by
  obtain ⟨h1, h2, h3, h4⟩ := alloc2_facts wc 27 #[.int .i64 a.role, .int .i64 a.why, .int .i64 a.frm, .int .i64 a.til, .int .i64 a.cats, .bool a.allow] #[.int .i64 b.role, .int .i64 b.why, .int .i64 b.frm, .int .i64 b.til, .int .i64 b.cats, .bool b.allow]
  refine ⟨_, _, rfl, rfl, ⟨hT, by omega, by omega⟩, ⟨h1 0, h1 1, h1 2, h1 3, h1 4, h1 5⟩, ⟨h2 0, h2 1, h2 2, h2 3, h2 4, h2 5⟩, ⟨h3, h4⟩, ?_, ?_⟩
  · exact hX.below (below_drew (((Below.refl _ _).alloc (Nat.le_refl _) _).alloc (by simp) _))
  · exact below_drew ((hB.alloc hB.size _).alloc (by have := hB.size; simp; omega) _)
theorem twoAt_ba {w wc : World} {x : WhoL} {r a b : RuleL} (hX : XR wc w.heap.size x r) (hB : Below w.heap.size w wc) (hT : w.heap.size + 1 < wc.heap.size) :
    TwoAt w x r a b (.pointer (some ⟨wc.heap.size + 1, 0, none⟩)) (.pointer (some ⟨wc.heap.size, 0, none⟩)) ((wc.alloc (.cells #[.int .i64 b.role, .int .i64 b.why, .int .i64 b.frm, .int .i64 b.til, .int .i64 b.cats, .bool b.allow] 27)).alloc (.cells #[.int .i64 a.role, .int .i64 a.why, .int .i64 a.frm, .int .i64 a.til, .int .i64 a.cats, .bool a.allow] 27)).drew := by
  obtain ⟨h1, h2, h3, h4⟩ := alloc2_facts wc 27 #[.int .i64 b.role, .int .i64 b.why, .int .i64 b.frm, .int .i64 b.til, .int .i64 b.cats, .bool b.allow] #[.int .i64 a.role, .int .i64 a.why, .int .i64 a.frm, .int .i64 a.til, .int .i64 a.cats, .bool a.allow]
  refine ⟨_, _, rfl, rfl, ⟨by omega, hT, by omega⟩, ⟨h2 0, h2 1, h2 2, h2 3, h2 4, h2 5⟩, ⟨h1 0, h1 1, h1 2, h1 3, h1 4, h1 5⟩, ⟨h4, h3⟩, ?_, ?_⟩
  · exact hX.below (below_drew (((Below.refl _ _).alloc (Nat.le_refl _) _).alloc (by simp) _))
  · exact below_drew ((hB.alloc hB.size _).alloc (by have := hB.size; simp; omega) _)

theorem frozen_set {w : World} {p : Addr} {v : Value} {q : Addr} : (w.setCell p v).frozen? q = w.frozen? q := by simp
theorem RuleAt.far {w : World} {b o : Nat} {r : RuleL} (h : RuleAt w b o r) {p : Addr} (hp : b ≠ p.block) (v : Value) : RuleAt (w.setCell p v) b o r := by
  have g : ∀ i, (w.setCell p v).cell? ⟨b, i, none⟩ = w.cell? ⟨b, i, none⟩ := fun i => World.cell?_setCell_other w p ⟨b, i, none⟩ v (fun e => hp (by rw [e]))
  unfold RuleAt
  rw [g, g, g, g, g, g]
  exact h
theorem XR.far {w : World} {B : Nat} {x : WhoL} {r : RuleL} (h : XR w B x r) {p : Addr} (hp : B + 1 < p.block) (v : Value) : XR (w.setCell p v) B x r := by
  have g : ∀ i, (w.setCell p v).cell? ⟨B, i, none⟩ = w.cell? ⟨B, i, none⟩ := fun i => World.cell?_setCell_other w p ⟨B, i, none⟩ v (fun e => by rw [e] at hp; simp at hp; omega)
  exact ⟨⟨(g 0).trans h.1.c0, (g 1).trans h.1.c1, (g 2).trans h.1.c2⟩, h.2.far (by omega) v⟩
/-- one field is stored into -/
def RuleL.set (r : RuleL) : Nat → Int → RuleL
  | 2, k => { r with frm := k }
  | 3, k => { r with til := k }
  | 4, k => { r with cats := k }
  | _, _ => r
theorem RuleAt.put {w : World} {g : Nat} {r : RuleL} (h : RuleAt w g 0 r) (i : Nat) (hi : i = 2 ∨ i = 3 ∨ i = 4) (k : Int) : RuleAt (w.setCell ⟨g, i, none⟩ (.int .i64 k)) g 0 (r.set i k) := by
  obtain ⟨h0, h1, h2, h3, h4, h5⟩ := h
  rw [Nat.zero_add] at h1 h2 h3 h4 h5
  have far : ∀ j, j ≠ i → (w.setCell ⟨g, i, none⟩ (.int .i64 k)).cell? ⟨g, j, none⟩ = w.cell? ⟨g, j, none⟩ := fun j hj => World.cell?_setCell_other _ _ _ _ (fun e => hj (by injection e with _ e2 _; exact e2.symm))
  unfold RuleAt
  simp only [Nat.zero_add]
  rcases hi with rfl | rfl | rfl
  · exact ⟨(far 0 (by omega)).trans h0, (far 1 (by omega)).trans h1, World.cell?_setCell_same _ _ _ h2, (far 3 (by omega)).trans h3, (far 4 (by omega)).trans h4, (far 5 (by omega)).trans h5⟩
  · exact ⟨(far 0 (by omega)).trans h0, (far 1 (by omega)).trans h1, (far 2 (by omega)).trans h2, World.cell?_setCell_same _ _ _ h3, (far 4 (by omega)).trans h4, (far 5 (by omega)).trans h5⟩
  · exact ⟨(far 0 (by omega)).trans h0, (far 1 (by omega)).trans h1, (far 2 (by omega)).trans h2, (far 3 (by omega)).trans h3, World.cell?_setCell_same _ _ _ h4, (far 5 (by omega)).trans h5⟩
theorem TwoIs.putA {w w2 : World} {x : WhoL} {r a b : RuleL} {ga gb : Nat} (h : TwoIs w x r a b ga gb w2) (i : Nat) (hi : i = 2 ∨ i = 3 ∨ i = 4) (k : Int) : TwoIs w x r (a.set i k) b ga gb (w2.setCell ⟨ga, i, none⟩ (.int .i64 k)) := by
  obtain ⟨⟨h1, h2, h3⟩, h4, h5, ⟨h6, h7⟩, h8, h9⟩ := h
  exact ⟨⟨h1, h2, h3⟩, h4.put i hi k, h5.far (p := ⟨ga, i, none⟩) (fun e => h3 e.symm) _, ⟨fun j => frozen_set.trans (h6 j), fun j => frozen_set.trans (h7 j)⟩, h8.far (p := ⟨ga, i, none⟩) h1 _, h9.setCell (by show _ ≤ ga; omega) _⟩
theorem TwoIs.putB {w w2 : World} {x : WhoL} {r a b : RuleL} {ga gb : Nat} (h : TwoIs w x r a b ga gb w2) (i : Nat) (hi : i = 2 ∨ i = 3 ∨ i = 4) (k : Int) : TwoIs w x r a (b.set i k) ga gb (w2.setCell ⟨gb, i, none⟩ (.int .i64 k)) := by
  obtain ⟨⟨h1, h2, h3⟩, h4, h5, ⟨h6, h7⟩, h8, h9⟩ := h
  exact ⟨⟨h1, h2, h3⟩, h4.far (p := ⟨gb, i, none⟩) h3 _, h5.put i hi k, ⟨fun j => frozen_set.trans (h6 j), fun j => frozen_set.trans (h7 j)⟩, h8.far (p := ⟨gb, i, none⟩) h2 _, h9.setCell (by show _ ≤ gb; omega) _⟩

theorem TwoIs.drew {w w2 : World} {x : WhoL} {r a b : RuleL} {ga gb : Nat} (h : TwoIs w x r a b ga gb w2) : TwoIs w x r a b ga gb w2.drew :=
  ⟨h.1, h.2.1, h.2.2.1, h.2.2.2.1, ⟨⟨h.2.2.2.2.1.1.c0, h.2.2.2.2.1.1.c1, h.2.2.2.2.1.1.c2⟩, h.2.2.2.2.1.2⟩, below_drew h.2.2.2.2.2⟩
/-- what the region reads stays as it was -/
theorem keepTwo {w w1 w2 : World} {T B : Nat} {x : WhoL} {a b : RuleL} {ga gb : Nat} (hT0 : w.heap.size ≤ T) (hT1 : ga ≤ T) (hT2 : gb ≤ T) (h : Below w.heap.size w w1 ∧ T < w1.heap.size ∧ w1.cell? ⟨w.heap.size, 0, none⟩ = some (.int .i64 x.role) ∧ w1.cell? ⟨w.heap.size, 1, none⟩ = some (.int .i64 x.why) ∧ w1.cell? ⟨w.heap.size, 2, none⟩ = some (.int .i64 x.time) ∧ w1.cell? ⟨ga, 0, none⟩ = some (.int .i64 a.role) ∧ w1.cell? ⟨ga, 1, none⟩ = some (.int .i64 a.why) ∧ w1.cell? ⟨ga, 2, none⟩ = some (.int .i64 a.frm) ∧ w1.cell? ⟨ga, 3, none⟩ = some (.int .i64 a.til) ∧ w1.cell? ⟨ga, 4, none⟩ = some (.int .i64 a.cats) ∧ w1.cell? ⟨ga, 5, none⟩ = some (.bool a.allow) ∧ w1.cell? ⟨gb, 0, none⟩ = some (.int .i64 b.role) ∧ w1.cell? ⟨gb, 1, none⟩ = some (.int .i64 b.why) ∧ w1.cell? ⟨gb, 2, none⟩ = some (.int .i64 b.frm) ∧ w1.cell? ⟨gb, 3, none⟩ = some (.int .i64 b.til) ∧ w1.cell? ⟨gb, 4, none⟩ = some (.int .i64 b.cats) ∧ w1.cell? ⟨gb, 5, none⟩ = some (.bool b.allow)) (hb : Below B w1 w2) (hTB : T < B) (hwT : w.heap.size ≤ T) : Below w.heap.size w w2 ∧ T < w2.heap.size ∧ w2.cell? ⟨w.heap.size, 0, none⟩ = some (.int .i64 x.role) ∧ w2.cell? ⟨w.heap.size, 1, none⟩ = some (.int .i64 x.why) ∧ w2.cell? ⟨w.heap.size, 2, none⟩ = some (.int .i64 x.time) ∧ w2.cell? ⟨ga, 0, none⟩ = some (.int .i64 a.role) ∧ w2.cell? ⟨ga, 1, none⟩ = some (.int .i64 a.why) ∧ w2.cell? ⟨ga, 2, none⟩ = some (.int .i64 a.frm) ∧ w2.cell? ⟨ga, 3, none⟩ = some (.int .i64 a.til) ∧ w2.cell? ⟨ga, 4, none⟩ = some (.int .i64 a.cats) ∧ w2.cell? ⟨ga, 5, none⟩ = some (.bool a.allow) ∧ w2.cell? ⟨gb, 0, none⟩ = some (.int .i64 b.role) ∧ w2.cell? ⟨gb, 1, none⟩ = some (.int .i64 b.why) ∧ w2.cell? ⟨gb, 2, none⟩ = some (.int .i64 b.frm) ∧ w2.cell? ⟨gb, 3, none⟩ = some (.int .i64 b.til) ∧ w2.cell? ⟨gb, 4, none⟩ = some (.int .i64 b.cats) ∧ w2.cell? ⟨gb, 5, none⟩ = some (.bool b.allow) := by
  obtain ⟨h0, h1, c0, c1, c2, c3, c4, c5, c6, c7, c8, c9, c10, c11, c12, c13, c14⟩ := h
  exact ⟨h0.trans (hb.mono (by omega)), Nat.lt_of_lt_of_le h1 hb.size, (hb.cell (p := ⟨w.heap.size, 0, none⟩) (Nat.lt_of_le_of_lt hT0 hTB)).trans c0, (hb.cell (p := ⟨w.heap.size, 1, none⟩) (Nat.lt_of_le_of_lt hT0 hTB)).trans c1, (hb.cell (p := ⟨w.heap.size, 2, none⟩) (Nat.lt_of_le_of_lt hT0 hTB)).trans c2, (hb.cell (p := ⟨ga, 0, none⟩) (Nat.lt_of_le_of_lt hT1 hTB)).trans c3, (hb.cell (p := ⟨ga, 1, none⟩) (Nat.lt_of_le_of_lt hT1 hTB)).trans c4, (hb.cell (p := ⟨ga, 2, none⟩) (Nat.lt_of_le_of_lt hT1 hTB)).trans c5, (hb.cell (p := ⟨ga, 3, none⟩) (Nat.lt_of_le_of_lt hT1 hTB)).trans c6, (hb.cell (p := ⟨ga, 4, none⟩) (Nat.lt_of_le_of_lt hT1 hTB)).trans c7, (hb.cell (p := ⟨ga, 5, none⟩) (Nat.lt_of_le_of_lt hT1 hTB)).trans c8, (hb.cell (p := ⟨gb, 0, none⟩) (Nat.lt_of_le_of_lt hT2 hTB)).trans c9, (hb.cell (p := ⟨gb, 1, none⟩) (Nat.lt_of_le_of_lt hT2 hTB)).trans c10, (hb.cell (p := ⟨gb, 2, none⟩) (Nat.lt_of_le_of_lt hT2 hTB)).trans c11, (hb.cell (p := ⟨gb, 3, none⟩) (Nat.lt_of_le_of_lt hT2 hTB)).trans c12, (hb.cell (p := ⟨gb, 4, none⟩) (Nat.lt_of_le_of_lt hT2 hTB)).trans c13, (hb.cell (p := ⟨gb, 5, none⟩) (Nat.lt_of_le_of_lt hT2 hTB)).trans c14⟩
theorem startTwo {w w' : World} {T : Nat} {x : WhoL} {r a b : RuleL} {ga gb : Nat} (h : TwoIs w x r a b ga gb w') (hT : T < w'.heap.size) : Below w.heap.size w w'.drew ∧ T < w'.drew.heap.size ∧ w'.drew.cell? ⟨w.heap.size, 0, none⟩ = some (.int .i64 x.role) ∧ w'.drew.cell? ⟨w.heap.size, 1, none⟩ = some (.int .i64 x.why) ∧ w'.drew.cell? ⟨w.heap.size, 2, none⟩ = some (.int .i64 x.time) ∧ w'.drew.cell? ⟨ga, 0, none⟩ = some (.int .i64 a.role) ∧ w'.drew.cell? ⟨ga, 1, none⟩ = some (.int .i64 a.why) ∧ w'.drew.cell? ⟨ga, 2, none⟩ = some (.int .i64 a.frm) ∧ w'.drew.cell? ⟨ga, 3, none⟩ = some (.int .i64 a.til) ∧ w'.drew.cell? ⟨ga, 4, none⟩ = some (.int .i64 a.cats) ∧ w'.drew.cell? ⟨ga, 5, none⟩ = some (.bool a.allow) ∧ w'.drew.cell? ⟨gb, 0, none⟩ = some (.int .i64 b.role) ∧ w'.drew.cell? ⟨gb, 1, none⟩ = some (.int .i64 b.why) ∧ w'.drew.cell? ⟨gb, 2, none⟩ = some (.int .i64 b.frm) ∧ w'.drew.cell? ⟨gb, 3, none⟩ = some (.int .i64 b.til) ∧ w'.drew.cell? ⟨gb, 4, none⟩ = some (.int .i64 b.cats) ∧ w'.drew.cell? ⟨gb, 5, none⟩ = some (.bool b.allow) := by
  obtain ⟨_, a0, b0, _, ⟨x0, _⟩, hB⟩ := h.drew
  exact ⟨hB, hT, x0.c0, x0.c1, x0.c2, a0.1, by have := a0.2.1; rwa [Nat.zero_add] at this, by have := a0.2.2.1; rwa [Nat.zero_add] at this, by have := a0.2.2.2.1; rwa [Nat.zero_add] at this, by have := a0.2.2.2.2.1; rwa [Nat.zero_add] at this, by have := a0.2.2.2.2.2; rwa [Nat.zero_add] at this,
    b0.1, by have := b0.2.1; rwa [Nat.zero_add] at this, by have := b0.2.2.1; rwa [Nat.zero_add] at this, by have := b0.2.2.2.1; rwa [Nat.zero_add] at this, by have := b0.2.2.2.2.1; rwa [Nat.zero_add] at this, by have := b0.2.2.2.2.2; rwa [Nat.zero_add] at this⟩
theorem TwoIs.top {w w' : World} {x : WhoL} {r a b : RuleL} {ga gb : Nat} (h : TwoIs w x r a b ga gb w') : ∃ T, w.heap.size ≤ T ∧ ga ≤ T ∧ gb ≤ T ∧ T < w'.heap.size := by
  obtain ⟨⟨h1, h2, h3⟩, a0, b0, _⟩ := h
  have := cell_lt a0.1
  have := cell_lt b0.1
  exact ⟨max ga gb, by omega, by omega, by omega, by omega⟩
end Go.Proofs.Ytpjmhajhmkfolaa
