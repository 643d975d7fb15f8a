/- The walk of RuleKinds. -/
import Derived.Test.YtpjmhajhmkfolaaRuleTwo
import Derived.Test.YtpjmhajhmkfolaaSeesLit
import Derived.Test.YtpjmhajhmkfolaaApp
import Derived.Deep.RegionHeld3
import Derived.Deep.DrawnRows
import Derived.Deep.Cut
import Derived.Deep.CutRange
set_option linter.unusedVariables false
set_option linter.unusedSimpArgs false
namespace Go.Proofs.Ytpjmhajhmkfolaa
open Go.RowKit
attribute [local go_sem ↓] Go.wp_at_zero Go.wp_at_succ

/-- what the region reads stays as it was -/
theorem keepFour {w w1 w2 : World} {T B : Nat} {x : WhoL} {r a b : RuleL} {ga gb : Nat} (hT0 : w.heap.size ≤ T) (hT1 : (w.heap.size + 1) ≤ T) (hT2 : ga ≤ T) (hT3 : gb ≤ T) (h : Below w.heap.size w w1 ∧ T < w1.heap.size ∧ w1.cell? ⟨w.heap.size, 0, none⟩ = some (.int .i64 x.role) ∧ w1.cell? ⟨w.heap.size, 1, none⟩ = some (.int .i64 x.why) ∧ w1.cell? ⟨w.heap.size, 2, none⟩ = some (.int .i64 x.time) ∧ w1.cell? ⟨(w.heap.size + 1), 0, none⟩ = some (.int .i64 r.role) ∧ w1.cell? ⟨(w.heap.size + 1), 1, none⟩ = some (.int .i64 r.why) ∧ w1.cell? ⟨(w.heap.size + 1), 2, none⟩ = some (.int .i64 r.frm) ∧ w1.cell? ⟨(w.heap.size + 1), 3, none⟩ = some (.int .i64 r.til) ∧ w1.cell? ⟨(w.heap.size + 1), 4, none⟩ = some (.int .i64 r.cats) ∧ w1.cell? ⟨(w.heap.size + 1), 5, none⟩ = some (.bool r.allow) ∧ w1.cell? ⟨ga, 0, none⟩ = some (.int .i64 a.role) ∧ w1.cell? ⟨ga, 1, none⟩ = some (.int .i64 a.why) ∧ w1.cell? ⟨ga, 2, none⟩ = some (.int .i64 a.frm) ∧ w1.cell? ⟨ga, 3, none⟩ = some (.int .i64 a.til) ∧ w1.cell? ⟨ga, 4, none⟩ = some (.int .i64 a.cats) ∧ w1.cell? ⟨ga, 5, none⟩ = some (.bool a.allow) ∧ w1.cell? ⟨gb, 0, none⟩ = some (.int .i64 b.role) ∧ w1.cell? ⟨gb, 1, none⟩ = some (.int .i64 b.why) ∧ w1.cell? ⟨gb, 2, none⟩ = some (.int .i64 b.frm) ∧ w1.cell? ⟨gb, 3, none⟩ = some (.int .i64 b.til) ∧ w1.cell? ⟨gb, 4, none⟩ = some (.int .i64 b.cats) ∧ w1.cell? ⟨gb, 5, none⟩ = some (.bool b.allow)) (hb : Below B w1 w2) (hTB : T < B) (hwT : w.heap.size ≤ T) : Below w.heap.size w w2 ∧ T < w2.heap.size ∧ w2.cell? ⟨w.heap.size, 0, none⟩ = some (.int .i64 x.role) ∧ w2.cell? ⟨w.heap.size, 1, none⟩ = some (.int .i64 x.why) ∧ w2.cell? ⟨w.heap.size, 2, none⟩ = some (.int .i64 x.time) ∧ w2.cell? ⟨(w.heap.size + 1), 0, none⟩ = some (.int .i64 r.role) ∧ w2.cell? ⟨(w.heap.size + 1), 1, none⟩ = some (.int .i64 r.why) ∧ w2.cell? ⟨(w.heap.size + 1), 2, none⟩ = some (.int .i64 r.frm) ∧ w2.cell? ⟨(w.heap.size + 1), 3, none⟩ = some (.int .i64 r.til) ∧ w2.cell? ⟨(w.heap.size + 1), 4, none⟩ = some (.int .i64 r.cats) ∧ w2.cell? ⟨(w.heap.size + 1), 5, none⟩ = some (.bool r.allow) ∧ w2.cell? ⟨ga, 0, none⟩ = some (.int .i64 a.role) ∧ w2.cell? ⟨ga, 1, none⟩ = some (.int .i64 a.why) ∧ w2.cell? ⟨ga, 2, none⟩ = some (.int .i64 a.frm) ∧ w2.cell? ⟨ga, 3, none⟩ = some (.int .i64 a.til) ∧ w2.cell? ⟨ga, 4, none⟩ = some (.int .i64 a.cats) ∧ w2.cell? ⟨ga, 5, none⟩ = some (.bool a.allow) ∧ w2.cell? ⟨gb, 0, none⟩ = some (.int .i64 b.role) ∧ w2.cell? ⟨gb, 1, none⟩ = some (.int .i64 b.why) ∧ w2.cell? ⟨gb, 2, none⟩ = some (.int .i64 b.frm) ∧ w2.cell? ⟨gb, 3, none⟩ = some (.int .i64 b.til) ∧ w2.cell? ⟨gb, 4, none⟩ = some (.int .i64 b.cats) ∧ w2.cell? ⟨gb, 5, none⟩ = some (.bool b.allow) := by
  obtain ⟨h0, h1, c0, c1, c2, c3, c4, c5, c6, c7, c8, c9, c10, c11, c12, c13, c14, c15, c16, c17, c18, c19, c20⟩ := h
  exact ⟨h0.trans (hb.mono (by omega)), Nat.lt_of_lt_of_le h1 hb.size, (hb.cell (p := ⟨w.heap.size, 0, none⟩) (Nat.lt_of_le_of_lt hT0 hTB)).trans c0, (hb.cell (p := ⟨w.heap.size, 1, none⟩) (Nat.lt_of_le_of_lt hT0 hTB)).trans c1, (hb.cell (p := ⟨w.heap.size, 2, none⟩) (Nat.lt_of_le_of_lt hT0 hTB)).trans c2, (hb.cell (p := ⟨(w.heap.size + 1), 0, none⟩) (Nat.lt_of_le_of_lt hT1 hTB)).trans c3, (hb.cell (p := ⟨(w.heap.size + 1), 1, none⟩) (Nat.lt_of_le_of_lt hT1 hTB)).trans c4, (hb.cell (p := ⟨(w.heap.size + 1), 2, none⟩) (Nat.lt_of_le_of_lt hT1 hTB)).trans c5, (hb.cell (p := ⟨(w.heap.size + 1), 3, none⟩) (Nat.lt_of_le_of_lt hT1 hTB)).trans c6, (hb.cell (p := ⟨(w.heap.size + 1), 4, none⟩) (Nat.lt_of_le_of_lt hT1 hTB)).trans c7, (hb.cell (p := ⟨(w.heap.size + 1), 5, none⟩) (Nat.lt_of_le_of_lt hT1 hTB)).trans c8, (hb.cell (p := ⟨ga, 0, none⟩) (Nat.lt_of_le_of_lt hT2 hTB)).trans c9, (hb.cell (p := ⟨ga, 1, none⟩) (Nat.lt_of_le_of_lt hT2 hTB)).trans c10, (hb.cell (p := ⟨ga, 2, none⟩) (Nat.lt_of_le_of_lt hT2 hTB)).trans c11, (hb.cell (p := ⟨ga, 3, none⟩) (Nat.lt_of_le_of_lt hT2 hTB)).trans c12, (hb.cell (p := ⟨ga, 4, none⟩) (Nat.lt_of_le_of_lt hT2 hTB)).trans c13, (hb.cell (p := ⟨ga, 5, none⟩) (Nat.lt_of_le_of_lt hT2 hTB)).trans c14, (hb.cell (p := ⟨gb, 0, none⟩) (Nat.lt_of_le_of_lt hT3 hTB)).trans c15, (hb.cell (p := ⟨gb, 1, none⟩) (Nat.lt_of_le_of_lt hT3 hTB)).trans c16, (hb.cell (p := ⟨gb, 2, none⟩) (Nat.lt_of_le_of_lt hT3 hTB)).trans c17, (hb.cell (p := ⟨gb, 3, none⟩) (Nat.lt_of_le_of_lt hT3 hTB)).trans c18, (hb.cell (p := ⟨gb, 4, none⟩) (Nat.lt_of_le_of_lt hT3 hTB)).trans c19, (hb.cell (p := ⟨gb, 5, none⟩) (Nat.lt_of_le_of_lt hT3 hTB)).trans c20⟩
theorem drewFour {w w1 : World} {T : Nat} {x : WhoL} {r a b : RuleL} {ga gb : Nat} (h : Below w.heap.size w w1 ∧ T < w1.heap.size ∧ w1.cell? ⟨w.heap.size, 0, none⟩ = some (.int .i64 x.role) ∧ w1.cell? ⟨w.heap.size, 1, none⟩ = some (.int .i64 x.why) ∧ w1.cell? ⟨w.heap.size, 2, none⟩ = some (.int .i64 x.time) ∧ w1.cell? ⟨(w.heap.size + 1), 0, none⟩ = some (.int .i64 r.role) ∧ w1.cell? ⟨(w.heap.size + 1), 1, none⟩ = some (.int .i64 r.why) ∧ w1.cell? ⟨(w.heap.size + 1), 2, none⟩ = some (.int .i64 r.frm) ∧ w1.cell? ⟨(w.heap.size + 1), 3, none⟩ = some (.int .i64 r.til) ∧ w1.cell? ⟨(w.heap.size + 1), 4, none⟩ = some (.int .i64 r.cats) ∧ w1.cell? ⟨(w.heap.size + 1), 5, none⟩ = some (.bool r.allow) ∧ w1.cell? ⟨ga, 0, none⟩ = some (.int .i64 a.role) ∧ w1.cell? ⟨ga, 1, none⟩ = some (.int .i64 a.why) ∧ w1.cell? ⟨ga, 2, none⟩ = some (.int .i64 a.frm) ∧ w1.cell? ⟨ga, 3, none⟩ = some (.int .i64 a.til) ∧ w1.cell? ⟨ga, 4, none⟩ = some (.int .i64 a.cats) ∧ w1.cell? ⟨ga, 5, none⟩ = some (.bool a.allow) ∧ w1.cell? ⟨gb, 0, none⟩ = some (.int .i64 b.role) ∧ w1.cell? ⟨gb, 1, none⟩ = some (.int .i64 b.why) ∧ w1.cell? ⟨gb, 2, none⟩ = some (.int .i64 b.frm) ∧ w1.cell? ⟨gb, 3, none⟩ = some (.int .i64 b.til) ∧ w1.cell? ⟨gb, 4, none⟩ = some (.int .i64 b.cats) ∧ w1.cell? ⟨gb, 5, none⟩ = some (.bool b.allow)) : Below w.heap.size w w1.drew ∧ T < w1.drew.heap.size ∧ w1.drew.cell? ⟨w.heap.size, 0, none⟩ = some (.int .i64 x.role) ∧ w1.drew.cell? ⟨w.heap.size, 1, none⟩ = some (.int .i64 x.why) ∧ w1.drew.cell? ⟨w.heap.size, 2, none⟩ = some (.int .i64 x.time) ∧ w1.drew.cell? ⟨(w.heap.size + 1), 0, none⟩ = some (.int .i64 r.role) ∧ w1.drew.cell? ⟨(w.heap.size + 1), 1, none⟩ = some (.int .i64 r.why) ∧ w1.drew.cell? ⟨(w.heap.size + 1), 2, none⟩ = some (.int .i64 r.frm) ∧ w1.drew.cell? ⟨(w.heap.size + 1), 3, none⟩ = some (.int .i64 r.til) ∧ w1.drew.cell? ⟨(w.heap.size + 1), 4, none⟩ = some (.int .i64 r.cats) ∧ w1.drew.cell? ⟨(w.heap.size + 1), 5, none⟩ = some (.bool r.allow) ∧ w1.drew.cell? ⟨ga, 0, none⟩ = some (.int .i64 a.role) ∧ w1.drew.cell? ⟨ga, 1, none⟩ = some (.int .i64 a.why) ∧ w1.drew.cell? ⟨ga, 2, none⟩ = some (.int .i64 a.frm) ∧ w1.drew.cell? ⟨ga, 3, none⟩ = some (.int .i64 a.til) ∧ w1.drew.cell? ⟨ga, 4, none⟩ = some (.int .i64 a.cats) ∧ w1.drew.cell? ⟨ga, 5, none⟩ = some (.bool a.allow) ∧ w1.drew.cell? ⟨gb, 0, none⟩ = some (.int .i64 b.role) ∧ w1.drew.cell? ⟨gb, 1, none⟩ = some (.int .i64 b.why) ∧ w1.drew.cell? ⟨gb, 2, none⟩ = some (.int .i64 b.frm) ∧ w1.drew.cell? ⟨gb, 3, none⟩ = some (.int .i64 b.til) ∧ w1.drew.cell? ⟨gb, 4, none⟩ = some (.int .i64 b.cats) ∧ w1.drew.cell? ⟨gb, 5, none⟩ = some (.bool b.allow) := ⟨below_drew h.1, h.2⟩
theorem startFour {w w' : World} {T : Nat} {x : WhoL} {r a b : RuleL} {ga gb : Nat} (h : TwoIs w x r a b ga gb w') (hT : T < w'.heap.size) : Below w.heap.size w w' ∧ T < w'.heap.size ∧ w'.cell? ⟨w.heap.size, 0, none⟩ = some (.int .i64 x.role) ∧ w'.cell? ⟨w.heap.size, 1, none⟩ = some (.int .i64 x.why) ∧ w'.cell? ⟨w.heap.size, 2, none⟩ = some (.int .i64 x.time) ∧ w'.cell? ⟨(w.heap.size + 1), 0, none⟩ = some (.int .i64 r.role) ∧ w'.cell? ⟨(w.heap.size + 1), 1, none⟩ = some (.int .i64 r.why) ∧ w'.cell? ⟨(w.heap.size + 1), 2, none⟩ = some (.int .i64 r.frm) ∧ w'.cell? ⟨(w.heap.size + 1), 3, none⟩ = some (.int .i64 r.til) ∧ w'.cell? ⟨(w.heap.size + 1), 4, none⟩ = some (.int .i64 r.cats) ∧ w'.cell? ⟨(w.heap.size + 1), 5, none⟩ = some (.bool r.allow) ∧ w'.cell? ⟨ga, 0, none⟩ = some (.int .i64 a.role) ∧ w'.cell? ⟨ga, 1, none⟩ = some (.int .i64 a.why) ∧ w'.cell? ⟨ga, 2, none⟩ = some (.int .i64 a.frm) ∧ w'.cell? ⟨ga, 3, none⟩ = some (.int .i64 a.til) ∧ w'.cell? ⟨ga, 4, none⟩ = some (.int .i64 a.cats) ∧ w'.cell? ⟨ga, 5, none⟩ = some (.bool a.allow) ∧ w'.cell? ⟨gb, 0, none⟩ = some (.int .i64 b.role) ∧ w'.cell? ⟨gb, 1, none⟩ = some (.int .i64 b.why) ∧ w'.cell? ⟨gb, 2, none⟩ = some (.int .i64 b.frm) ∧ w'.cell? ⟨gb, 3, none⟩ = some (.int .i64 b.til) ∧ w'.cell? ⟨gb, 4, none⟩ = some (.int .i64 b.cats) ∧ w'.cell? ⟨gb, 5, none⟩ = some (.bool b.allow) := by
  obtain ⟨_, a0, b0, _, ⟨x0, r0⟩, hB⟩ := h
  exact ⟨hB, hT, x0.c0, x0.c1, x0.c2, r0.1, by have := r0.2.1; rwa [Nat.zero_add] at this, by have := r0.2.2.1; rwa [Nat.zero_add] at this, by have := r0.2.2.2.1; rwa [Nat.zero_add] at this, by have := r0.2.2.2.2.1; rwa [Nat.zero_add] at this, by have := r0.2.2.2.2.2; rwa [Nat.zero_add] at this,
    a0.1, by have := a0.2.1; rwa [Nat.zero_add] at this, by have := a0.2.2.1; rwa [Nat.zero_add] at this, by have := a0.2.2.2.1; rwa [Nat.zero_add] at this, by have := a0.2.2.2.2.1; rwa [Nat.zero_add] at this, by have := a0.2.2.2.2.2; rwa [Nat.zero_add] at this,
    b0.1, by have := b0.2.1; rwa [Nat.zero_add] at this, by have := b0.2.2.1; rwa [Nat.zero_add] at this, by have := b0.2.2.2.1; rwa [Nat.zero_add] at this, by have := b0.2.2.2.2.1; rwa [Nat.zero_add] at this, by have := b0.2.2.2.2.2; rwa [Nat.zero_add] at this⟩
theorem TwoIs.putR {w w2 : World} {x : WhoL} {r a b : RuleL} {ga gb : Nat} (h : TwoIs w x r a b ga gb w2) (i : Nat) (hi : i = 2 ∨ i = 3 ∨ i = 4) (k : Int) : TwoIs w x (r.set i k) a b ga gb (w2.setCell ⟨w.heap.size + 1, i, none⟩ (.int .i64 k)) := by
  obtain ⟨⟨h1, h2, h3⟩, h4, h5, ⟨h6, h7⟩, h8, h9⟩ := h
  have g : ∀ j, (w2.setCell ⟨w.heap.size + 1, i, none⟩ (.int .i64 k)).cell? ⟨w.heap.size, j, none⟩ = w2.cell? ⟨w.heap.size, j, none⟩ := fun j => World.cell?_setCell_other _ _ _ _ (fun e => by injection e with e1 _ _; omega)
  exact ⟨⟨h1, h2, h3⟩, h4.far (p := ⟨w.heap.size + 1, i, none⟩) (by show ga ≠ w.heap.size + 1; omega) _, h5.far (p := ⟨w.heap.size + 1, i, none⟩) (by show gb ≠ w.heap.size + 1; omega) _, ⟨fun j => frozen_set.trans (h6 j), fun j => frozen_set.trans (h7 j)⟩,
    ⟨⟨(g 0).trans h8.1.c0, (g 1).trans h8.1.c1, (g 2).trans h8.1.c2⟩, h8.2.put i hi k⟩, h9.setCell (by show _ ≤ w.heap.size + 1; omega) _⟩

/-- a rule for two sets of kinds -/
theorem kinds_rule {m : Nat} {u : Nat → Nat} {x : WhoL} {r : RuleL} {i A B : Nat} : (speaks m u x i (r.set 4 (A : Nat)) || speaks m u x i (r.set 4 (B : Nat))) = speaks m u x i (r.set 4 ((A ||| B : Nat) : Int)) := by
  have e : ((r.set 4 (A : Nat)).kind i || (r.set 4 (B : Nat)).kind i) = (r.set 4 ((A ||| B : Nat) : Int)).kind i := by
    show (((A : Nat) : Int).toNat.testBit i || ((B : Nat) : Int).toNat.testBit i) = (((A ||| B : Nat) : Int).toNat).testBit i
    rw [Int.toNat_natCast, Int.toNat_natCast, Int.toNat_natCast, Nat.testBit_or]
  unfold speaks
  rw [← e]
  show ((_ && forRole m u x r && forWhy x r && forTime x r) || (_ && forRole m u x r && forWhy x r && forTime x r)) = (_ && forRole m u x r && forWhy x r && forTime x r)
  rw [← Bool.and_or_distrib_right, ← Bool.and_or_distrib_right, ← Bool.and_or_distrib_right]
theorem set4_ok {r : RuleL} (h : r.ok) {A : Nat} (hA : A < 256) : (r.set 4 (A : Nat)).ok := ⟨⟨h.1.1, h.1.2.1, h.1.2.2.1, h.1.2.2.2.1, by show 0 ≤ (A : Int) ∧ (A : Int) ≤ 255; omega⟩, h.2⟩
/-- a rule that denies all -/
theorem deny_all {m : Nat} {z : Nat → Int} {n : Nat} {rs : Nat → RuleL} {x : WhoL} (h : seesE m z n rs x = 0) (hn : n + 1 ≤ 20) : seesV m z (n + 1) (joinR n rs fun _ => ⟨-1, -1, 0, 1000, 255, false⟩) x = 0 := by
  have hx := (seesE_parts h).2.2.2.1
  rw [seesV_ok (seesE_join h hn fun _ _ => by decide)]
  apply Nat.eq_of_testBit_eq
  intro i
  rw [seen_bit, Nat.zero_testBit]
  by_cases h8 : i < 8
  · have hs : speaks m (nats z) x i ⟨-1, -1, 0, 1000, 255, false⟩ = true := by
      unfold speaks forRole forWhy forTime RuleL.kind
      rw [decide_eq_true (show (0 : Int) ≤ x.time ∧ x.time ≤ 1000 - 1 from ⟨hx.2.2.1, by have := hx.2.2.2; omega⟩)]
      have hk : ∀ j, j < 8 → (255 : Int).toNat.testBit j = true := by decide
      rw [hk i h8]
      rfl
    rw [noN_join, no_one, hs]
    simp
  · rw [decide_eq_false h8, Bool.false_and]

theorem slr_deny (w : World) (k : Int) : SlR (w.alloc (.cells #[.int .i64 (-1), .int .i64 (-1), .int .i64 0, .int .i64 k, .int .i64 255, .bool false] 27)) (some ⟨w.heap.size, 0, none⟩) 1 (fun _ => ⟨-1, -1, 0, k, 255, false⟩) := slr_lit1 w ⟨-1, -1, 0, k, 255, false⟩
theorem slr_denyd {w w' : World} (hb : Below (w.alloc (.cells #[.int .i64 (-1), .int .i64 (-1), .int .i64 0, .int .i64 1000, .int .i64 255, .bool false] 27)).drew.heap.size (w.alloc (.cells #[.int .i64 (-1), .int .i64 (-1), .int .i64 0, .int .i64 1000, .int .i64 255, .bool false] 27)).drew w') {g0 : Nat} (hg : w.heap.size = g0) : SlR w' (some ⟨g0, 0, none⟩) 1 (fun _ => ⟨-1, -1, 0, 1000, 255, false⟩) := slr_lit1d (r := ⟨-1, -1, 0, 1000, 255, false⟩) hb hg

set_option maxRecDepth 100000 in
set_option maxHeartbeats 8000000 in
theorem ruleKinds_walk (a : Option Addr) (m cap : Nat) (z : Nat → Int) (b : Option Addr) (n capb : Nat) (rs : Nat → RuleL) (x : WhoL) (r : RuleL) (c d : Int) (w : World) (hu : Sl w a m z) (hm : m ≤ maxLen) (hs : SlR w b n rs) (hn : n ≤ maxLen) :
    Calls Try.prog 8 #[.slice a m cap, .slice b n capb, x.v, r.v, .int .i64 c, .int .i64 d] w fun e w' => e = .returned (.bool true) ∧ Below w.heap.size w w' := by
  obtain ⟨C, hC, hC2⟩ := and_255 c
  obtain ⟨D, hD, hD2⟩ := and_255 d
  have hCD2 : C ||| D < 256 := Nat.or_lt_two_pow (n := 8) hC2 hD2
  have hOR : bits .or .i64 (C : Int) (D : Int) = ((C ||| D : Nat) : Int) := i64_or C D (by omega) (by omega)
  have HC := Lib.hid hC; have HD := Lib.hid hD; have HOR := Lib.hid hOR
  clear hC hD hOR
  obtain ⟨V, hV⟩ : ∃ V, seesV m z n rs x = V := ⟨_, rfl⟩
  obtain ⟨E, hE⟩ : ∃ E, seesE m z n rs x = E := ⟨_, rfl⟩
  have HSees : Hid (∀ w', Below w.heap.size w w' → Calls Try.prog 9 #[.slice a m cap, .slice b n capb, x.v] w' fun e w'' => e = .returned (.tuple #[.int .i64 (V : Nat), .int .i64 E]) ∧ Below w'.heap.size w' w'') := fun w' h => by
    rw [← hV, ← hE]
    exact sees_any a m cap z b n capb rs x w' (hu.below h) hm (hs.below h) hn
  have hEc := seesE_cases (m := m) (z := z) (n := n) (rs := rs) (x := x)
  rw [hE] at hEc
  have HV0 : Hid (E ≠ 0 → V = 0) := fun h => by rw [← hV]; exact seesV_err (by rw [hE]; exact h)
  have HU := Lib.hid hu; have HS := Lib.hid hs; have HM := Lib.hid hm; have HN := Lib.hid hn; have HV := Lib.hid hV; have HE := Lib.hid hE
  clear hu hm hs hn hV hE
  have hA : Below w.heap.size w ((w.alloc (.cells #[.int .i64 x.role, .int .i64 x.why, .int .i64 x.time] 25)).alloc (.cells #[.int .i64 r.role, .int .i64 r.why, .int .i64 r.frm, .int .i64 r.til, .int .i64 r.cats, .bool r.allow] 27)) := ((Below.refl _ _).alloc (Nat.le_refl _) _).alloc (by simp) _
  have HX : Hid (XR ((w.alloc (.cells #[.int .i64 x.role, .int .i64 x.why, .int .i64 x.time] 25)).alloc (.cells #[.int .i64 r.role, .int .i64 r.why, .int .i64 r.frm, .int .i64 r.til, .int .i64 r.cats, .bool r.allow] 27)) w.heap.size x r) := ⟨⟨by simp, by simp, by simp⟩, ⟨by simp, by simp, by simp, by simp, by simp, by simp⟩⟩
  have hA1 : Below ((w.alloc (.cells #[.int .i64 x.role, .int .i64 x.why, .int .i64 x.time] 25)).alloc (.cells #[.int .i64 r.role, .int .i64 r.why, .int .i64 r.frm, .int .i64 r.til, .int .i64 r.cats, .bool r.allow] 27)).heap.size ((w.alloc (.cells #[.int .i64 x.role, .int .i64 x.why, .int .i64 x.time] 25)).alloc (.cells #[.int .i64 r.role, .int .i64 r.why, .int .i64 r.frm, .int .i64 r.til, .int .i64 r.cats, .bool r.allow] 27)) ((((w.alloc (.cells #[.int .i64 x.role, .int .i64 x.why, .int .i64 x.time] 25)).alloc (.cells #[.int .i64 r.role, .int .i64 r.why, .int .i64 r.frm, .int .i64 r.til, .int .i64 r.cats, .bool r.allow] 27)).alloc (.cells #[.int .i64 0] 3)).alloc (.cells #[.int .i64 (-1), .int .i64 (-1), .int .i64 0, .int .i64 9, .int .i64 5, .bool true, .int .i64 (-1), .int .i64 (-1), .int .i64 0, .int .i64 9, .int .i64 255, .bool false] 27)) := ((Below.refl _ _).alloc (Nat.le_refl _) _).alloc (by simp) _
  have HL1 := Lib.hid (sees_lit (w.heap.size + 2) (w.heap.size + 3) 2 0 (twoR ⟨-1, -1, 0, 9, 5, true⟩ ⟨-1, -1, 0, 9, 255, false⟩) ⟨0, 0, 0⟩ ((((w.alloc (.cells #[.int .i64 x.role, .int .i64 x.why, .int .i64 x.time] 25)).alloc (.cells #[.int .i64 r.role, .int .i64 r.why, .int .i64 r.frm, .int .i64 r.til, .int .i64 r.cats, .bool r.allow] 27)).alloc (.cells #[.int .i64 0] 3)).alloc (.cells #[.int .i64 (-1), .int .i64 (-1), .int .i64 0, .int .i64 9, .int .i64 5, .bool true, .int .i64 (-1), .int .i64 (-1), .int .i64 0, .int .i64 9, .int .i64 255, .bool false] 27)) (by go_simp) (slr_two ⟨by go_simp, by go_simp, by go_simp, by go_simp, by go_simp, by go_simp⟩ ⟨by go_simp, by go_simp, by go_simp, by go_simp, by go_simp, by go_simp⟩) (by decide) (by decide +kernel) (by decide +kernel))
  have HF0 : (((w.alloc (.cells #[.int .i64 x.role, .int .i64 x.why, .int .i64 x.time] 25)).alloc (.cells #[.int .i64 r.role, .int .i64 r.why, .int .i64 r.frm, .int .i64 r.til, .int .i64 r.cats, .bool r.allow] 27))).frozen? ⟨w.heap.size + 1, 4, none⟩ = false := by go_simp
  have HF1 := Lib.hid ((hA1.frozen (p := ⟨w.heap.size + 1, 4, none⟩) (by simp)).trans HF0)
  clear HF0
  have HX1 := Lib.hid (HX.out.below hA1)
  have hA1w := hA.trans (hA1.mono hA.size)
  clear hA1 HX hA
  go_enter Try.func8, Try.ntmps8
  go_wp2_with fail
  refine HL1.out.mono ?_
  rintro e w1 ⟨rfl, hb1⟩
  have hB1 : Below w.heap.size w w1 := hA1w.trans (hb1.mono hA1w.size)
  have HX2 := Lib.hid (HX1.out.below hb1)
  have HF2 := Lib.hid ((hb1.frozen (p := ⟨w.heap.size + 1, 4, none⟩) (cell_lt HX1.out.2.1)).trans HF1.out)
  have hA2 : Below w1.heap.size w1 ((w1.alloc (.cells #[.int .i64 0] 3)).alloc (.cells #[.int .i64 (-1), .int .i64 0, .int .i64 0, .int .i64 9, .int .i64 3, .bool true] 27)) := ((Below.refl _ _).alloc (Nat.le_refl _) _).alloc (by simp) _
  have HL2 := Lib.hid (sees_lit w1.heap.size (w1.heap.size + 1) 1 3 (fun _ => ⟨-1, 0, 0, 9, 3, true⟩) ⟨0, 0, 0⟩ ((w1.alloc (.cells #[.int .i64 0] 3)).alloc (.cells #[.int .i64 (-1), .int .i64 0, .int .i64 0, .int .i64 9, .int .i64 3, .bool true] 27)) (by simp) (slr_one ⟨by simp, by simp, by simp, by simp, by simp, by simp⟩) (by decide) (by decide +kernel) (by decide +kernel))
  have HX3 := Lib.hid (HX2.out.below hA2)
  have HF3 := Lib.hid ((hA2.frozen (p := ⟨w.heap.size + 1, 4, none⟩) (cell_lt HX2.out.2.1)).trans HF2.out)
  have hA2w := hB1.trans (hA2.mono hB1.size)
  clear HL1 hb1 HX1 hA1w HX2 hA2 hB1
  go_wp2_with fail
  refine HL2.out.mono ?_
  rintro e w2 ⟨rfl, hb2⟩
  have hB2 : Below w.heap.size w w2 := hA2w.trans (hb2.mono hA2w.size)
  have HX4 := Lib.hid (HX3.out.below hb2)
  have HF4 := Lib.hid ((hb2.frozen (p := ⟨w.heap.size + 1, 4, none⟩) (cell_lt HX3.out.2.1)).trans HF3.out)
  clear HF1 HF2 HF3 HL2 hb2 HX3 hA2w
  obtain ⟨⟨x0, x1, x2⟩, -⟩ := HX4.out
  go_wp2_with fail
  refine (HSees.out _ hB2).mono ?_
  rintro e w3 ⟨rfl, hb3⟩
  have hB3 : Below w.heap.size w w3 := hB2.trans (hb3.mono hB2.size)
  have HX5 := Lib.hid (HX4.out.below hb3)
  have HF5 := Lib.hid ((hb3.frozen (p := ⟨w.heap.size + 1, 4, none⟩) (cell_lt HX4.out.2.1)).trans HF4.out)
  clear hb3 HX4 hB2 x0 x1 x2
  by_cases h0 : E = 0
  · subst h0
    clear hEc HV0
    have hn20 := (seesE_parts HE.out).2.1
    obtain ⟨-, r0, r1, r2, r3, r4, r5⟩ := HX5.out
    go_wp2_with fail
    refine (one_any r _).mono ?_
    rintro e w4 ⟨rfl, hb4⟩
    have hB4 : Below w.heap.size w w4 := hB3.trans (hb4.mono hB3.size)
    have HX6 := Lib.hid (HX5.out.below hb4)
    have HF6 := Lib.hid ((hb4.frozen (p := ⟨w.heap.size + 1, 4, none⟩) (cell_lt HX5.out.2.1)).trans HF5.out)
    have hT4 : w.heap.size + 1 < w4.heap.size := cell_lt HX6.out.2.1
    clear hb4 HX5 hB3 r0 r1 r2 r3 r4 r5
    by_cases hr : r.ok
    · rw [RuleL.err_ok hr]
      by_cases hn18 : n ≤ 18
      · have hlen : ¬ (20 : Int) < (n : Int) + 2 := by omega
        have HR := Lib.hid hr
        clear hr
        obtain ⟨⟨x0, x1, x2⟩, r0, r1, r2, r3, r4, r5⟩ := HX6.out
        have hT6 : w.heap.size < w4.heap.size := by omega
        have hT7 : w.heap.size ≤ w4.heap.size := by omega
        have hT8 : w.heap.size < w4.heap.size + 1 := by omega
        go_upto_region 10 with (fail)
        have hfz := HF6.out
        go_cut [19, 20] from 82 to 83 (fun s t wc' => TwoAt w x r r r s t wc' ∧ wc'.frozen? ⟨w.heap.size + 1, 4, none⟩ = false)
        case first =>
          go_region
          all_goals
            go_wp2_with fail
            go_meet
          all_goals
            case rel =>
              first
              | exact ⟨twoAt_ab ⟨⟨x0, x1, x2⟩, r0, r1, r2, r3, r4, r5⟩ hB4 hT4, by go_simp⟩
              | exact ⟨twoAt_ba ⟨⟨x0, x1, x2⟩, r0, r1, r2, r3, r4, r5⟩ hB4 hT4, by go_simp⟩
        case rest =>
          clear hfz
          obtain ⟨⟨ga, gb, rfl, rfl, hTW⟩, hfz⟩ := hcut
          clear x0 x1 x2 r0 r1 r2 r3 r4 r5 hB4 hT4 hT6 hT7 hT8 HX6
          obtain ⟨⟨g1, g2, g3⟩, ⟨-, -, -, -, a4, -⟩, ⟨-, -, -, -, b4, -⟩, ⟨fa, fb⟩, ⟨-, -, -, -, -, r4, -⟩, -⟩ := id hTW
          have fa4 := fa 4
          have fb4 := fb 4
          have hneA : ga ≠ w.heap.size + 1 := by omega
          have hneB : gb ≠ w.heap.size + 1 := by omega
          rw [Nat.zero_add] at a4 b4 r4
          have HTW := Lib.hid (((hTW.putA 4 (.inr (.inr rfl)) (C : Int)).putB 4 (.inr (.inr rfl)) (D : Int)).putR 4 (.inr (.inr rfl)) ((C ||| D : Nat) : Int))
          clear hTW fa fb
          have hC := HC.out
          have hD := HD.out
          have hOR := HOR.out
          go_upto_region 12 with (fail)
          clear a4 b4 r4 fa4 fb4 hfz hC hD hOR hneA hneB g1 g2 g3 HF6 HF5 HF4
          obtain ⟨W, hW⟩ : ∃ W, (((wc.setCell ⟨ga, 4, none⟩ (.int .i64 (C : Int))).setCell ⟨gb, 4, none⟩ (.int .i64 (D : Int))).setCell ⟨w.heap.size + 1, 4, none⟩ (.int .i64 ((C ||| D : Nat) : Int))) = W := ⟨_, rfl⟩
          rw [hW]
          obtain ⟨A, hA⟩ : ∃ A, r.set 4 (C : Int) = A := ⟨_, rfl⟩
          obtain ⟨B, hB⟩ : ∃ B, r.set 4 (D : Int) = B := ⟨_, rfl⟩
          obtain ⟨R, hR⟩ : ∃ R, r.set 4 ((C ||| D : Nat) : Int) = R := ⟨_, rfl⟩
          have HW : Hid (TwoIs w x R A B ga gb W) := by rw [← hW, ← hA, ← hB, ← hR]; exact HTW.out
          have HAok : A.ok := by rw [← hA]; exact set4_ok HR.out hC2
          have HBok : B.ok := by rw [← hB]; exact set4_ok HR.out hD2
          have HRok : R.ok := by rw [← hR]; exact set4_ok HR.out hCD2
          obtain ⟨V1, hV1⟩ : ∃ V1, seesV m z (n + 1) (joinR n rs fun _ => R) x = V1 := ⟨_, rfl⟩
          have HV1 := Lib.hid hV1
          have HE1 := Lib.hid (seesE_join (q := fun _ => R) (k := 1) HE.out (by omega) fun _ _ => HRok)
          have HE2 := Lib.hid (seesE_join (q := twoR A B) (k := 2) HE.out (by omega) (twoR_ok HAok HBok))
          have HV2 : Hid (seesV m z (n + 2) (joinR n rs (twoR A B)) x = V1) := by
            show _ = V1
            rw [← hV1]
            exact seesV_two HE.out (by omega) HRok HAok HBok (fun i _ => by rw [← hA, ← hB, ← hR]; exact kinds_rule) (by rw [← hA, ← hR]; rfl) (by rw [← hB, ← hR]; rfl)
          have HE3 := Lib.hid (seesE_join (q := fun _ => ⟨-1, -1, 0, 1000, 255, false⟩) (k := 1) HE.out (by omega) fun _ _ => by decide)
          have HV3 := Lib.hid (deny_all HE.out (show n + 1 ≤ 20 by omega))
          clear hW hA hB hR HTW hV1 HAok HBok HRok
          obtain ⟨T, hT0, hT2, hT3, hTS⟩ := HW.out.top
          have hT1 : w.heap.size + 1 ≤ T := by have := HW.out.1.1; omega
          have hwT := hT0
          have HST := drewFour (startFour HW.out hTS)
          have HClone : Hid (∀ w', Below w.heap.size w w' → T < w'.heap.size → Calls Try.prog 21 #[.slice b n capb] w' (NewT T n rs w')) := fun w' h hT => cloneR_T (HS.out.below h) (by omega) hT
          have HApp : Hid (∀ (k : Nat) (q : Nat → RuleL) (V : Nat), seesE m z (n + k) (joinR n rs q) x = 0 → seesV m z (n + k) (joinR n rs q) x = V → ∀ w' B' A' c, Below w.heap.size w w' → OwnR B' w' (.slice A' (n + k) c) (n + k) (joinR n rs q) → Calls Try.prog 9 #[.slice a m cap, .slice A' (n + k) c, x.v] w' fun e w'' => e = .returned (.tuple #[.int .i64 (V : Nat), .int .i64 0]) ∧ Below w'.heap.size w' w'') := fun k q V hE hV w' B' A' c h ho => by
            have h1 := sees_any a m cap z A' (n + k) c _ x w' (HU.out.below h) HM.out ho.slr.1 (Nat.le_trans ho.slr.2.1 ho.slr.2.2)
            rw [hE, hV] at h1
            exact h1
          have HS1 := Lib.hid (HApp.out 1 _ _ HE1.out HV1.out)
          have HS2 := Lib.hid (HApp.out 2 _ _ HE2.out HV2.out)
          have HS3 := Lib.hid (HApp.out 1 _ _ HE3.out HV3.out)
          clear HApp
          have hn1000 : n + 1 ≤ 1000 := by omega
          have hn1002 : n + 2 ≤ 1000 := by omega
          go_cut [21, 22] from 96 to 106 (fun s t wc => s = .int .i64 (V1 : Nat) ∧ t = .int .i64 0 ∧ Below w.heap.size w wc ∧ T < wc.heap.size ∧ wc.cell? ⟨w.heap.size, 0, none⟩ = some (.int .i64 x.role) ∧ wc.cell? ⟨w.heap.size, 1, none⟩ = some (.int .i64 x.why) ∧ wc.cell? ⟨w.heap.size, 2, none⟩ = some (.int .i64 x.time) ∧ wc.cell? ⟨(w.heap.size + 1), 0, none⟩ = some (.int .i64 R.role) ∧ wc.cell? ⟨(w.heap.size + 1), 1, none⟩ = some (.int .i64 R.why) ∧ wc.cell? ⟨(w.heap.size + 1), 2, none⟩ = some (.int .i64 R.frm) ∧ wc.cell? ⟨(w.heap.size + 1), 3, none⟩ = some (.int .i64 R.til) ∧ wc.cell? ⟨(w.heap.size + 1), 4, none⟩ = some (.int .i64 R.cats) ∧ wc.cell? ⟨(w.heap.size + 1), 5, none⟩ = some (.bool R.allow) ∧ wc.cell? ⟨ga, 0, none⟩ = some (.int .i64 A.role) ∧ wc.cell? ⟨ga, 1, none⟩ = some (.int .i64 A.why) ∧ wc.cell? ⟨ga, 2, none⟩ = some (.int .i64 A.frm) ∧ wc.cell? ⟨ga, 3, none⟩ = some (.int .i64 A.til) ∧ wc.cell? ⟨ga, 4, none⟩ = some (.int .i64 A.cats) ∧ wc.cell? ⟨ga, 5, none⟩ = some (.bool A.allow) ∧ wc.cell? ⟨gb, 0, none⟩ = some (.int .i64 B.role) ∧ wc.cell? ⟨gb, 1, none⟩ = some (.int .i64 B.why) ∧ wc.cell? ⟨gb, 2, none⟩ = some (.int .i64 B.frm) ∧ wc.cell? ⟨gb, 3, none⟩ = some (.int .i64 B.til) ∧ wc.cell? ⟨gb, 4, none⟩ = some (.int .i64 B.cats) ∧ wc.cell? ⟨gb, 5, none⟩ = some (.bool B.allow))
          case first =>
            go_region_held3 (fun w' => Below w.heap.size w w' ∧ T < w'.heap.size ∧ w'.cell? ⟨w.heap.size, 0, none⟩ = some (.int .i64 x.role) ∧ w'.cell? ⟨w.heap.size, 1, none⟩ = some (.int .i64 x.why) ∧ w'.cell? ⟨w.heap.size, 2, none⟩ = some (.int .i64 x.time) ∧ w'.cell? ⟨(w.heap.size + 1), 0, none⟩ = some (.int .i64 R.role) ∧ w'.cell? ⟨(w.heap.size + 1), 1, none⟩ = some (.int .i64 R.why) ∧ w'.cell? ⟨(w.heap.size + 1), 2, none⟩ = some (.int .i64 R.frm) ∧ w'.cell? ⟨(w.heap.size + 1), 3, none⟩ = some (.int .i64 R.til) ∧ w'.cell? ⟨(w.heap.size + 1), 4, none⟩ = some (.int .i64 R.cats) ∧ w'.cell? ⟨(w.heap.size + 1), 5, none⟩ = some (.bool R.allow) ∧ w'.cell? ⟨ga, 0, none⟩ = some (.int .i64 A.role) ∧ w'.cell? ⟨ga, 1, none⟩ = some (.int .i64 A.why) ∧ w'.cell? ⟨ga, 2, none⟩ = some (.int .i64 A.frm) ∧ w'.cell? ⟨ga, 3, none⟩ = some (.int .i64 A.til) ∧ w'.cell? ⟨ga, 4, none⟩ = some (.int .i64 A.cats) ∧ w'.cell? ⟨ga, 5, none⟩ = some (.bool A.allow) ∧ w'.cell? ⟨gb, 0, none⟩ = some (.int .i64 B.role) ∧ w'.cell? ⟨gb, 1, none⟩ = some (.int .i64 B.why) ∧ w'.cell? ⟨gb, 2, none⟩ = some (.int .i64 B.frm) ∧ w'.cell? ⟨gb, 3, none⟩ = some (.int .i64 B.til) ∧ w'.cell? ⟨gb, 4, none⟩ = some (.int .i64 B.cats) ∧ w'.cell? ⟨gb, 5, none⟩ = some (.bool B.allow)) (first | exact keepFour hT0 hT1 hT2 hT3 (by assumption) (by assumption) (by first | assumption | exact And.left (And.right (by assumption))) hwT | exact keepFour hT0 hT1 hT2 hT3 (by assumption) ((Below.refl _ _).alloc (Nat.le_refl _) _) (And.left (And.right (by assumption))) hwT | exact HST)
              (first
                | (go_at_call 21; refine (HClone.out _ (And.left (by assumption)) (And.left (And.right (by assumption)))).mono ?_; rintro e w' ⟨v, A, c, rfl, rfl, hown, hb, hTB⟩)
                | (go_at_call 9; refine (HS1.out _ _ _ _ (And.left (by assumption)) (by assumption)).mono ?_; rintro e w' ⟨rfl, hb⟩)
                | (refine step_app _ rfl _ _ rfl _ (by rfl) (by first | assumption | exact OwnR.alloc (by assumption)) _ 1 _ _ (by rfl) (by first | exact slr_lit1 _ _ | exact slr_lit1d (by assumption) (by simp)) (by omega) hn1000 (by first | exact Below.size (by assumption) | exact le_alloc (by assumption)) ?_; intro A2 cap2 w2 hown2 hbA))
            all_goals
              go_wp2_with fail
              go_meet
            all_goals
              case rel => exact ⟨rfl, rfl, by assumption⟩
          case rest =>
            obtain ⟨rfl, rfl, hS5⟩ := hcut
            clear HST HW HS1
            have HST := drewFour hS5
            clear hS5
            go_upto_region 13 with (fail)
            go_cut [23, 24] from 107 to 118 (fun s t wc => s = .int .i64 (V1 : Nat) ∧ t = .int .i64 0 ∧ Below w.heap.size w wc ∧ T < wc.heap.size ∧ wc.cell? ⟨w.heap.size, 0, none⟩ = some (.int .i64 x.role) ∧ wc.cell? ⟨w.heap.size, 1, none⟩ = some (.int .i64 x.why) ∧ wc.cell? ⟨w.heap.size, 2, none⟩ = some (.int .i64 x.time) ∧ wc.cell? ⟨(w.heap.size + 1), 0, none⟩ = some (.int .i64 R.role) ∧ wc.cell? ⟨(w.heap.size + 1), 1, none⟩ = some (.int .i64 R.why) ∧ wc.cell? ⟨(w.heap.size + 1), 2, none⟩ = some (.int .i64 R.frm) ∧ wc.cell? ⟨(w.heap.size + 1), 3, none⟩ = some (.int .i64 R.til) ∧ wc.cell? ⟨(w.heap.size + 1), 4, none⟩ = some (.int .i64 R.cats) ∧ wc.cell? ⟨(w.heap.size + 1), 5, none⟩ = some (.bool R.allow) ∧ wc.cell? ⟨ga, 0, none⟩ = some (.int .i64 A.role) ∧ wc.cell? ⟨ga, 1, none⟩ = some (.int .i64 A.why) ∧ wc.cell? ⟨ga, 2, none⟩ = some (.int .i64 A.frm) ∧ wc.cell? ⟨ga, 3, none⟩ = some (.int .i64 A.til) ∧ wc.cell? ⟨ga, 4, none⟩ = some (.int .i64 A.cats) ∧ wc.cell? ⟨ga, 5, none⟩ = some (.bool A.allow) ∧ wc.cell? ⟨gb, 0, none⟩ = some (.int .i64 B.role) ∧ wc.cell? ⟨gb, 1, none⟩ = some (.int .i64 B.why) ∧ wc.cell? ⟨gb, 2, none⟩ = some (.int .i64 B.frm) ∧ wc.cell? ⟨gb, 3, none⟩ = some (.int .i64 B.til) ∧ wc.cell? ⟨gb, 4, none⟩ = some (.int .i64 B.cats) ∧ wc.cell? ⟨gb, 5, none⟩ = some (.bool B.allow))
            case first =>
              go_region_held3 (fun w' => Below w.heap.size w w' ∧ T < w'.heap.size ∧ w'.cell? ⟨w.heap.size, 0, none⟩ = some (.int .i64 x.role) ∧ w'.cell? ⟨w.heap.size, 1, none⟩ = some (.int .i64 x.why) ∧ w'.cell? ⟨w.heap.size, 2, none⟩ = some (.int .i64 x.time) ∧ w'.cell? ⟨(w.heap.size + 1), 0, none⟩ = some (.int .i64 R.role) ∧ w'.cell? ⟨(w.heap.size + 1), 1, none⟩ = some (.int .i64 R.why) ∧ w'.cell? ⟨(w.heap.size + 1), 2, none⟩ = some (.int .i64 R.frm) ∧ w'.cell? ⟨(w.heap.size + 1), 3, none⟩ = some (.int .i64 R.til) ∧ w'.cell? ⟨(w.heap.size + 1), 4, none⟩ = some (.int .i64 R.cats) ∧ w'.cell? ⟨(w.heap.size + 1), 5, none⟩ = some (.bool R.allow) ∧ w'.cell? ⟨ga, 0, none⟩ = some (.int .i64 A.role) ∧ w'.cell? ⟨ga, 1, none⟩ = some (.int .i64 A.why) ∧ w'.cell? ⟨ga, 2, none⟩ = some (.int .i64 A.frm) ∧ w'.cell? ⟨ga, 3, none⟩ = some (.int .i64 A.til) ∧ w'.cell? ⟨ga, 4, none⟩ = some (.int .i64 A.cats) ∧ w'.cell? ⟨ga, 5, none⟩ = some (.bool A.allow) ∧ w'.cell? ⟨gb, 0, none⟩ = some (.int .i64 B.role) ∧ w'.cell? ⟨gb, 1, none⟩ = some (.int .i64 B.why) ∧ w'.cell? ⟨gb, 2, none⟩ = some (.int .i64 B.frm) ∧ w'.cell? ⟨gb, 3, none⟩ = some (.int .i64 B.til) ∧ w'.cell? ⟨gb, 4, none⟩ = some (.int .i64 B.cats) ∧ w'.cell? ⟨gb, 5, none⟩ = some (.bool B.allow)) (first | exact keepFour hT0 hT1 hT2 hT3 (by assumption) (by assumption) (by first | assumption | exact And.left (And.right (by assumption))) hwT | exact keepFour hT0 hT1 hT2 hT3 (by assumption) ((Below.refl _ _).alloc (Nat.le_refl _) _) (And.left (And.right (by assumption))) hwT | exact HST)
                (first
                  | (go_at_call 21; refine (HClone.out _ (And.left (by assumption)) (And.left (And.right (by assumption)))).mono ?_; rintro e w' ⟨v, A, c, rfl, rfl, hown, hb, hTB⟩)
                  | (go_at_call 9; refine (HS2.out _ _ _ _ (And.left (by assumption)) (by assumption)).mono ?_; rintro e w' ⟨rfl, hb⟩)
                  | (refine step_app _ rfl _ _ rfl _ (by rfl) (by first | assumption | exact OwnR.alloc (by assumption)) _ 2 _ _ (by rfl) (by first | exact slr_lit2 _ _ | exact slr_lit2d (by assumption) (by simp)) (by omega) hn1002 (by first | exact Below.size (by assumption) | exact le_alloc (by assumption)) ?_; intro A2 cap2 w2 hown2 hbA))
              all_goals
                go_wp2_with fail
                go_meet
              all_goals
                case rel => exact ⟨rfl, rfl, by assumption⟩
            case rest =>
              obtain ⟨rfl, rfl, hS6⟩ := hcut
              clear HST HS2
              have HST := drewFour hS6
              clear hS6
              go_upto_region 14 with (fail)
              go_cut [25, 26] from 119 to 129 (fun s t wc => s = .int .i64 0 ∧ t = .int .i64 0 ∧ Below w.heap.size w wc ∧ T < wc.heap.size ∧ wc.cell? ⟨w.heap.size, 0, none⟩ = some (.int .i64 x.role) ∧ wc.cell? ⟨w.heap.size, 1, none⟩ = some (.int .i64 x.why) ∧ wc.cell? ⟨w.heap.size, 2, none⟩ = some (.int .i64 x.time) ∧ wc.cell? ⟨(w.heap.size + 1), 0, none⟩ = some (.int .i64 R.role) ∧ wc.cell? ⟨(w.heap.size + 1), 1, none⟩ = some (.int .i64 R.why) ∧ wc.cell? ⟨(w.heap.size + 1), 2, none⟩ = some (.int .i64 R.frm) ∧ wc.cell? ⟨(w.heap.size + 1), 3, none⟩ = some (.int .i64 R.til) ∧ wc.cell? ⟨(w.heap.size + 1), 4, none⟩ = some (.int .i64 R.cats) ∧ wc.cell? ⟨(w.heap.size + 1), 5, none⟩ = some (.bool R.allow) ∧ wc.cell? ⟨ga, 0, none⟩ = some (.int .i64 A.role) ∧ wc.cell? ⟨ga, 1, none⟩ = some (.int .i64 A.why) ∧ wc.cell? ⟨ga, 2, none⟩ = some (.int .i64 A.frm) ∧ wc.cell? ⟨ga, 3, none⟩ = some (.int .i64 A.til) ∧ wc.cell? ⟨ga, 4, none⟩ = some (.int .i64 A.cats) ∧ wc.cell? ⟨ga, 5, none⟩ = some (.bool A.allow) ∧ wc.cell? ⟨gb, 0, none⟩ = some (.int .i64 B.role) ∧ wc.cell? ⟨gb, 1, none⟩ = some (.int .i64 B.why) ∧ wc.cell? ⟨gb, 2, none⟩ = some (.int .i64 B.frm) ∧ wc.cell? ⟨gb, 3, none⟩ = some (.int .i64 B.til) ∧ wc.cell? ⟨gb, 4, none⟩ = some (.int .i64 B.cats) ∧ wc.cell? ⟨gb, 5, none⟩ = some (.bool B.allow))
              case first =>
                go_region_held3 (fun w' => Below w.heap.size w w' ∧ T < w'.heap.size ∧ w'.cell? ⟨w.heap.size, 0, none⟩ = some (.int .i64 x.role) ∧ w'.cell? ⟨w.heap.size, 1, none⟩ = some (.int .i64 x.why) ∧ w'.cell? ⟨w.heap.size, 2, none⟩ = some (.int .i64 x.time) ∧ w'.cell? ⟨(w.heap.size + 1), 0, none⟩ = some (.int .i64 R.role) ∧ w'.cell? ⟨(w.heap.size + 1), 1, none⟩ = some (.int .i64 R.why) ∧ w'.cell? ⟨(w.heap.size + 1), 2, none⟩ = some (.int .i64 R.frm) ∧ w'.cell? ⟨(w.heap.size + 1), 3, none⟩ = some (.int .i64 R.til) ∧ w'.cell? ⟨(w.heap.size + 1), 4, none⟩ = some (.int .i64 R.cats) ∧ w'.cell? ⟨(w.heap.size + 1), 5, none⟩ = some (.bool R.allow) ∧ w'.cell? ⟨ga, 0, none⟩ = some (.int .i64 A.role) ∧ w'.cell? ⟨ga, 1, none⟩ = some (.int .i64 A.why) ∧ w'.cell? ⟨ga, 2, none⟩ = some (.int .i64 A.frm) ∧ w'.cell? ⟨ga, 3, none⟩ = some (.int .i64 A.til) ∧ w'.cell? ⟨ga, 4, none⟩ = some (.int .i64 A.cats) ∧ w'.cell? ⟨ga, 5, none⟩ = some (.bool A.allow) ∧ w'.cell? ⟨gb, 0, none⟩ = some (.int .i64 B.role) ∧ w'.cell? ⟨gb, 1, none⟩ = some (.int .i64 B.why) ∧ w'.cell? ⟨gb, 2, none⟩ = some (.int .i64 B.frm) ∧ w'.cell? ⟨gb, 3, none⟩ = some (.int .i64 B.til) ∧ w'.cell? ⟨gb, 4, none⟩ = some (.int .i64 B.cats) ∧ w'.cell? ⟨gb, 5, none⟩ = some (.bool B.allow)) (first | exact keepFour hT0 hT1 hT2 hT3 (by assumption) (by assumption) (by first | assumption | exact And.left (And.right (by assumption))) hwT | exact keepFour hT0 hT1 hT2 hT3 (by assumption) ((Below.refl _ _).alloc (Nat.le_refl _) _) (And.left (And.right (by assumption))) hwT | exact HST)
                  (first
                    | (go_at_call 21; refine (HClone.out _ (And.left (by assumption)) (And.left (And.right (by assumption)))).mono ?_; rintro e w' ⟨v, A, c, rfl, rfl, hown, hb, hTB⟩)
                    | (go_at_call 9; refine (HS3.out _ _ _ _ (And.left (by assumption)) (by assumption)).mono ?_; rintro e w' ⟨rfl, hb⟩)
                    | (refine step_app _ rfl _ _ rfl _ (by rfl) (by first | assumption | exact OwnR.alloc (by assumption)) _ 1 _ _ (by rfl) (by first | exact slr_deny _ _ | exact slr_denyd (by assumption) (by simp)) (by omega) hn1000 (by first | exact Below.size (by assumption) | exact le_alloc (by assumption)) ?_; intro A2 cap2 w2 hown2 hbA))
                all_goals
                  go_wp2_with fail
                  go_meet
                all_goals
                  case rel => exact ⟨rfl, rfl, by assumption⟩
              case rest =>
                obtain ⟨rfl, rfl, hB7, -⟩ := hcut
                clear HST HS3
                go_wp2_with fail
                go_ret
                exact ⟨rfl, hB7⟩
      · have hlen : (20 : Int) < (n : Int) + 2 := by omega
        clear HX6
        go_wp2_with fail
        go_ret
        exact ⟨rfl, hB4⟩
    · have hv := RuleL.err_ne hr
      obtain ⟨v, hv2⟩ : ∃ v, r.err = v := ⟨_, rfl⟩
      rw [hv2] at hv ⊢
      clear hv2 HX6 hr
      rcases hv with rfl | rfl
      all_goals
        go_wp2_with fail
        go_ret
        exact ⟨rfl, hB4⟩
  · obtain rfl := HV0.out h0
    clear HX5
    rcases hEc with rfl | rfl | rfl | rfl | rfl
    · exact absurd rfl h0
    all_goals
      clear h0
      go_wp2_with fail
      go_ret
      exact ⟨rfl, hB3⟩
end Go.Proofs.Ytpjmhajhmkfolaa
