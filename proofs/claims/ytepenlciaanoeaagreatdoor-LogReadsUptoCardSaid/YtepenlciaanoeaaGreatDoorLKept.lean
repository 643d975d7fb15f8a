/- Blocks that stay as they are. -/
import Derived.Test.YtepenlciaanoeaaGreatDoorRuleA
import Derived.Test.YtepenlciaanoeaaGreatDoorLogOp
set_option linter.unusedVariables false
set_option linter.unusedSimpArgs false
set_option maxRecDepth 100000
namespace Go.Proofs.YtepenlciaanoeaaGreatDoor
open Go.RowKit Go.Sort

/-- of the blocks Z all that are there stay as they are -/
structure Kept (Z : Nat → Prop) (w w' : World) : Prop where
  os : w'.os = w.os
  tape : w'.tape = w.tape
  output : w'.output = w.output
  size : w.heap.size ≤ w'.heap.size
  block : ∀ z, Z z → z < w.heap.size → w'.heap[z]? = w.heap[z]?
theorem Kept.refl (Z : Nat → Prop) (w : World) : Kept Z w w := ⟨rfl, rfl, rfl, Nat.le_refl _, fun _ _ _ => rfl⟩
theorem Kept.trans {Z : Nat → Prop} {w w1 w2 : World} (h : Kept Z w w1) (k : Kept Z w1 w2) : Kept Z w w2 :=
  ⟨k.os.trans h.os, k.tape.trans h.tape, k.output.trans h.output, Nat.le_trans h.size k.size, fun z hz hl => (k.block z hz (Nat.lt_of_lt_of_le hl h.size)).trans (h.block z hz hl)⟩
theorem Kept.sub {Z Z' : Nat → Prop} {w w' : World} (h : Kept Z w w') (hz : ∀ z, z < w.heap.size → Z' z → Z z) : Kept Z' w w' := ⟨h.os, h.tape, h.output, h.size, fun z k hl => h.block z (hz z hl k) hl⟩
theorem Kept.of {Z : Nat → Prop} {w w' : World} (h : Below w.heap.size w w') : Kept Z w w' := ⟨h.os, h.tape, h.output, h.size, fun z _ hl => h.block z hl⟩
theorem Kept.to {Z : Nat → Prop} {w w' : World} {S : Nat} (h : Kept Z w w') (hz : ∀ z, z < S → Z z) (hS : S ≤ w.heap.size) : Below S w w' := ⟨h.os, h.tape, h.output, h.size, fun z hl => h.block z (hz z hl) (Nat.lt_of_lt_of_le hl hS)⟩
theorem Kept.grown {Z : Nat → Prop} {w w' : World} {row : Option Nat} (h : w.grownBy w' row) (hz : ∀ z, Z z → some z ≠ row) : Kept Z w w' := ⟨h.os, h.tape, h.output, h.size, fun z k hl => h.block z hl (hz z k)⟩
theorem Kept.cell {Z : Nat → Prop} {w w' : World} {b o : Nat} {v : Value} (h : Kept Z w w') (hz : Z b) (hc : w.cell? ⟨b, o, none⟩ = some v) : w'.cell? ⟨b, o, none⟩ = some v := (World.cell?_of_block (a := ⟨b, o, none⟩) (h.block b hz (cell_lt hc))).trans hc
theorem Kept.frozen {Z : Nat → Prop} {w w' : World} {b o : Nat} (h : Kept Z w w') (hz : Z b) (hl : b < w.heap.size) : w'.frozen? ⟨b, o, none⟩ = w.frozen? ⟨b, o, none⟩ := World.frozen?_of_block (a := ⟨b, o, none⟩) (h.block b hz hl)
theorem Kept.drew (Z : Nat → Prop) (w : World) : Kept Z w w.drew := ⟨rfl, rfl, rfl, Nat.le_refl _, fun _ _ _ => rfl⟩

/-- so it is in whatever world in which the blocks Z are as they are here -/
def On (Z : Nat → Prop) (P : World → Prop) (w : World) : Prop := ∀ w', Kept Z w w' → P w'
theorem On.here {Z : Nat → Prop} {P : World → Prop} {w : World} (h : On Z P w) : P w := h w (Kept.refl _ _)
theorem On.step {Z Z1 Z2 : Nat → Prop} {P : World → Prop} {w w1 : World} (h : On Z P w) (k : Kept Z1 w w1) (h1 : ∀ z, z < w.heap.size → Z z → Z1 z) (h2 : ∀ z, z < w.heap.size → Z z → Z2 z) : On Z2 P w1 := fun w2 k2 =>
  h w2 ⟨k2.os.trans k.os, k2.tape.trans k.tape, k2.output.trans k.output, Nat.le_trans k.size k2.size, fun z hz hl => (k2.block z (h2 z hl hz) (Nat.lt_of_lt_of_le hl k.size)).trans (k.block z (h1 z hl hz) hl)⟩
theorem own_kept {Z : Nat → Prop} {B size n : Nat} {e : TypeId} {w w' : World} {v : Value} {xs : List Value} (h : w.ownsRow B e size v n xs) (k : Kept Z w w') (hz : ∀ b, v.ownBlock = some b → Z b) : w'.ownsRow B e size v n xs := by
  obtain ⟨h1, h2⟩ := h
  refine ⟨h1, ?_⟩
  rcases h2 with h2 | ⟨g, cap, cur, e1, hlo, hg, r⟩
  · exact .inl h2
  · refine .inr ⟨g, cap, cur, e1, hlo, ?_, r⟩
    rw [k.block g (hz g (by rw [e1]; rfl)) (Array.getElem?_eq_some_iff.1 hg).1]
    exact hg
theorem own_from {B size n : Nat} {e : TypeId} {w : World} {v : Value} {xs : List Value} (h : w.ownsRow B e size v n xs) {Z : Nat → Prop} (hz : ∀ b, B ≤ b → b < w.heap.size → Z b) : ∀ b, v.ownBlock = some b → Z b := fun b hb => by
  obtain ⟨h1, h2⟩ := World.ownsRow.lt h b hb
  exact hz b h1 h2

/-! ## what an operation's lists lie in -/
theorem SlR.kept {Z : Nat → Prop} {w w' : World} {a : Option Addr} {n : Nat} {rs : Nat → RuleL} (h : SlR w a n rs) (k : Kept Z w w') (hz : ∀ b off, a = some ⟨b, off, none⟩ → b < w.heap.size → Z b) : SlR w' a n rs := fun i hi => by
  obtain ⟨b, off, e, c0, c1, c2, c3, c4, c5⟩ := h i hi
  have z := hz b off e (cell_lt c0)
  exact ⟨b, off, e, k.cell z c0, k.cell z c1, k.cell z c2, k.cell z c3, k.cell z c4, k.cell z c5⟩
theorem SlF.kept {Z : Nat → Prop} {w w' : World} {a : Option Addr} {l : List FieldL} (h : SlF w a l) (k : Kept Z w w') (hz : ∀ b off, a = some ⟨b, off, none⟩ → b < w.heap.size → Z b) : SlF w' a l := fun i f hi => by
  obtain ⟨b, off, e, c0, c1⟩ := h i f hi
  have z := hz b off e (cell_lt c0)
  exact ⟨b, off, e, k.cell z c0, k.cell z c1⟩
theorem SlS.kept {Z : Nat → Prop} {w w' : World} {a : Option Addr} {l : List ByteArray} (h : SlS w a l) (k : Kept Z w w') (hz : ∀ b off, a = some ⟨b, off, none⟩ → b < w.heap.size → Z b) : SlS w' a l := fun i f hi => by
  obtain ⟨b, off, e, c0⟩ := h i f hi
  exact ⟨b, off, e, k.cell (hz b off e (cell_lt c0)) c0⟩
theorem RecL.in_.kept {Z : Nat → Prop} {r : RecL} {p : At} {w w' : World} (h : r.in_ p w) (k : Kept Z w w') (hz : ∀ b off, (p.fa = some ⟨b, off, none⟩ ∨ p.ra = some ⟨b, off, none⟩) → b < w.heap.size → Z b) : r.in_ p w' :=
  ⟨h.hf.kept k fun b off e => hz b off (.inl e), h.hr.kept k fun b off e => hz b off (.inr e), h.fl, h.rl, h.fm, h.rm⟩
theorem OpL.in_.kept {Z : Nat → Prop} {o : OpL} {P : OpP} {w w' : World} (h : o.in_ P w) (k : Kept Z w w') (hz : ∀ b off, (P.ra = some ⟨b, off, none⟩ ∨ P.p.fa = some ⟨b, off, none⟩ ∨ P.p.ra = some ⟨b, off, none⟩) → b < w.heap.size → Z b) : o.in_ P w' :=
  ⟨h.rs.kept k fun b off e => hz b off (.inl e), h.rl, h.rm, h.r.kept k fun b off e => hz b off (.inr e), h.sh, h.fsh⟩
end Go.Proofs.YtepenlciaanoeaaGreatDoor
