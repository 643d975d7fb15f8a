/- Records in memory: slices of fields, slices of strings; '[]byte(s)'; regions that draw their order and hold calls that make memory. -/
import Derived.Test.YtepenlciaanoeaaGreatDoorProg
import Derived.Test.YtepenlciaanoeaaGreatDoorRMath
import Derived.Test.YtepenlciaanoeaaGreatDoorBase
import Derived.WalkKit
import Derived.WalkSpells
import Derived.WalkLawsBesides
import Derived.Handy
import Derived.Lib.Hide
import Derived.Lib.ConvBytes
import Derived.Lib.QuietBelow
import Derived.BigQuiet
import Derived.Deep.QuietTactic
set_option linter.unusedVariables false
set_option linter.unusedSimpArgs false
set_option maxRecDepth 100000
namespace Go.Proofs.YtepenlciaanoeaaGreatDoor
open Go.RowKit Go.Sort

/-- how much a call has made -/
theorem bsize {W w1 : World} (hb : Below W.heap.size W w1) : ∃ k, w1.heap.size = W.heap.size + k := ⟨w1.heap.size - W.heap.size, by have := hb.size; omega⟩

def FieldL.cells (f : FieldL) : List Value := [.string f.key, .string f.val]
abbrev FieldL.v (f : FieldL) : Value := .agg #[.string f.key, .string f.val]

/-- the cells of a slice of fields -/
def SlF (w : World) (a : Option Addr) (fs : List FieldL) : Prop :=
  ∀ k f, fs[k]? = some f → ∃ b off, a = some ⟨b, off, none⟩ ∧ w.cell? ⟨b, off + k * 2, none⟩ = some (.string f.key) ∧ w.cell? ⟨b, off + k * 2 + 1, none⟩ = some (.string f.val)
/-- the cells of a slice of strings -/
def SlS (w : World) (a : Option Addr) (rs : List ByteArray) : Prop :=
  ∀ k s, rs[k]? = some s → ∃ b off, a = some ⟨b, off, none⟩ ∧ w.cell? ⟨b, off + k, none⟩ = some (.string s)

theorem SlF.keep {w w' : World} {a : Option Addr} {fs : List FieldL} (h : SlF w a fs) (hb : ∀ b o, b < w.heap.size → w'.cell? ⟨b, o, none⟩ = w.cell? ⟨b, o, none⟩) : SlF w' a fs := fun k f hk => by
  obtain ⟨b, off, rfl, h1, h2⟩ := h k f hk
  exact ⟨b, off, rfl, (hb _ _ (cell_lt h1)).trans h1, (hb _ _ (cell_lt h2)).trans h2⟩
theorem SlF.below {w w' : World} {a : Option Addr} {fs : List FieldL} (h : SlF w a fs) (hb : Below w.heap.size w w') : SlF w' a fs := h.keep (bcell hb).1
theorem SlS.keep {w w' : World} {a : Option Addr} {rs : List ByteArray} (h : SlS w a rs) (hb : ∀ b o, b < w.heap.size → w'.cell? ⟨b, o, none⟩ = w.cell? ⟨b, o, none⟩) : SlS w' a rs := fun k s hk => by
  obtain ⟨b, off, rfl, h1⟩ := h k s hk
  exact ⟨b, off, rfl, (hb _ _ (cell_lt h1)).trans h1⟩
theorem SlS.below {w w' : World} {a : Option Addr} {rs : List ByteArray} (h : SlS w a rs) (hb : Below w.heap.size w w') : SlS w' a rs := h.keep (bcell hb).1
theorem SlF.nil (w : World) (a : Option Addr) : SlF w a [] := fun k f h => by simp at h
theorem SlS.nil (w : World) (a : Option Addr) : SlS w a [] := fun k f h => by simp at h

/-- a record as a value: where its lists lie, and how much room they have -/
structure At where
  fa : Option Addr
  fc : Nat
  ra : Option Addr
  rc : Nat
abbrev RecL.v (r : RecL) (p : At) : Value := .agg #[.string r.id, .int .i64 r.cats, .slice p.fa r.fs.length p.fc, .slice p.ra r.rs.length p.rc]
/-- its lists in memory -/
structure RecL.in_ (r : RecL) (p : At) (w : World) : Prop where
  hf : SlF w p.fa r.fs
  hr : SlS w p.ra r.rs
  fl : r.fs.length ≤ p.fc
  rl : r.rs.length ≤ p.rc
  fm : p.fc ≤ maxLen
  rm : p.rc ≤ maxLen
theorem RecL.in_.below {r : RecL} {p : At} {w w' : World} (h : r.in_ p w) (hb : Below w.heap.size w w') : r.in_ p w' := ⟨h.hf.below hb, h.hr.below hb, h.fl, h.rl, h.fm, h.rm⟩
theorem RecL.in_.keep {r : RecL} {p : At} {w w' : World} (h : r.in_ p w) (hb : ∀ b o, b < w.heap.size → w'.cell? ⟨b, o, none⟩ = w.cell? ⟨b, o, none⟩) : r.in_ p w' := ⟨h.hf.keep hb, h.hr.keep hb, h.fl, h.rl, h.fm, h.rm⟩
def At.none : At := ⟨Option.none, 0, Option.none, 0⟩
/-- the lists lie in memory that is new from block B on -/
def At.from_ (p : At) (B : Nat) : Prop := (∀ b off, p.fa = some ⟨b, off, Option.none⟩ → B ≤ b) ∧ (∀ b off, p.ra = some ⟨b, off, Option.none⟩ → B ≤ b)
theorem At.none_from (B : Nat) : At.none.from_ B := ⟨fun b off h => (by cases h), fun b off h => (by cases h)⟩

/-- no string is longer than Go can have it -/
def FieldL.short (f : FieldL) : Prop := f.key.size ≤ maxLen ∧ f.val.size ≤ maxLen
/-- of a record that came in: no string in it is longer than Go can have it -/
structure RecL.short (r : RecL) : Prop where
  id : r.id.size ≤ maxLen
  fs : ∀ f ∈ r.fs, f.short
  rs : ∀ s ∈ r.rs, s.size ≤ maxLen

/-- '[]byte(s)' -/
theorem conv_bytes (s : ByteArray) (w : World) : ∃ (c : Nat) (W1 : World), (convert 9 199 (.string s)).run Tryz.prog w = .ok (.slice (some ⟨w.heap.size, 0, none⟩) s.size c) W1 ∧
    (∀ j b, s.data.toList[j]? = some b → W1.cell? ⟨w.heap.size, j, none⟩ = some (.int .u8 b.toNat)) ∧ Below w.heap.size w W1 := by
  refine ⟨_, _, Lib.run_convert_string_bytes w 9 199 5 s Tryz.underlying9 Tryz.underlying199 Tryz.underlying5, fun j b hb => ?_, ⟨rfl, rfl, rfl, ?_, fun k hk => Lib.bytesWorld_at_old w _ s k hk⟩⟩
  · have hj : j < s.size := by
      rw [Lib.size_eq]
      exact (List.getElem?_eq_some_iff.1 hb).1
    rw [Lib.bytesWorld_cell w _ s j hj]
    simp [List.getD, hb]
  · rw [Lib.bytesWorld_size]
    omega

/-- a region that draws its order, whose own operations read, and whose callees make memory -/
theorem region_below_lit {P : Program} {id : Nat} {Q : Exit → Act → World → Prop} {a : Act} {w : World} {l : List Oper} (hm : P.follows .mixedOrders = true) (hB : Region.lexB .any l.toArray = true)
    (h : wpQuiet P l.toArray (fun w' => ∃ p : Regrown, w' = grow (redrawn w p.d) p.os) (fun a' => ∀ w', (∃ p : Regrown, w' = grow (redrawn w p.d) p.os) → Q .normal a' w') l a) : (Code.region id l.toArray true).wp P Q a w :=
  wp_region_quiet_below hm hB h
end Go.Proofs.YtepenlciaanoeaaGreatDoor
