/- What an index is made and changed by: add, drop, New, Note; Same. -/
import Derived.Deep.CutRange
import Derived.Deep.RegionHeld3
import Derived.Test.YteimdhkajbldjaaGreatFAll
import Derived.Test.YteimdhkajbldjaaGreatIxA
set_option linter.unusedVariables false
set_option linter.unusedSimpArgs false
set_option maxRecDepth 100000
namespace Go.Proofs.YteimdhkajbldjaaGreat
open Go.RowKit Go.Sort Go.Maps

/-- block p is an index whose map is block b; of the blocks Z none is its own -/
structure AddI (w : World) (S p b B n : Nat) (Z : Nat → Prop) (X : SaysX) (H : FieldL → Bool) (V : FieldL → Value) : Prop where
  c0 : w.cell? ⟨p, 0, none⟩ = some (.map (some b))
  f0 : w.frozen? ⟨p, 0, none⟩ = false
  hp : S ≤ p
  pb : p < b
  m : IMap w B b n X H V
  fd : ∀ f, H f = true → isFd f = true
  zp : ¬ Z p
  zb : ¬ Z b
  zv : ∀ g j, (V g).ownBlock = some j → ¬ Z j
  bs : B ≤ w.heap.size
theorem AddI.below {w w' : World} {S p b B n : Nat} {Z : Nat → Prop} {X : SaysX} {H : FieldL → Bool} {V : FieldL → Value} (h : AddI w S p b B n Z X H V) (hb : Below w.heap.size w w') : AddI w' S p b B n Z X H V := by
  obtain ⟨hc, hf⟩ := bcell hb
  exact ⟨(hc _ _ (cell_lt h.c0)).trans h.c0, (hf _ _ (cell_lt h.c0)).trans h.f0, h.hp, h.pb, h.m.below hb, h.fd, h.zp, h.zb, h.zv, Nat.le_trans h.bs hb.size⟩
/-- blocks that are not there yet are none of its own -/
theorem AddI.wide {w : World} {S p b B n : Nat} {Z : Nat → Prop} {X : SaysX} {H : FieldL → Bool} {V : FieldL → Value} (h : AddI w S p b B n Z X H V) : AddI w S p b B n (fun z => Z z ∨ w.heap.size ≤ z) X H V :=
  ⟨h.c0, h.f0, h.hp, h.pb, h.m, h.fd, fun k => k.elim h.zp (fun k => by have := cell_lt h.c0; omega), fun k => k.elim h.zb (fun k => by have := h.m.mlt; omega), fun g j hj k => k.elim (h.zv g j hj) (fun k => by have := (World.ownsRow.lt (h.m.rows.row g) j hj).2; omega), h.bs⟩
theorem AddI.sub {w : World} {S p b B n : Nat} {Z Z' : Nat → Prop} {X : SaysX} {H : FieldL → Bool} {V : FieldL → Value} (h : AddI w S p b B n Z X H V) (hz : ∀ z, Z' z → Z z) : AddI w S p b B n Z' X H V :=
  ⟨h.c0, h.f0, h.hp, h.pb, h.m, h.fd, fun k => h.zp (hz _ k), fun k => h.zb (hz _ k), fun g j hj k => h.zv g j hj (hz _ k), h.bs⟩
/-- a slice of the index doesn't lie in one of those blocks -/
theorem AddI.apart {w : World} {S p b B n : Nat} {Z : Nat → Prop} {X : SaysX} {H : FieldL → Bool} {V : FieldL → Value} (h : AddI w S p b B n Z X H V) (f : FieldL) {z : Nat} (hz : Z z) : some z ≠ (V f).ownBlock := fun e => h.zv f z e.symm hz
theorem AddI.apart_p {w : World} {S p b B n : Nat} {Z : Nat → Prop} {X : SaysX} {H : FieldL → Bool} {V : FieldL → Value} (h : AddI w S p b B n Z X H V) (f : FieldL) : some p ≠ (V f).ownBlock := fun e => by
  have h1 := (World.ownsRow.lt (h.m.rows.row f) p e.symm).1
  have h2 := h.m.lt
  have h3 := h.pb
  omega
theorem AddI.apart_b {w : World} {S p b B n : Nat} {Z : Nat → Prop} {X : SaysX} {H : FieldL → Bool} {V : FieldL → Value} (h : AddI w S p b B n Z X H V) (f : FieldL) : some b ≠ (V f).ownBlock := fun e => by
  have h1 := (World.ownsRow.lt (h.m.rows.row f) b e.symm).1
  have h2 := h.m.lt
  omega
/-- m[f] = v' -/
theorem AddI.store {w w5 : World} {S p b B n : Nat} {Z : Nat → Prop} {X : SaysX} {H : FieldL → Bool} {V : FieldL → Value} (h : AddI w S p b B n Z X H V) (hz : ∀ z, Z z → z < w.heap.size) (hn : n < maxLen) {f : FieldL} (hf : isFd f = true) {v' : Value} {l : List ByteArray} (hrow : OwnS B w5 v' l) (hg : w.grownBy w5 (V f).ownBlock)
    (hloc : (V f).ownBlock = v'.ownBlock ∨ ∀ g, v'.ownBlock = some g → w.heap.size ≤ g) :
    ∃ w6, (Instr.mapUpdate 126 (.map (some b)) f.v v').run Tryz.prog w5 = .ok () w6 ∧ Hid (AddI w6 S p b B (n + 1) Z (putX X f l) (putH H f) (putV V f v')) ∧ Hid (w5.grownBy w6 (some b)) := by
  obtain ⟨w6, hrun, hm, hg6⟩ := h.m.store hn (short_fd hf) hrow hg hloc
  have hplt := cell_lt h.c0
  have h5 : w5.heap[p]? = w.heap[p]? := hg.block p hplt (h.apart_p f)
  have h6 : w6.heap[p]? = w.heap[p]? := (hg6.out.block p (Nat.lt_of_lt_of_le hplt hg.size) (fun e => by cases e; have := h.pb; omega)).trans h5
  refine ⟨w6, hrun, ⟨(World.cell?_of_block (a := ⟨p, 0, none⟩) h6).trans h.c0, (World.frozen?_of_block (a := ⟨p, 0, none⟩) h6).trans h.f0, h.hp, h.pb, hm.out, fun g hH => ?_, h.zp, h.zb, fun g j hj => ?_, Nat.le_trans h.bs (Nat.le_trans hg.size hg6.out.size)⟩, hg6⟩
  · unfold putH at hH
    by_cases e : g = f
    · rw [e]
      exact hf
    · rw [if_neg e] at hH
      exact h.fd g hH
  · unfold putV at hj
    by_cases e : g = f
    · rw [if_pos e] at hj
      rcases hloc with k | k
      · exact h.zv f j (k.trans hj)
      · intro hzj
        have h1 := hz j hzj
        have h2 := k j hj
        omega
    · rw [if_neg e] at hj
      exact h.zv g j hj
theorem slF_at {w w' : World} {a : Option Addr} {fs : List FieldL} (h : SlF w a fs) (hb : ∀ b off, a = some ⟨b, off, none⟩ → fs ≠ [] → b < w.heap.size → w'.heap[b]? = w.heap[b]?) : SlF w' a fs := fun k f hk => by
  obtain ⟨b, off, rfl, h1, h2⟩ := h k f hk
  have h3 := hb b off rfl (fun e => by rw [e] at hk; simp at hk) (cell_lt h1)
  exact ⟨b, off, rfl, (World.cell?_of_block (a := ⟨b, _, none⟩) h3).trans h1, (World.cell?_of_block (a := ⟨b, _, none⟩) h3).trans h2⟩
/-- the map that an index without one is given -/
theorem addI_made (w : World) {S p : Nat} {Z : Nat → Prop} {c : Value} (hc : w.cell? ⟨p, 0, none⟩ = some c) (hf : w.frozen? ⟨p, 0, none⟩ = false) (hS : S ≤ p) (hz : ¬ Z p) (hzl : ∀ z, Z z → z < w.heap.size) :
    AddI ((w.alloc (.map #[] 0)).setCell ⟨p, 0, none⟩ (.map (some w.heap.size))) S p w.heap.size (w.heap.size + 1) 0 Z (fun _ => []) (fun _ => false) (fun _ => nilS) := by
  have hlt := cell_lt hc
  have hg := grown_setCell (w.alloc (.map #[] 0)) ⟨p, 0, none⟩ (.map (some w.heap.size))
  have hc2 : (w.alloc (.map #[] 0)).cell? ⟨p, 0, none⟩ = some c := (((Below.refl w.heap.size w).alloc (Nat.le_refl _) (.map #[] 0)).cell (p := ⟨p, 0, none⟩) hlt).trans hc
  have hf2 : (w.alloc (.map #[] 0)).frozen? ⟨p, 0, none⟩ = false := (((Below.refl w.heap.size w).alloc (Nat.le_refl _) (.map #[] 0)).frozen (p := ⟨p, 0, none⟩) hlt).trans hf
  refine ⟨World.cell?_setCell_same _ _ _ hc2, (World.frozen?_setCell _ _ _ _).trans hf2, hS, hlt, ⟨?_, ?_, by omega⟩, fun f h => (by cases h), hz, fun k => by have := hzl _ k; omega, fun g j h => (by cases h), by simp [World.setCell]⟩
  · obtain ⟨D, h1, h2⟩ := (imap_made w).m
    exact ⟨D, h1.kept hg (by simp; omega), h2⟩
  · exact ⟨fun f => World.ownsRow_nil _ _ _ _, fun f g _ => .inl rfl, fun f _ => rfl⟩
/-- an index as Idx says, and of the blocks Z none is its own -/
def IdxA (w : World) (S p M : Nat) (Z : Nat → Prop) (X : SaysX) : Prop :=
  (w.cell? ⟨p, 0, none⟩ = some (.map none) ∧ w.frozen? ⟨p, 0, none⟩ = false ∧ S ≤ p ∧ ¬ Z p ∧ ∀ f, X f = []) ∨
    ∃ b B n H V, n ≤ M ∧ AddI w S p b B n Z X H V ∧ ∀ f, H f = true → X f ≠ []
theorem IdxA.idx {w : World} {S p M : Nat} {Z : Nat → Prop} {X : SaysX} (h : IdxA w S p M Z X) : Idx w S p M X := by
  rcases h with ⟨h1, h2, h3, h4, h5⟩ | ⟨b, B, n, H, V, h1, h2, h3⟩
  · exact .bare h1 h2 h3 h5
  · exact .full ⟨b, h2.c0, h2.f0, h2.hp, h2.pb, B, n, H, V, h1, h2.m, fun f hf => ⟨h3 f hf, h2.fd f hf⟩⟩
theorem IdxA.below {w w' : World} {S p M : Nat} {Z : Nat → Prop} {X : SaysX} (h : IdxA w S p M Z X) (hb : Below w.heap.size w w') : IdxA w' S p M Z X := by
  obtain ⟨hc, hf⟩ := bcell hb
  rcases h with ⟨h1, h2, h3, h4, h5⟩ | ⟨b, B, n, H, V, h1, h2, h3⟩
  · exact .inl ⟨(hc _ _ (cell_lt h1)).trans h1, (hf _ _ (cell_lt h1)).trans h2, h3, h4, h5⟩
  · exact .inr ⟨b, B, n, H, V, h1, h2.below hb, h3⟩
theorem IdxA.mono {w : World} {S p M M' : Nat} {Z : Nat → Prop} {X : SaysX} (h : IdxA w S p M Z X) (hM : M ≤ M') : IdxA w S p M' Z X := by
  rcases h with h | ⟨b, B, n, H, V, h1, h2, h3⟩
  · exact .inl h
  · exact .inr ⟨b, B, n, H, V, Nat.le_trans h1 hM, h2, h3⟩
theorem IdxA.wide {w : World} {S p M : Nat} {Z : Nat → Prop} {X : SaysX} (h : IdxA w S p M Z X) : IdxA w S p M (fun z => Z z ∨ w.heap.size ≤ z) X := by
  rcases h with ⟨h1, h2, h3, h4, h5⟩ | ⟨b, B, n, H, V, h1, h2, h3⟩
  · exact .inl ⟨h1, h2, h3, fun k => k.elim h4 (fun k => by have := cell_lt h1; omega), h5⟩
  · exact .inr ⟨b, B, n, H, V, h1, h2.wide, h3⟩
theorem IdxA.sub {w : World} {S p M : Nat} {Z Z' : Nat → Prop} {X : SaysX} (h : IdxA w S p M Z X) (hz : ∀ z, Z' z → Z z) : IdxA w S p M Z' X := by
  rcases h with ⟨h1, h2, h3, h4, h5⟩ | ⟨b, B, n, H, V, h1, h2, h3⟩
  · exact .inl ⟨h1, h2, h3, fun k => h4 (hz _ k), h5⟩
  · exact .inr ⟨b, B, n, H, V, h1, h2.sub hz, h3⟩
/-- all that is its own lies from S on, and is there -/
theorem Idx.with {w : World} {S p M : Nat} {X : SaysX} (h : Idx w S p M X) : IdxA w S p M (fun z => z < S ∨ w.heap.size ≤ z) X := by
  cases h with
  | bare c0 f0 hp h => exact .inl ⟨c0, f0, hp, fun k => by have := cell_lt c0; omega, h⟩
  | full h =>
    obtain ⟨b, c0, f0, h1, h2, B, n, H, V, h3, h4, h5⟩ := h
    have hl := h4.lt
    have hm := h4.mlt
    have hc := cell_lt c0
    exact .inr ⟨b, b + 1, n, H, V, h3, ⟨c0, f0, h1, h2, ⟨h4.m, ⟨fun f => own_low (h4.rows.row f) hl, h4.rows.ap, h4.rows.off⟩, Nat.lt_succ_self b⟩, fun f hf => (h5 f hf).2, by omega, by omega, fun g j hj k => by
      obtain ⟨k1, k2⟩ := World.ownsRow.lt (h4.rows.row g) j hj
      omega, hm⟩, fun f hf => (h5 f hf).1⟩
theorem addX_none (X : SaysX) (id : ByteArray) : addX X [] id = X := addX_nil X id
theorem addX_step {X : SaysX} {fs : List FieldL} {g : FieldL} {id : ByteArray} (h : g ∉ fs) : addX X (fs ++ [g]) id = putX (addX X fs id) g (insN (X g) id) := by
  rw [addX_snoc h]
  funext f
  unfold putX
  by_cases e : f = g
  · rw [if_pos e, if_pos e, e]
    unfold addX
    rw [if_neg h]
  · rw [if_neg e, if_neg e]
theorem addX_at {X : SaysX} {fs : List FieldL} {g : FieldL} {id : ByteArray} (h : g ∉ fs) : addX X fs id g = X g := by
  unfold addX
  rw [if_neg h]
theorem insN_ins {l : List ByteArray} {s : ByteArray} (h : Asc l) : insN l s = insS l (idxN l s) s := insN_split h
theorem insN_ne (l : List ByteArray) (s : ByteArray) : insN l s ≠ [] := fun e => by
  have := insN_length l s
  rw [e] at this
  simp at this
/-- of the blocks Z all that are there stay as they are -/
structure Keeps (Z : Nat → Prop) (w w' : World) : Prop where
  os : w'.os = w.os
  tape : w'.tape = w.tape
  output : w'.output = w.output
  size : w.heap.size ≤ w'.heap.size
  block : ∀ z, Z z → z < w.heap.size → w'.heap[z]? = w.heap[z]?
theorem Keeps.refl (Z : Nat → Prop) (w : World) : Keeps Z w w := ⟨rfl, rfl, rfl, Nat.le_refl _, fun _ _ _ => rfl⟩
theorem Keeps.trans {Z : Nat → Prop} {w w1 w2 : World} (h : Keeps Z w w1) (k : Keeps Z w1 w2) : Keeps Z w w2 :=
  ⟨k.os.trans h.os, k.tape.trans h.tape, k.output.trans h.output, Nat.le_trans h.size k.size, fun z hz hl => (k.block z hz (Nat.lt_of_lt_of_le hl h.size)).trans (h.block z hz hl)⟩
theorem Keeps.sub {Z Z' : Nat → Prop} {w w' : World} (h : Keeps Z w w') (hz : ∀ z, Z' z → Z z) : Keeps Z' w w' := ⟨h.os, h.tape, h.output, h.size, fun z k hl => h.block z (hz z k) hl⟩
theorem Keeps.of {Z : Nat → Prop} {w w' : World} (h : Below w.heap.size w w') : Keeps Z w w' := ⟨h.os, h.tape, h.output, h.size, fun z _ hl => h.block z hl⟩
theorem Keeps.to {Z : Nat → Prop} {w w' : World} {S : Nat} (h : Keeps Z w w') (hz : ∀ z, z < S → Z z) (hS : S ≤ w.heap.size) : Below S w w' := ⟨h.os, h.tape, h.output, h.size, fun z hl => h.block z (hz z hl) (Nat.lt_of_lt_of_le hl hS)⟩
theorem Keeps.grown {Z : Nat → Prop} {w w' : World} {row : Option Nat} (h : w.grownBy w' row) (hz : ∀ z, Z z → some z ≠ row) : Keeps Z w w' := ⟨h.os, h.tape, h.output, h.size, fun z k hl => h.block z hl (hz z k)⟩
theorem Keeps.cell {Z : Nat → Prop} {w w' : World} {b o : Nat} {v : Value} (h : Keeps Z w w') (hz : Z b) (hc : w.cell? ⟨b, o, none⟩ = some v) : w'.cell? ⟨b, o, none⟩ = some v := (World.cell?_of_block (a := ⟨b, o, none⟩) (h.block b hz (cell_lt hc))).trans hc
theorem Idx.low {w : World} {S S' p M : Nat} {X : SaysX} (h : Idx w S p M X) (hs : S' ≤ S) : Idx w S' p M X := by
  cases h with
  | bare c0 f0 hp h => exact .bare c0 f0 (Nat.le_trans hs hp) h
  | full h =>
    obtain ⟨b, c0, f0, h1, h2⟩ := h
    exact .full ⟨b, c0, f0, Nat.le_trans hs h1, h2⟩
theorem Idx.mono {w : World} {S p M M' : Nat} {X : SaysX} (h : Idx w S p M X) (hM : M ≤ M') : Idx w S p M' X := by
  cases h with
  | bare c0 f0 hp h => exact .bare c0 f0 hp h
  | full h =>
    obtain ⟨b, c0, f0, h1, h2, B, n, H, V, h3, h4⟩ := h
    exact .full ⟨b, c0, f0, h1, h2, B, n, H, V, Nat.le_trans h3 hM, h4⟩
end Go.Proofs.YteimdhkajbldjaaGreat

namespace Go.Proofs.YteimdhkajbldjaaGreat
open Go.RowKit Go.Sort Go.Maps

theorem fd_once {fs : List FieldL} (h : fOk fs fs.length) {k : Nat} {f : FieldL} (hk : fs[k]? = some f) : f ∉ fs.take k := fun hm => by
  obtain ⟨j, hj⟩ := List.getElem?_of_mem hm
  rw [List.getElem?_take] at hj
  split at hj
  · rename_i hlt
    have ha := fOk_asc h
    have hjl := (List.getElem?_eq_some_iff.1 hj).1
    have hkl := (List.getElem?_eq_some_iff.1 hk).1
    have h5 := List.pairwise_iff_getElem.1 ha j k (by simpa using hjl) (by simpa using hkl) hlt
    rw [List.getElem_map, List.getElem_map] at h5
    rw [List.getElem?_eq_getElem hjl] at hj
    rw [List.getElem?_eq_getElem hkl] at hk
    rw [Option.some.inj hj, Option.some.inj hk, sLt_irrefl] at h5
    cases h5
  · cases hj

def AddTo (S p M : Nat) (Z : Nat → Prop) (X : SaysX) (w : World) (e : Ending) (w' : World) : Prop := e = .returned (.tuple #[]) ∧ IdxA w' S p M Z X ∧ Keeps Z w w'

/-- what stands at a field, looked up: in whatever world in which the heap is as it is here -/
theorem AddI.look {w : World} {S p b B n : Nat} {Z : Nat → Prop} {X : SaysX} {H : FieldL → Bool} {V : FieldL → Value} (h : AddI w S p b B n Z X H V) {f : FieldL} (hf : isFd f = true) {A : Option Addr} {q c : Nat} (hV : V f = .slice A q c) :
    (Instr.lookup 126 (.map (some b)) (.agg #[.string f.key, .string f.val]) false).run Tryz.prog w = .ok (.slice A q c) w := by
  rw [← hV]
  exact h.m.look (short_fd hf)
theorem nil_nil (w : World) : (Go.binOp .eql 126 (.map none) (.map none)).run Tryz.prog w = .ok (.bool true) w := by
  first | kernel_rfl | simp [Go.binOp, Op.equal, run_underlying Tryz.underlying126]
theorem some_nil (b : Nat) (w : World) : (Go.binOp .eql 126 (.map (some b)) (.map none)).run Tryz.prog w = .ok (.bool false) w := by
  first | kernel_rfl | simp [Go.binOp, Op.equal, run_underlying Tryz.underlying126]
theorem AddI.drew {w : World} {S p b B n : Nat} {Z : Nat → Prop} {X : SaysX} {H : FieldL → Bool} {V : FieldL → Value} (h : AddI w S p b B n Z X H V) : AddI w.drew S p b B n Z X H V := h.below (Below.refl _ _).drew

set_option maxHeartbeats 4000000 in
theorem add_is {S p M m : Nat} {Z : Nat → Prop} {X : SaysX} (id : ByteArray) (cats : Int) (fs : List FieldL) (fa : Option Addr) (fc : Nat) (ra : Option Addr) (rn rc : Nat) (w : World) (h : IdxA w S p M Z X) (hz : ∀ z, Z z → z < w.heap.size) (hin : SlF w fa fs)
    (hloc : ∀ b off, fa = some ⟨b, off, none⟩ → fs ≠ [] → Z b) (hok : fOk fs fs.length) (hm : fs.length = m) (hm6 : m ≤ 6) (hmc : m ≤ fc) (hfx : fc ≤ maxLen) (hasc : ∀ f, Asc (X f)) (hno : ∀ f ∈ fs, id ∉ X f) (hlen : ∀ f, (X f).length ≤ 50000) (hM : M ≤ 1000000000) :
    Calls Tryz.prog 74 #[.pointer (some ⟨p, 0, none⟩), .agg #[.string id, .int .i64 cats, .slice fa m fc, .slice ra rn rc]] w (AddTo S p (M + 6) Z (addX X fs id) w) := by
  obtain ⟨Z1, hZ1⟩ : ∃ Z1 : Nat → Prop, Z1 = fun z => Z z ∨ z = w.heap.size := ⟨_, rfl⟩
  obtain ⟨W1, hW1⟩ : ∃ W1, W1 = w.alloc (.cells #[.string id, .int .i64 cats, .slice fa m fc, .slice ra rn rc] 35) := ⟨_, rfl⟩
  have hb1 : Below w.heap.size w W1 := by rw [hW1]; exact (Below.refl _ _).alloc (Nat.le_refl _) _
  have hs1 : W1.heap.size = w.heap.size + 1 := by rw [hW1]; simp
  have d0 : W1.cell? ⟨w.heap.size, 0, none⟩ = some (.string id) := by rw [hW1]; simp [go_sem]
  have d2 : W1.cell? ⟨w.heap.size, 2, none⟩ = some (.slice fa m fc) := by rw [hW1]; simp [go_sem]
  have hzl : ∀ z, Z1 z → z < W1.heap.size := fun z k => by
    rw [hZ1] at k
    rcases k with k | k
    · have := hz z k; omega
    · omega
  have hin1 := hin.below hb1
  have hloc1 : ∀ b off, fa = some ⟨b, off, none⟩ → fs ≠ [] → Z1 b := fun b off e ne => by rw [hZ1]; exact .inl (hloc b off e ne)
  have hZr : Z1 w.heap.size := by rw [hZ1]; exact .inr rfl
  have hZZ : ∀ z, Z z → Z1 z := fun z k => by rw [hZ1]; exact .inl k
  have HM := Lib.hid hm
  have HOK := Lib.hid hok
  have HASC := Lib.hid hasc
  have HNO := Lib.hid hno
  have HLEN := Lib.hid hlen
  have HZR := Lib.hid hZr
  have HZZ := Lib.hid hZZ
  have HLOC := Lib.hid hloc1
  have HMM := Lib.hid hM
  have hidx : IdxA W1 S p M Z1 X := ((h.wide).below hb1).sub (fun z k => by rw [hZ1] at k; rcases k with k | k; exact .inl k; exact .inr (by omega))
  have HK1X : Hid (Keeps Z1 w W1) := Keeps.of hb1
  have HZ1 := Lib.hid hZ1
  clear h hz hin hloc hok hm hasc hno hlen hM hb1 hloc1 hZr hZZ hZ1
  have HIDX := Lib.hid hidx
  have HIN := Lib.hid hin1
  have HZL := Lib.hid hzl
  have HD0 := Lib.hid d0
  have HD2 := Lib.hid d2
  have HW1 := Lib.hid hW1
  clear hidx hin1 hzl d0 d2 hW1
  go_enter Tryz.func74, Tryz.ntmps74
  go_upto_region 1 with fail
  rw [← HW1.out]
  obtain ⟨rb, hrb⟩ : ∃ rb, rb = w.heap.size := ⟨_, rfl⟩
  rw [← hrb] at HZR HD0 HD2 hs1 ⊢
  clear hrb HW1
  obtain ⟨mo, tb, c0, enn, hcase⟩ : ∃ mo tb, W1.cell? ⟨p, 0, none⟩ = some (.map mo) ∧ (∀ w, (Go.binOp .eql 126 (.map mo) (.map none)).run Tryz.prog w = .ok (.bool tb) w) ∧ Hid ((tb = true ∧ W1.frozen? ⟨p, 0, none⟩ = false ∧ S ≤ p ∧ ¬ Z1 p ∧ ∀ f, X f = []) ∨ (tb = false ∧ ∃ b B n0 H0 V0, n0 ≤ M ∧ AddI W1 S p b B n0 Z1 X H0 V0 ∧ ∀ f, H0 f = true → X f ≠ [])) := by
    rcases HIDX.out with ⟨c0, f0, hp, hzp, hX⟩ | ⟨b, B, n0, H0, V0, hn0, hA0, hne0⟩
    · exact ⟨none, true, c0, nil_nil, .inl ⟨rfl, f0, hp, hzp, hX⟩⟩
    · exact ⟨some b, false, hA0.c0, some_nil b, .inr ⟨rfl, b, B, n0, H0, V0, hn0, hA0, hne0⟩⟩
  clear HIDX
  go_upto_if 12 with fail
  go_cut [] from 13 to 16 (fun wc => Hid (∃ b B n0 H0 V0, n0 ≤ M ∧ AddI wc S p b B n0 Z1 X H0 V0 ∧ ∀ f, H0 f = true → X f ≠ []) ∧ Hid (Keeps Z1 W1 wc))
  case first =>
    rcases hcase.out with ⟨rfl, f0, hp, hzp, hX⟩ | ⟨rfl, hex⟩
    · have hX0 : X = fun _ => [] := funext hX
      have hex : ∃ b B n0 H0 V0, n0 ≤ M ∧ AddI ((W1.alloc (.map #[] 0)).setCell ⟨p, 0, none⟩ (.map (some W1.heap.size))) S p b B n0 Z1 X H0 V0 ∧ ∀ f, H0 f = true → X f ≠ [] := by
        rw [hX0]
        exact ⟨_, _, 0, _, _, Nat.zero_le _, addI_made W1 c0 f0 hp hzp HZL.out, fun f k => by cases k⟩
      have hk2 : Keeps Z1 W1 ((W1.alloc (.map #[] 0)).setCell ⟨p, 0, none⟩ (.map (some W1.heap.size))) :=
        (Keeps.of ((Below.refl _ _).alloc (Nat.le_refl _) _)).trans (Keeps.grown (grown_setCell _ ⟨p, 0, none⟩ _) fun z k e => by cases e; exact hzp k)
      have HEX := Lib.hid hex
      have HK2 := Lib.hid hk2
      have hbm : Below W1.heap.size W1 (W1.alloc (.map #[] 0)) := (Below.refl _ _).alloc (Nat.le_refl _) _
      have c0m := (hbm.cell (p := ⟨p, 0, none⟩) (cell_lt c0)).trans c0
      have f0m := (hbm.frozen (p := ⟨p, 0, none⟩) (cell_lt c0)).trans f0
      have hmm := @run_makeMap Tryz.prog
      rw [hs1] at HEX HK2
      clear hex hk2 hX hX0 hbm hcase
      go_wp2_with fail
      go_meet
      exact ⟨HEX.out, HK2.out⟩
    · have HEX := Lib.hid hex
      clear hex hcase
      go_wp2_with fail
      go_meet
      exact ⟨HEX.out, Keeps.refl _ _⟩
  case rest =>
    obtain ⟨HEX, HK2⟩ := hcut
    clear c0 enn hcase
    obtain ⟨b, B, n0, H0, V0, hn0, hA2, hne2⟩ := HEX.out
    have HIN2 : Hid (SlF _ fa fs) := slF_at HIN.out fun b' off e ne hl => HK2.out.block b' (HLOC.out b' off e ne) hl
    have HZL2 : Hid (∀ z, Z1 z → z < wc.heap.size) := fun z k => Nat.lt_of_lt_of_le (HZL.out z k) HK2.out.size
    have e0 := HK2.out.cell HZR.out HD0.out
    have e2 := HK2.out.cell HZR.out HD2.out
    have HKW : Hid (Keeps Z1 w wc) := (HK1X.out).trans HK2.out
    have HA2 := Lib.hid hA2
    have HNE2 := Lib.hid hne2
    have HN0 := Lib.hid hn0
    clear HD0 HD2
    have HD0 := Lib.hid e0
    have HD2 := Lib.hid e2
    clear hA2 hne2 hn0 e0 e2
    have c0 := HA2.out.c0
    have d0 := HD0.out
    have d2 := HD2.out
    clear c0
    go_wp2_with fail
    go_loopw [20] (fun i wr => ∃ (k n : Nat) (H : FieldL → Bool) (V : FieldL → Value), k ≤ m ∧ i = .int .i64 k ∧ Hid (n ≤ n0 + k) ∧ Hid (AddI wr S p b B n Z1 (addX X (fs.take k) id) H V) ∧ Hid (∀ f, H f = true → addX X (fs.take k) id f ≠ []) ∧ Hid (Keeps Z1 wc wr)) (fun i _ => m - (intOf i).toNat)
    case atStart => exact ⟨0, n0, H0, V0, Nat.zero_le _, rfl, Nat.le_refl _, (by rw [List.take_zero, addX_nil]; exact HA2.out), (by rw [List.take_zero, addX_nil]; exact HNE2.out), Keeps.refl _ _⟩
    case round =>
      clear d0 d2
      obtain ⟨k, n, H, V, hk, rfl, HN, HAI, HNE, HK⟩ := hrel
      by_cases hlt : k < m
      · obtain ⟨f, hf⟩ : ∃ f, fs[k]? = some f := ⟨_, List.getElem?_eq_getElem (by rw [HM.out]; exact hlt)⟩
        have hfd : isFd f = true := fOk_all HOK.out f (List.mem_of_getElem? hf)
        have hnk : f ∉ fs.take k := fd_once HOK.out hf
        have hFw : SlF wr fa fs := slF_at HIN2.out fun b' off e ne hl => HK.out.block b' (HLOC.out b' off e ne) hl
        obtain ⟨bf, off, rfl, z0, z1⟩ := hFw k f hf
        have hXk : addX X (fs.take k) id f = X f := addX_at hnk
        have hXs : addX X (fs.take (k + 1)) id = putX (addX X (fs.take k) id) f (insN (X f) id) := by rw [take_snoc hf]; exact addX_step hnk
        have hno := HNO.out f (List.mem_of_getElem? hf)
        have hlenf := HLEN.out f
        have hascf := HASC.out f
        obtain ⟨A, cc, hVf⟩ := (HAI.out.m.rows.row f).form
        rw [hXk] at hVf
        obtain ⟨l, hl⟩ : ∃ l, X f = l := ⟨_, rfl⟩
        rw [hl] at hVf hno hlenf hascf hXs hXk
        obtain ⟨q, hq⟩ : ∃ q, l.length = q := ⟨_, rfl⟩
        obtain ⟨I, hI⟩ : ∃ I, idxN l id = I := ⟨_, rfl⟩
        rw [hq] at hVf hlenf
        have i1 : (0 : Int) ≤ (k : Int) := by omega
        have i2 : (k : Int) < (m : Int) := by omega
        have hmc2 : (m : Int) ≤ (fc : Int) := by omega
        obtain ⟨bx, hbx⟩ : ∃ bx, bx = wr.heap.size := ⟨_, rfl⟩
        have HBX := Lib.hid hbx
        obtain ⟨W6, hW6⟩ : ∃ W6, W6 = wr.alloc (.cells #[.string f.key, .string f.val] 37) := ⟨_, rfl⟩
        have hb6 : Below wr.heap.size wr W6 := by rw [hW6]; exact (Below.refl _ _).alloc (Nat.le_refl _) _
        have hs6 : W6.heap.size = wr.heap.size + 1 := by rw [hW6]; simp
        have hA6 : AddI W6 S p b B n (fun z => Z1 z ∨ wr.heap.size ≤ z) (addX X (fs.take k) id) H V := HAI.out.wide.below hb6
        have x0 : W6.cell? ⟨bx, 0, none⟩ = some (.string f.key) := by rw [hW6, hbx]; simp [go_sem]
        have x1 : W6.cell? ⟨bx, 1, none⟩ = some (.string f.val) := by rw [hW6, hbx]; simp [go_sem]
        have xd : W6.cell? ⟨rb, 0, none⟩ = some (.string id) := (hb6.cell (p := ⟨rb, 0, none⟩) (cell_lt (HK.out.cell HZR.out HD0.out))).trans (HK.out.cell HZR.out HD0.out)
        have xc := hA6.c0
        have xl := hA6.drew.look hfd hVf
        have hro6 := hA6.m.rows.row f
        rw [hVf, hXk] at hro6
        have hsr6 : SlS W6.drew A l := (OwnS.sl (show OwnS B W6.drew (.slice A l.length cc) l by rw [hq]; exact own_below hro6 (Below.refl _ _).drew)).1
        have HSR := Lib.hid (search_is (t := false) A l cc id W6.drew hsr6 hq (by omega) hascf hI (by simp [hno]))
        have HX0 := Lib.hid x0
        have HX1 := Lib.hid x1
        have HXD := Lib.hid xd
        have HA6 := Lib.hid hA6
        have HRO := Lib.hid hro6
        have HS6 := Lib.hid hs6
        have HB6 := Lib.hid hb6
        have HXS := Lib.hid hXs
        have HXK := Lib.hid hXk
        have HVF := Lib.hid hVf
        have HFD := Lib.hid hfd
        have HL := Lib.hid hl
        have HQ := Lib.hid hq
        have HI := Lib.hid hI
        have HAS := Lib.hid hascf
        have HLE := Lib.hid hlenf
        have hIq : I ≤ q := by rw [← hI, ← hq]; exact idxN_le _ _
        have HIQ := Lib.hid hIq
        have HW6 := Lib.hid hW6
        have HSV : Hid (∀ V, Below W6.heap.size W6 V → V.cell? ⟨p, 0, none⟩ = some (.map (some b)) ∧ V.cell? ⟨bx, 0, none⟩ = some (.string f.key) ∧ V.cell? ⟨bx, 1, none⟩ = some (.string f.val) ∧ V.cell? ⟨rb, 0, none⟩ = some (.string id)) := fun V hV => ⟨(hV.cell (p := ⟨p, 0, none⟩) (cell_lt xc)).trans xc, (hV.cell (p := ⟨bx, 0, none⟩) (cell_lt x0)).trans x0, (hV.cell (p := ⟨bx, 1, none⟩) (cell_lt x1)).trans x1, (hV.cell (p := ⟨rb, 0, none⟩) (cell_lt xd)).trans xd⟩
        clear hbx hf hfd hnk hFw hXk hXs hno hlenf hascf hVf hl hq hI hb6 hs6 hA6 hro6 hsr6 hIq hW6
        go_upto_region 6 with fail
        rw [← HW6.out, ← HBX.out]
        go_region_held3 (fun V => V.cell? ⟨p, 0, none⟩ = some (.map (some b)) ∧ V.cell? ⟨bx, 0, none⟩ = some (.string f.key) ∧ V.cell? ⟨bx, 1, none⟩ = some (.string f.val) ∧ V.cell? ⟨rb, 0, none⟩ = some (.string id)) (first | exact HSV.out _ ((Below.refl _ _).drew) | exact HSV.out _ (((Below.refl _ _).drew).trans (by assumption)))
          (first | (go_at_call 82; refine HSR.out.mono ?_; rintro e w7 ⟨rfl, hb7⟩))
        all_goals
          clear x0 x1 xd xc xl z0 z1
          have hb67 : Below W6.heap.size W6 w7 := ((Below.refl W6.heap.size W6).drew).trans hb7
          obtain ⟨W8, hW8⟩ : ∃ W8, W8 = (w7.alloc (.cells #[.string id] 9)).drew := ⟨_, rfl⟩
          have hb8 : Below w7.heap.size w7 W8 := by rw [hW8]; exact ((Below.refl _ _).alloc (Nat.le_refl _) _).drew
          have hs8 : W8.heap.size = w7.heap.size + 1 := by rw [hW8]; simp
          have hA7 := HA6.out.below hb67
          have hA8 := (hA7.below hb8).sub (Z' := fun z => Z1 z ∨ z = bx ∨ z = w7.heap.size) (fun z k => by
            have h1 := hb67.size
            have h2 := HS6.out
            have h5 := HBX.out
            rcases k with k | k | k
            · exact .inl k
            · exact .inr (by omega)
            · exact .inr (by omega))
          have hzl8 : ∀ z, (Z1 z ∨ z = bx ∨ z = w7.heap.size) → z < W8.heap.size := fun z k => by
            have h1 := hb67.size
            have h2 := HS6.out
            have h5 := HBX.out
            rcases k with k | k | k
            · have h3 := HZL2.out z k
              have h4 := HK.out.size
              omega
            · omega
            · omega
          have hro8 := own_below (own_below HRO.out hb67) hb8
          have hvl : W8.heap[w7.heap.size]? = some (.cells #[.string id] 9 (0, 0)) := by rw [hW8]; show (w7.heap.push _)[w7.heap.size]? = _; simp
          have hAb : ∀ z, (Z1 z ∨ z = bx ∨ z = w7.heap.size) → A ≠ some ⟨z, 0, none⟩ := fun z k e => hA8.zv f z (by rw [HVF.out, ob, e]; rfl) k
          have hIN := ins_anyS B A l cc w7.heap.size 1 I id W8 (by rw [HQ.out]; exact hro8) hA8.bs (by have := HLE.out; have := HQ.out; omega) hvl (fun g e k => hAb w7.heap.size (.inr (.inr rfl)) (by rw [e, k])) (by rw [HQ.out]; exact HIQ.out)
          have hins : insS l I id = insN l id := by rw [← HI.out]; exact (insN_ins HAS.out).symm
          rw [HQ.out, hins] at hIN
          have hob : (V f).ownBlock = A.map (·.block) := by rw [HVF.out, ob]
          have hkw : Keeps Z1 wc W8 := (HK.out.trans (Keeps.of HB6.out)).trans ((Keeps.of hb67).trans (Keeps.of hb8))
          have hnx : ∀ w9 A' c', OwnS B w9 (.slice A' (insN l id).length c') (insN l id) → Below B W8 w9 → (∀ j, j < W8.heap.size → A ≠ some ⟨j, 0, none⟩ → w9.heap[j]? = W8.heap[j]?) → (A'.map (·.block) = A.map (·.block) ∨ ∀ j, A'.map (·.block) = some j → W8.heap.size ≤ j) →
              ∃ w10, (Instr.mapUpdate 126 (.map (some b)) (.agg #[.string f.key, .string f.val]) (.slice A' (insN l id).length c')).run Tryz.prog w9 = .ok () w10 ∧
                w9.cell? ⟨bx, 0, none⟩ = some (.string f.key) ∧ w9.cell? ⟨bx, 1, none⟩ = some (.string f.val) ∧ w9.cell? ⟨p, 0, none⟩ = some (.map (some b)) ∧ w9.cell? ⟨rb, 0, none⟩ = some (.string id) ∧
                (w10.cell? ⟨p, 0, none⟩ = some (.map (some b)) ∧ w10.cell? ⟨bx, 0, none⟩ = some (.string f.key) ∧ w10.cell? ⟨bx, 1, none⟩ = some (.string f.val) ∧ w10.cell? ⟨rb, 0, none⟩ = some (.string id)) ∧
                Hid (AddI w10 S p b B (n + 1) Z1 (addX X (fs.take (k + 1)) id) (putH H f) (putV V f (.slice A' (insN l id).length c'))) ∧ Hid (Keeps Z1 wc w10) := fun w9 A' c' ho9 hb9 hot9 hlo9 => by
            have hg9 : W8.grownBy w9 (V f).ownBlock := ⟨hb9.os, hb9.tape, hb9.output, hb9.size, fun j hj hne => hot9 j hj (fun e => hne (by rw [hob, e]; rfl))⟩
            obtain ⟨w10, hrun, ha10, hg10⟩ := hA8.store hzl8 (by have := HN.out; have := HN0.out; have := HMM.out; unfold maxLen; omega) HFD.out ho9 hg9 (by rw [hob, ob]; rcases hlo9 with e | e; exact .inl e.symm; exact .inr e)
            have hk9 : Keeps (fun z => Z1 z ∨ z = bx ∨ z = w7.heap.size) W8 w9 := Keeps.grown hg9 (fun z k e => hA8.apart f k e)
            have e8 := hb67.cell (p := ⟨bx, 0, none⟩) (cell_lt HX0.out)
            have y0 : W8.cell? ⟨bx, 0, none⟩ = some (.string f.key) := (hb8.cell (p := ⟨bx, 0, none⟩) (Nat.lt_of_lt_of_le (cell_lt HX0.out) hb67.size)).trans (e8.trans HX0.out)
            have y1 : W8.cell? ⟨bx, 1, none⟩ = some (.string f.val) := (hb8.cell (p := ⟨bx, 1, none⟩) (Nat.lt_of_lt_of_le (cell_lt HX0.out) hb67.size)).trans ((hb67.cell (p := ⟨bx, 1, none⟩) (cell_lt HX0.out)).trans HX1.out)
            have u0 := hk9.cell (.inr (.inl rfl)) y0
            have u1 := hk9.cell (.inr (.inl rfl)) y1
            have ud := (hkw.trans (hk9.sub fun z k => .inl k)).cell HZR.out HD0.out
            have hk10 : Keeps (fun z => Z1 z ∨ z = bx ∨ z = w7.heap.size) w9 w10 := Keeps.grown hg10 (fun z k e => by cases e; exact hA8.zb k)
            refine ⟨w10, hrun, u0, u1, ?_, ud, ⟨ha10.out.c0, hk10.cell (.inr (.inl rfl)) u0, hk10.cell (.inr (.inl rfl)) u1, hk10.cell (.inl HZR.out) ud⟩, ?_, ?_⟩
            · exact (World.cell?_of_block (a := ⟨p, 0, none⟩) (hg9.block p (cell_lt hA8.c0) (hA8.apart_p f))).trans hA8.c0
            · show AddI _ _ _ _ _ _ _ _ _ _
              rw [HXS.out]
              exact ha10.out.sub fun z k => .inl k
            · exact (hkw.trans (hk9.sub fun z k => .inl k)).trans (hk10.sub fun z k => .inl k)
          have x0 := (hb67.cell (p := ⟨bx, 0, none⟩) (cell_lt HX0.out)).trans HX0.out
          have x1 := (hb67.cell (p := ⟨bx, 1, none⟩) (cell_lt HX0.out)).trans HX1.out
          have xd := (hb67.cell (p := ⟨rb, 0, none⟩) (cell_lt HXD.out)).trans HXD.out
          have xc := hA7.c0
          have xl := hA7.drew.look HFD.out HVF.out
          have xm := (hA7.below hb8).look HFD.out HVF.out
          have hsv : ∀ V, Below w7.heap.size w7 V → V.cell? ⟨p, 0, none⟩ = some (.map (some b)) ∧ V.cell? ⟨bx, 0, none⟩ = some (.string f.key) ∧ V.cell? ⟨bx, 1, none⟩ = some (.string f.val) ∧ V.cell? ⟨rb, 0, none⟩ = some (.string id) := fun V hV => HSV.out V (hb67.trans (hV.mono hb67.size))
          have HSV7 := Lib.hid hsv
          have HINS := Lib.hid hIN
          have HNX := Lib.hid hnx
          rw [hW8] at HINS HNX xm
          clear hb7 hb67 hb8 hs8 hA7 hA8 hzl8 hro8 hvl hAb hIN hins hob hkw hnx hW8 hsv
          go_wp2_with fail
          go_region_held3 (fun V => V.cell? ⟨p, 0, none⟩ = some (.map (some b)) ∧ V.cell? ⟨bx, 0, none⟩ = some (.string f.key) ∧ V.cell? ⟨bx, 1, none⟩ = some (.string f.val) ∧ V.cell? ⟨rb, 0, none⟩ = some (.string id)) (first | assumption | exact HSV7.out _ ((Below.refl _ _).drew) | exact HSV7.out _ (((Below.refl _ _).drew).alloc (Nat.le_refl _) _) | exact HSV7.out _ (((Below.refl _ _).alloc (Nat.le_refl _) _).drew) | exact ⟨by assumption, by assumption, by assumption, by assumption⟩)
            (first | (go_at_call 116; refine HINS.out.mono ?_; rintro e w9 ⟨A', c', rfl, ho9, hb9, hot9, hlo9⟩; obtain ⟨w10, hst, u0, u1, uc, ud, us, HA10, HK10⟩ := HNX.out w9 A' c' ho9 hb9 hot9 hlo9; clear ho9 hb9 hot9 hlo9))
          all_goals
            clear hst u0 u1 uc ud us x0 x1 xd xc xl xm HINS HNX
            go_wp2_with fail
            go_roundw
            case rel =>
              refine ⟨k + 1, n + 1, putH H f, _, by omega, by go_num, (show n + 1 ≤ n0 + (k + 1) by have := HN.out; omega), HA10.out, ?_, HK10.out⟩
              intro g hg
              rw [HXS.out]
              unfold putX
              by_cases e : g = f
              · rw [if_pos e]; exact insN_ne _ _
              · rw [if_neg e]
                unfold putH at hg
                rw [if_neg e] at hg
                exact HNE.out g hg
            case measure => simp [intOf]; omega
      · obtain rfl : k = m := by omega
        have hall : fs.take k = fs := List.take_of_length_le (by rw [HM.out]; exact Nat.le_refl _)
        have HAE : Hid (AddI wr S p b B n Z1 (addX X fs id) H V) := by show AddI _ _ _ _ _ _ _ _ _ _; rw [← hall]; exact HAI.out
        have HNF : Hid (∀ f, H f = true → addX X fs id f ≠ []) := by show ∀ f, _; rw [← hall]; exact HNE.out
        clear hall HAI HNE
        go_wp2_with fail
        go_end0
        exact ⟨rfl, .inr ⟨b, B, n, H, V, (by have := HN.out; have := HN0.out; omega), HAE.out.sub HZZ.out, HNF.out⟩, ((HKW.out).trans HK.out).sub HZZ.out⟩
end Go.Proofs.YteimdhkajbldjaaGreat

namespace Go.Proofs.YteimdhkajbldjaaGreat
open Go.RowKit Go.Sort Go.Maps

set_option maxHeartbeats 1000000 in
theorem deleteFunc_none (w : World) :
    Calls Tryz.prog 122 #[.map none, .func (.func 121) #[] #[]] w fun e w' => e = .returned (.tuple #[]) ∧ Below w.heap.size w w' := by
  have e1 := run_range_nilMap (P := Tryz.prog) w _ _ _ Tryz.underlying126
  have e2 := fun ty => run_next_nilMap (P := Tryz.prog) w ty 0 0 #[]
  go_enter Tryz.func122, Tryz.ntmps122
  go_wp2_with fail
  go_rounds 1
  go_end0
  exact ⟨rfl, (Below.refl _ _).alloc (Nat.le_refl _) _⟩

/-- where a range stands that takes a name out of each list -/
structure DropSt (X : SaysX) (id : ByteArray) (H : FieldL → Bool) (left : Lit → Bool) (X2 : SaysX) : Prop where
  todo : ∀ f k, keyOf Tryz.prog 37 f.v = some k → left k = true → X2 f = X f
  done : ∀ f k, keyOf Tryz.prog 37 f.v = some k → H f = true → left k = false → X2 f = dropX X id f
theorem DropSt.step {X : SaysX} {id : ByteArray} {H : FieldL → Bool} {left : Lit → Bool} {X2 Y : SaysX} (h : DropSt X id H left X2) {f : FieldL} {kl : Lit} (hk : keyOf Tryz.prog 37 f.v = some kl) (hl : left kl = true) (hY : Y f = dropX X id f) (hY2 : ∀ g, g ≠ f → Y g = X2 g) :
    DropSt X id H (fun z => left z && !z.sameKey kl) Y := by
  refine ⟨fun g kg hg hlg => ?_, fun g kg hg hH hlg => ?_⟩
  · have h1 : left kg = true := by cases e : left kg <;> simp [e] at hlg ⊢
    have h2 : kg.sameKey kl = false := by cases e : kg.sameKey kl <;> simp [e] at hlg ⊢
    have hne : g ≠ f := fun e => by
      subst e
      rw [hk] at hg
      cases hg
      rw [WideAt.sameKey_self (lawFd.key hk)] at h2
      cases h2
    rw [hY2 g hne]
    exact h.todo g kg hg h1
  · by_cases e : g = f
    · rw [e]
      exact hY
    · have h8 : kg.sameKey kl = false := Maps.sameKey_ne fun ek => e (fd_inj hg (by rw [ek]; exact hk))
      have h1 : left kg = false := by
        cases e2 : left kg with
        | false => rfl
        | true => simp [e2, h8] at hlg
      rw [hY2 g e]
      exact h.done g kg hg hH h1
theorem putH_same {H : FieldL → Bool} {f : FieldL} (h : H f = true) : putH H f = H := funext fun g => by
  unfold putH
  split
  · rename_i e
    rw [e, h]
  · rfl
theorem Reads.put_same {w : World} {b n : Nat} {D : DataW Value} {H : FieldL → Bool} {V : FieldL → Value} (h : Reads D H V) (hm : mIdx w b n D) {f : FieldL} {k : Lit} (hk : keyOf Tryz.prog 37 f.v = some k) (hH : H f = true) (v : Value) : Reads (D.put k (.held v)) H (putV V f v) := by
  have := h.put hm hk v
  rwa [putH_same hH] at this
theorem dropX_no {X : SaysX} {id : ByteArray} {f : FieldL} (h : id ∉ X f) : dropX X id f = X f := offN_no h
theorem dropX_del {X : SaysX} {id : ByteArray} {f : FieldL} (ha : Asc (X f)) (h : id ∈ X f) : dropX X id f = delS (X f) (idxN (X f) id) := offN_split ha h

set_option maxHeartbeats 8000000 in
theorem drop_is {S p M : Nat} {Z : Nat → Prop} {X : SaysX} (id : ByteArray) (w : World) (h : IdxA w S p M Z X) (hz : ∀ z, Z z → z < w.heap.size) (hasc : ∀ f, Asc (X f)) (hlen : ∀ f, (X f).length ≤ 50000) (hM : M ≤ 1000000000) :
    Calls Tryz.prog 84 #[.pointer (some ⟨p, 0, none⟩), .string id] w (AddTo S p M Z (dropX X id) w) := by
  rcases h with ⟨c0, f0, hp, hzp, hX⟩ | ⟨b, B, n, H, V, hn, hA, hne⟩
  · obtain rfl : X = fun _ => [] := funext hX
    have hd : dropX (fun _ => []) id = fun _ => [] := rfl
    rw [hd]
    have e1 := run_range_nilMap (P := Tryz.prog) w _ _ _ Tryz.underlying126
    have e2 := fun ty => run_next_nilMap (P := Tryz.prog) w ty 0 0 #[]
    have hb1 : Below w.heap.size w (w.alloc (.mapIter none 0 #[] 0)) := (Below.refl _ _).alloc (Nat.le_refl _) _
    have hidx : IdxA w S p M Z (fun _ => []) := .inl ⟨c0, f0, hp, hzp, fun _ => rfl⟩
    have HIDX := Lib.hid hidx
    have HB1 := Lib.hid hb1
    clear hasc hlen hidx hb1 hX hd f0 hp hzp
    go_enter Tryz.func84, Tryz.ntmps84
    go_wp2_with fail
    go_loopw [] (fun wr => wr = w.alloc (.mapIter none 0 #[] 0)) (fun _ => 0)
    case atStart => exact rfl
    case round =>
      subst hrel
      have c1 := (HB1.out.cell (p := ⟨p, 0, none⟩) (cell_lt c0)).trans c0
      go_wp2_with fail
      refine (deleteFunc_none _).mono ?_
      rintro e w2 ⟨rfl, hb2⟩
      have HB2 := Lib.hid (HB1.out.trans (hb2.mono HB1.out.size))
      clear hb2
      go_wp2_with fail
      go_end0
      exact ⟨rfl, HIDX.out.below HB2.out, Keeps.of HB2.out⟩
  · obtain ⟨D, hown, hrd⟩ := hA.m.m
    have hlt := hA.m.lt
    obtain ⟨Z1, hZ1⟩ : ∃ Z1 : Nat → Prop, Z1 = fun z => Z z ∨ z = p := ⟨_, rfl⟩
    have hpl := cell_lt hA.c0
    have hz1p : Z1 p := by rw [hZ1]; exact .inr rfl
    have hzz : ∀ z, Z z → Z1 z := fun z k => by rw [hZ1]; exact .inl k
    have hz1l : ∀ z, Z1 z → z < w.heap.size := fun z k => by
      rw [hZ1] at k
      rcases k with k | k
      · exact hz z k
      · omega
    have hz1b : ¬ Z1 b := fun k => by
      rw [hZ1] at k
      rcases k with k | k
      · exact hA.zb k
      · have := hA.pb; omega
    have hz1v : ∀ f z, Z1 z → some z ≠ (V f).ownBlock := fun f z k e => by
      rw [hZ1] at k
      rcases k with k | k
      · exact hA.apart f k e
      · rw [k] at e; exact hA.apart_p f e
    have HA := Lib.hid hA
    have HRD := Lib.hid hrd
    have HASC := Lib.hid hasc
    have HLEN := Lib.hid hlen
    have HMM := Lib.hid hM
    have HN := Lib.hid hn
    have HZP := Lib.hid hz1p
    have HZZ := Lib.hid hzz
    have HZL := Lib.hid hz1l
    have HZB := Lib.hid hz1b
    have HZV := Lib.hid hz1v
    have c0 := hA.c0
    have HC0 := Lib.hid hA.c0
    clear hrd hasc hlen hM hn hZ1 hz hne hA hz1p hzz hz1l hz1b hz1v
    go_enter Tryz.func84, Tryz.ntmps84
    go_wp2_with (at_range; refine wpList_range_own _ rfl _ 126 rfl 37 33 lawFd Tryz.underlying126 rawE b n D rfl hown ?_; intro w2 hrg0 hg0 hs0)
    go_frame
    have hg2 : w.grownBy w2 none := ⟨hg0.os, hg0.tape, hg0.output, hg0.size, fun i hi _ => hg0.block i hi (by simp)⟩
    have HR2 := Lib.hid (HA.out.m.rows.grown hlt (⟨hg0.os, hg0.tape, hg0.output, hg0.size, fun i hi _ => hg0.block i hi (by simp)⟩ : w.grownBy w2 (some b)))
    have HK2 : Hid (Keeps Z1 w w2) := Keeps.grown hg2 (fun z _ => by simp)
    have hlb := hown.lt
    obtain ⟨rr, hr⟩ : ∃ rr, rr = w.heap.size := ⟨_, rfl⟩
    rw [← hr] at hrg0 hs0 hlb ⊢
    have HRR := Lib.hid hr
    clear hg0 hg2 hr hown c0
    go_loopw [] (fun wq => ∃ (left : Lit → Bool) (cnt : Nat) (D2 : DataW Value) (X2 : SaysX) (V2 : FieldL → Value), wq.ranges Tryz.prog 37 rawE b rr n D2 left cnt ∧ Hid (Reads D2 H V2) ∧ Hid (IRows B wq X2 H V2) ∧ Hid (DropSt X id H left X2) ∧ Hid (∀ f, (V2 f).ownBlock = (V f).ownBlock) ∧ Hid (Keeps Z1 w wq)) (fun wq => wq.rangeLeft b rr)
    case atStart => exact ⟨_, _, _, X, V, hrg0, HRD.out, HR2.out, ⟨fun f k hk hf => rfl, fun f k hk hf hl => by rw [(HRD.out f k hk).2, hf] at hl; cases hl⟩, fun f => rfl, HK2.out⟩
    case round =>
      clear hrg0 HR2 hs0 HK2
      obtain ⟨left, cnt, D2, X2, V2, hrg, HRD2, HROW2, HDS, HVO, HK⟩ := hrel
      have c0 := HK.out.cell HZP.out HC0.out
      go_wp2_with (at_next; refine wpList_next_ranges _ rfl _ rfl 37 lawFd rawE (fun f : FieldL => f.v) (fun v : Value => v) (fun key kl hk => by obtain ⟨f, e⟩ := fd_inv hk; exact ⟨f, e⟩) (fun v y hv => ⟨v, rfl⟩) b rr n _ _ _ rfl hrg ?_ ?_)
      · intro _ hl0
        have hX2 : X2 = dropX X id := funext fun f => by
          cases hH : H f with
          | false =>
            have h1 := HROW2.out.off f hH
            have h2 := HA.out.m.rows.off f hH
            rw [h1]
            unfold dropX
            rw [h2]
            rfl
          | true =>
            obtain ⟨k, hk⟩ := fd_key f (short_fd (HA.out.fd f hH))
            exact HDS.out.done f k hk hH (hl0 k)
        subst hX2
        have HOWN := Lib.hid hrg.owns
        have HDF := Lib.hid (deleteFunc_is wr ⟨⟨D2, HOWN.out, HRD2.out⟩, HROW2.out, hlt⟩ HA.out.fd)
        clear hl0 hrg
        go_wp2_with fail
        refine HDF.out.mono ?_
        rintro e w3 ⟨rfl, hg3, H', V', him, hvv, hfin⟩
        have HK3 := Lib.hid (HK.out.trans (Keeps.grown hg3 (fun z k e => by cases e; exact HZB.out k)))
        have HIM := Lib.hid him
        have HVV := Lib.hid hvv
        have HFIN := Lib.hid hfin
        clear him hvv hfin hg3 c0 HDF
        go_wp2_with fail
        go_end0
        refine ⟨rfl, .inr ⟨b, B, n, H', V', HN.out, ⟨HK3.out.cell HZP.out HC0.out, ?_, HA.out.hp, HA.out.pb, HIM.out, fun f k => (HFIN.out f k).2, HA.out.zp, HA.out.zb, fun g j hj k => ?_, ?_⟩, fun f k => (HFIN.out f k).1⟩, HK3.out.sub HZZ.out⟩
        · exact (World.frozen?_of_block (a := ⟨p, 0, none⟩) (HK3.out.block p HZP.out (cell_lt HC0.out))).trans HA.out.f0
        · have h1 := HVV.out g j hj
          rw [HVO.out g] at h1
          exact HA.out.zv g j h1 k
        · exact Nat.le_trans HA.out.bs HK3.out.size
      · intro f c kl y ps w3 cnt' hkey hlk hv hat hrg3 hlt3 hg3 hs3 hent
        have hy : y = .held c := (Prod.mk.inj (raw_inv c (y, ps) hv)).1
        have hat2 : ∀ z, D2.atKey kl z = .held c := fun z => by rw [hat z, hy]
        obtain ⟨r1, r2⟩ := HRD2.out f kl hkey
        have hcV : c = V2 f := by
          have := (hat2 (.held nilS)).symm.trans r1
          injection this
        have hH : H f = true := by rw [← r2]; exact has_true_of_atKey hat2
        have hfd := HA.out.fd f hH
        have hXf := HDS.out.todo f kl hkey hlk
        obtain ⟨A, cc, hVf⟩ := (HROW2.out.row f).form
        have hrr : ∀ g k, (V2 g).ownBlock = some k → k < rr := fun g k hk => by
          rw [HVO.out g] at hk
          have h1 := (World.ownsRow.lt (HA.out.m.rows.row g) k hk).2
          have h2 := HRR.out
          omega
        have hrow3 : IRows B w3 X2 H V2 := ⟨fun g => World.ownsRow.kept (HROW2.out.row g) hg3 (by
          cases hv : (V2 g).ownBlock with
          | none => exact .inl rfl
          | some k => exact .inr fun e => by have h1 := hrr g k hv; cases e; omega), HROW2.out.ap, HROW2.out.off⟩
        have hk3 : Keeps Z1 w w3 := HK.out.trans (Keeps.grown hg3 (fun z k e => by cases e; have h1 := HZL.out rr k; have h2 := HRR.out; omega))
        obtain ⟨bx, hbx⟩ : ∃ bx, bx = w3.heap.size := ⟨_, rfl⟩
        have HBX := Lib.hid hbx
        obtain ⟨W4, hW4⟩ : ∃ W4, W4 = w3.alloc (.cells #[.string f.key, .string f.val] 37) := ⟨_, rfl⟩
        have hb4 : Below w3.heap.size w3 W4 := by rw [hW4]; exact (Below.refl _ _).alloc (Nat.le_refl _) _
        have hs4 : W4.heap.size = w3.heap.size + 1 := by rw [hW4]; simp
        have hrg4 : W4.ranges Tryz.prog 37 rawE b rr n D2 (fun z => left z && !z.sameKey kl) cnt' := by rw [hW4]; exact hrg3.alloc _
        have z0 : W4.cell? ⟨bx, 0, none⟩ = some (.string f.key) := by rw [hW4, hbx]; simp [go_sem]
        have z1 : W4.cell? ⟨bx, 1, none⟩ = some (.string f.val) := by rw [hW4, hbx]; simp [go_sem]
        have hrow4 := hrow3.below hb4
        have hro := hrow4.row f
        rw [hVf, hXf] at hro
        have hlenf := HLEN.out f
        have hascf := HASC.out f
        obtain ⟨l, hl⟩ : ∃ l, X f = l := ⟨_, rfl⟩
        rw [hl] at hro hlenf hascf
        obtain ⟨q, hq⟩ : ∃ q, l.length = q := ⟨_, rfl⟩
        obtain ⟨I, hI⟩ : ∃ I, idxN l id = I := ⟨_, rfl⟩
        obtain ⟨t, ht⟩ : ∃ t, memN l id = t := ⟨_, rfl⟩
        obtain ⟨s1, s2, s3⟩ := OwnS.sl hro
        have hSR := search_is A l cc id W4 s1 hq (by omega) hascf hI (t := t) (by rw [← ht]; exact memN_iff.symm)
        have hVf2 : V2 f = .slice A q cc := by rw [hVf, hXf, hl, hq]
        rw [hq] at hro
        rw [hcV, hVf2] at hent ⊢
        have HSR := Lib.hid hSR
        have HRW4 := Lib.hid hrow4
        have HRO := Lib.hid hro
        have HRG4 := Lib.hid hrg4
        have HRG := Lib.hid hrg
        have HLT := Lib.hid hlt3
        have HKEY := Lib.hid hkey
        have HLK := Lib.hid hlk
        have HK4 := Lib.hid (hk3.trans (Keeps.of hb4))
        have HZ0 := Lib.hid z0
        have HZ1 := Lib.hid z1
        have HT := Lib.hid ht
        have HL := Lib.hid hl
        have HQ := Lib.hid hq
        have HI := Lib.hid hI
        have HFD := Lib.hid hfd
        have HH := Lib.hid hH
        have HAT2 := Lib.hid hat2
        have HVF := Lib.hid hVf2
        have HAS := Lib.hid hascf
        have HLE := Lib.hid hlenf
        have HRR3 := Lib.hid hrr
        have HLW : Hid (rr < w3.heap.size) := hrg3.lt
        have HLB : Hid (b < w3.heap.size) := hrg3.owns.lt
        have HW4 := Lib.hid hW4
        have HS4 := Lib.hid hs4
        have hlw : rr < W4.heap.size := hrg4.lt
        clear hbx hy r1 r2 hcV hVf hVf2 hrow3 hrow4 hk3 hb4 hrg4 z0 z1 ht hrg hrg3 hkey hlk hv hat hat2 hg3 hs3 hlt3 hl hq hI hSR hro s1 s2 s3 hfd hXf hascf hlenf hH hrr hW4 hs4 hlw c0
        cases t with
        | false =>
          have hno : id ∉ X f := by
            rw [HL.out]
            exact fun k => by have := memN_iff.2 k; rw [HT.out] at this; cases this
          have HNO := Lib.hid hno
          clear hno
          go_wp2_with fail
          rw [← HW4.out, ← HBX.out]
          (with_reducible refine HSR.out.mono ?_)
          rintro e w5 ⟨rfl, hb5⟩
          have hrg5 := HRG4.out.kept (row := none) (grown_of_below hb5) (by simp) (by simp)
          have HRG5 := Lib.hid hrg5
          have HRW5 := Lib.hid (HRW4.out.below hb5)
          have HK5 := Lib.hid (HK4.out.trans (Keeps.of hb5))
          clear hb5 hrg5
          go_wp2_with fail
          go_roundw
          case rel => exact ⟨_, cnt', D2, X2, V2, HRG5.out, HRD2.out, HRW5.out, HDS.out.step HKEY.out HLK.out (by rw [HDS.out.todo f kl HKEY.out HLK.out, dropX_no HNO.out]) (fun g _ => rfl), HVO.out, HK5.out⟩
          case measure => rw [HRG5.out.left_eq, HRG.out.left_eq]; exact HLT.out
        | true =>
          have hmem : id ∈ l := memN_iff.1 HT.out
          have hIq : I < q := by
            have h1 := (idxN_there HAS.out).1 hmem
            rw [HI.out] at h1
            have h2 := (List.getElem?_eq_some_iff.1 h1).1
            rw [HQ.out] at h2
            exact h2
          have HIQ := Lib.hid hIq
          have HMEM := Lib.hid hmem
          clear hmem
          go_wp2_with fail
          rw [← HW4.out, ← HBX.out]
          (with_reducible refine HSR.out.mono ?_)
          rintro e w5 ⟨rfl, hb5⟩
          have hrg5 := HRG4.out.kept (row := none) (grown_of_below hb5) (by simp) (by simp)
          have hrow5 := HRW4.out.below hb5
          have hK5 := HK4.out.trans (Keeps.of hb5)
          have y0 := (hb5.cell (p := ⟨bx, 0, none⟩) (cell_lt HZ0.out)).trans HZ0.out
          have y1 := (hb5.cell (p := ⟨bx, 1, none⟩) (cell_lt HZ0.out)).trans HZ1.out
          have c0 := hK5.cell HZP.out HC0.out
          have hro5 := own_below HRO.out hb5
          have hs5 : w3.heap.size + 1 ≤ w5.heap.size := by have h1 := HS4.out; have h2 := hb5.size; omega
          have hBw : B ≤ w5.heap.size := Nat.le_trans HA.out.bs hK5.size
          obtain ⟨w5d, hw5d⟩ : ∃ w5d, w5d = w5.drew := ⟨_, rfl⟩
          have hd5 : Below w5.heap.size w5 w5d := by rw [hw5d]; exact (Below.refl _ _).drew
          have hro5d : OwnS B w5d (.slice A q cc) l := own_below hro5 hd5
          have hDL := del_isS A cc I l w5d hro5d HQ.out (by have := HLE.out; have := HQ.out; omega) hIq (Nat.le_trans hBw hd5.size)
          have hw1 : IntKind.i64.wrap ((I : Int) + 1) = (I : Int) + 1 := by rw [IntKind.wrap_i64]; have := HLE.out; have := HQ.out; omega
          have hw2 : wrap64 ((I : Int) + 1) = (I : Int) + 1 := by unfold wrap64; have := HLE.out; have := HQ.out; omega
          rw [show (((I + 1 : Nat)) : Int) = (I : Int) + 1 by omega] at hDL
          have hds : delS l I = dropX X id f := by rw [← HI.out, ← HL.out]; exact (dropX_del (by rw [HL.out]; exact HAS.out) (by rw [HL.out]; exact HMEM.out)).symm
          have hlocA : (V2 f).ownBlock = A.map (·.block) := by rw [HVF.out, ob]
          have hnx : ∀ w6, OwnS B w6 (.slice A (delS l I).length cc) (delS l I) → Below B w5d w6 → (∀ j, j < w5d.heap.size → A ≠ some ⟨j, 0, none⟩ → w6.heap[j]? = w5d.heap[j]?) →
              ∃ w7, (Instr.mapUpdate 126 (.map (some b)) (.agg #[.string f.key, .string f.val]) (.slice A (delS l I).length cc)).run Tryz.prog w6 = .ok () w7 ∧
                w6.cell? ⟨bx, 0, none⟩ = some (.string f.key) ∧ w6.cell? ⟨bx, 1, none⟩ = some (.string f.val) ∧ w6.cell? ⟨p, 0, none⟩ = some (.map (some b)) ∧
                (w7.cell? ⟨p, 0, none⟩ = some (.map (some b)) ∧ w7.cell? ⟨bx, 0, none⟩ = some (.string f.key) ∧ w7.cell? ⟨bx, 1, none⟩ = some (.string f.val)) ∧
                Hid (w7.ranges Tryz.prog 37 rawE b rr n (D2.put kl (.held (.slice A (delS l I).length cc))) (fun z => left z && !z.sameKey kl) cnt') ∧
                Hid (IRows B w7 (putX X2 f (dropX X id f)) H (putV V2 f (.slice A (delS l I).length cc))) ∧ Hid (Keeps Z1 w w7) := fun w6 ho6 hb6 hot6 => by
            have hg6 : w5d.grownBy w6 (V2 f).ownBlock := ⟨hb6.os, hb6.tape, hb6.output, hb6.size, fun j hj hne => hot6 j hj (fun e => hne (by rw [hlocA, e]; rfl))⟩
            have hr5d : w5d.ranges Tryz.prog 37 rawE b rr n D2 (fun z => left z && !z.sameKey kl) cnt' := hrg5.kept (row := none) (grown_of_below hd5) (by simp) (by simp)
            have hrow5d : IRows B w5d X2 H V2 := hrow5.below hd5
            have hbne : some b ≠ (V2 f).ownBlock := fun e => by
              have h1 := (World.ownsRow.lt (hrow5d.row f) b e.symm).1
              omega
            have hrne : some rr ≠ (V2 f).ownBlock := fun e => by have := HRR3.out f rr e.symm; omega
            have hr6 := hr5d.kept hg6 hbne hrne
            obtain ⟨w7, hrun, hr7, hg7⟩ := ranges_put hr6 lawFd Tryz.underlying126 (by have := HN.out; have := HMM.out; unfold maxLen; omega) (val := .slice A (delS l I).length cc) (d := .held (.slice A (delS l I).length cc)) (z := .map []) (ps := []) HKEY.out rfl (by rw [HAT2.out]; intro e; cases e)
            have hrow7 := hrow5d.put hlt f ho6 hg6 (.inl (by rw [hlocA, ob])) hg7
            rw [putH_same HH.out, hds] at hrow7
            have hwz : bx < w5d.heap.size := by have := hd5.size; have := HBX.out; omega
            have hfz : w6.heap[bx]? = w5d.heap[bx]? := hg6.block _ hwz (fun e => by have h1 := HRR3.out f _ e.symm; have h2 := HLW.out; have h3 := HBX.out; omega)
            have hpk : Keeps Z1 w w6 := (hK5.trans (Keeps.of hd5)).trans (Keeps.grown hg6 (fun z k => by rw [HVO.out f]; exact HZV.out f z k))
            have v0 : w6.cell? ⟨bx, 0, none⟩ = some (.string f.key) := (World.cell?_of_block (a := ⟨bx, 0, none⟩) hfz).trans ((hd5.cell (p := ⟨bx, 0, none⟩) (cell_lt y0)).trans y0)
            have v1 : w6.cell? ⟨bx, 1, none⟩ = some (.string f.val) := (World.cell?_of_block (a := ⟨bx, 1, none⟩) hfz).trans ((hd5.cell (p := ⟨bx, 1, none⟩) (cell_lt y1)).trans y1)
            have hbb : some bx ≠ some b := fun e => by
              have h2 := HBX.out
              have h3 := HLB.out
              cases e
              omega
            have hfz7 : w7.heap[bx]? = w6.heap[bx]? := hg7.block _ (cell_lt v0) hbb
            have hpk7 : Keeps Z1 w w7 := hpk.trans (Keeps.grown hg7 (fun z k e => by cases e; exact HZB.out k))
            refine ⟨w7, hrun, v0, v1, hpk.cell HZP.out HC0.out, ⟨hpk7.cell HZP.out HC0.out, (World.cell?_of_block (a := ⟨bx, 0, none⟩) hfz7).trans v0, (World.cell?_of_block (a := ⟨bx, 1, none⟩) hfz7).trans v1⟩, hr7, ?_, hpk7⟩
            show IRows _ _ _ _ _
            rw [hds]
            exact hrow7
          have hsv : ∀ V, Below w5.heap.size w5 V → V.cell? ⟨p, 0, none⟩ = some (.map (some b)) ∧ V.cell? ⟨bx, 0, none⟩ = some (.string f.key) ∧ V.cell? ⟨bx, 1, none⟩ = some (.string f.val) := fun V hV => ⟨(hV.cell (p := ⟨p, 0, none⟩) (cell_lt c0)).trans c0, (hV.cell (p := ⟨bx, 0, none⟩) (cell_lt y0)).trans y0, (hV.cell (p := ⟨bx, 1, none⟩) (cell_lt y1)).trans y1⟩
          have HSV := Lib.hid hsv
          have HDL := Lib.hid hDL
          have HNX := Lib.hid hnx
          have HDS2 := Lib.hid hds
          have HLA := Lib.hid hlocA
          rw [hw5d] at HDL HNX
          clear hDL hnx hds hlocA hd5 hro5d hw5d hro5 hrow5 hb5 hrg5 hK5 hBw hsv
          go_wp2_with fail
          go_region_held3 (fun V => V.cell? ⟨p, 0, none⟩ = some (.map (some b)) ∧ V.cell? ⟨bx, 0, none⟩ = some (.string f.key) ∧ V.cell? ⟨bx, 1, none⟩ = some (.string f.val)) (first | assumption | exact HSV.out _ ((Below.refl _ _).drew) | exact ⟨by assumption, by assumption, by assumption⟩)
            (first | (go_at_call 120; refine HDL.out.mono ?_; rintro e w6 ⟨rfl, ho6, hb6, hot6⟩; obtain ⟨w7, hst, u0, u1, uc, us, HRG7, HRW7, HK7⟩ := HNX.out w6 ho6 hb6 hot6; clear ho6 hb6 hot6))
          all_goals
            clear hst u0 u1 uc us y0 y1 c0
            go_wp2_with fail
            go_roundw
            case rel =>
              refine ⟨_, cnt', _, putX X2 f (dropX X id f), _, HRG7.out, HRD2.out.put_same HRG4.out.owns HKEY.out HH.out _, HRW7.out, HDS.out.step HKEY.out HLK.out (by unfold putX; rw [if_pos rfl]) (fun g e => by unfold putX; rw [if_neg e]), fun g => ?_, HK7.out⟩
              unfold putV
              split
              · rename_i e
                rw [e, ob, ← HLA.out, HVO.out f]
              · exact HVO.out g
            case measure => rw [HRG7.out.left_eq, HRG.out.left_eq]; exact HLT.out
end Go.Proofs.YteimdhkajbldjaaGreat

namespace Go.Proofs.YteimdhkajbldjaaGreat

theorem getV_app {l : List VerL} {v : VerL} {id : ByteArray} (h : id ≠ v.r.id) : getV (l ++ [v]) id = getV l id := by
  have e : hist (l ++ [v]) id = hist l id := by
    unfold hist
    rw [List.filter_append, List.filter_cons_of_neg (by rw [sEq_false.2 (Ne.symm h)]; decide), List.filter_nil, List.append_nil]
  rw [← getV_hist, e, getV_hist]
theorem note_step (l : List VerL) (v : VerL) : noteX (newX l) (fsOf (l ++ [v]) v.r.id) v.r.id = newX (l ++ [v]) := note_new fun s hs => (getV_app hs).symm
theorem note_twice (l : List VerL) (id : ByteArray) : noteX (newX l) (fsOf l id) id = newX l := note_new fun s hs => rfl
theorem fsOf_nil (id : ByteArray) : fsOf [] id = [] := fsOf_none (by rw [getV_none]; intro c; rfl)
/-- three names are all that there are -/
theorem note_three {s t : List VerL} {a b c : ByteArray} (hs : ∀ v ∈ s, v.r.id = a ∨ v.r.id = b ∨ v.r.id = c) (ht : ∀ v ∈ t, v.r.id = a ∨ v.r.id = b ∨ v.r.id = c) :
    noteX (noteX (noteX (newX s) (fsOf t c) c) (fsOf t a) a) (fsOf t b) b = newX t := by
  have hin : ∀ {u : List VerL} {x : ByteArray} {f : FieldL}, (∀ v ∈ u, v.r.id = a ∨ v.r.id = b ∨ v.r.id = c) → x ∈ newX u f → x = a ∨ x = b ∨ x = c := fun {u x f} hu hx => by
    obtain ⟨v, hv, _⟩ := mem_byL.1 (show x ∈ byL u f from hx)
    obtain ⟨h1, h2, _⟩ := getV_some hv
    rw [← h2]
    exact hu v h1
  have hfs : ∀ (x : ByteArray) (f : FieldL), f ∈ fsOf t x ↔ x ∈ newX t f := fun x f => by
    show _ ↔ x ∈ byL t f
    rw [mem_byL]
    cases hg : getV t x with
    | none =>
      rw [fsOf_none hg]
      exact ⟨fun h => (by cases h), fun ⟨v, hv, _⟩ => (by cases hv)⟩
    | some v =>
      rw [fsOf_some hg]
      exact ⟨fun h => ⟨v, rfl, h⟩, fun ⟨u, hu, h⟩ => by cases hu; exact h⟩
  refine says_ext (noteX_asc (noteX_asc (noteX_asc (byL_asc s) _ _) _ _) _ _) (byL_asc t) fun f x => ?_
  simp only [mem_noteX, hfs]
  constructor
  · rintro (⟨h1, ⟨h2, ⟨h3, h4⟩ | ⟨rfl, h4⟩⟩ | ⟨rfl, h4⟩⟩ | ⟨rfl, h4⟩)
    · rcases hin hs h4 with e | e | e
      · exact absurd e h2
      · exact absurd e h1
      · exact absurd e h3
    · exact h4
    · exact h4
    · exact h4
  · intro hx
    by_cases e1 : x = b
    · exact .inr ⟨e1, e1 ▸ hx⟩
    · refine .inl ⟨e1, ?_⟩
      by_cases e2 : x = a
      · exact .inr ⟨e2, e2 ▸ hx⟩
      · refine .inl ⟨e2, ?_⟩
        rcases hin ht hx with e | e | e
        · exact absurd e e2
        · exact absurd e e1
        · exact .inr ⟨e, e ▸ hx⟩
/-- noted when it is gone: nothing is said of it, all else stays -/
theorem note_gone (l : List VerL) (id : ByteArray) (f : FieldL) : noteX (newX l) (fsOf [] id) id f = offN (newX l f) id := by
  unfold noteX
  rw [fsOf_nil, addX_nil]
  rfl

/-! ## how much it says -/
theorem newX_len (l : List VerL) (f : FieldL) : (newX l f).length ≤ l.length := picked_len l _
theorem noteX_len (X : SaysX) (fs : List FieldL) (id : ByteArray) (f : FieldL) : (noteX X fs id f).length ≤ (X f).length + 1 := by
  unfold noteX addX dropX
  have h1 : (offN (X f) id).length ≤ (X f).length := List.length_filter_le _ _
  split
  · rw [insN_length]; omega
  · omega
theorem countOf_bound {X : SaysX} {n : Nat} (h : ∀ f, (X f).length ≤ n) : ∀ fs : List FieldL, countOf X fs ≤ fs.length * n
  | [] => by rw [countOf_nil]; exact Nat.zero_le _
  | a :: r => by
    have h1 := countOf_bound h r
    have h2 := h a
    have h3 : countOf X (a :: r) = (X a).length + countOf X r := by unfold countOf; rw [List.map_cons, List.sum_cons]
    rw [h3, List.length_cons, Nat.succ_mul]
    omega
theorem flat_lenI {rs : List RecL} (h : ∀ r ∈ rs, r.fs.length ≤ 6) : (rs.flatMap (·.fs)).length ≤ rs.length * 6 := by
  induction rs with
  | nil => exact Nat.zero_le _
  | cons a r ih =>
    have h1 := ih fun x hx => h x (by simp [hx])
    have h2 := h a (by simp)
    rw [List.flatMap_cons, List.length_append, List.length_cons, Nat.succ_mul]
    omega
theorem nodup_len : ∀ {l m : List FieldL}, l.Nodup → (∀ f ∈ l, f ∈ m) → l.length ≤ m.length
  | [], m, _, _ => Nat.zero_le _
  | a :: r, m, hn, hs => by
    obtain ⟨h1, h2⟩ := List.nodup_cons.1 hn
    have ha := hs a (by simp)
    have := nodup_len (m := m.erase a) h2 fun f hf => (List.mem_erase_of_ne (fun e => h1 (by rw [← e]; exact hf))).2 (hs f (by simp [hf]))
    rw [List.length_erase_of_mem ha] at this
    have hp : 0 < m.length := List.length_pos_of_mem ha
    rw [List.length_cons]
    omega
theorem ok_fs {r : RecL} (h : r.Ok) : r.fs.length ≤ 6 := h.nf
theorem lists_new {l : List VerL} (h : stErr l = 0) {fs : List FieldL} (hfs : Lists (newX l) fs) : fs.length ≤ 30720 := by
  obtain ⟨hn, hok⟩ := stErr_ok.1 h
  have h2 : fs.length ≤ ((recs l).flatMap (·.fs)).length := nodup_len hfs.nodup fun f hf => by
    obtain ⟨s, hs⟩ := List.exists_mem_of_ne_nil _ ((hfs.mem f).1 hf)
    obtain ⟨v, hv, hfv⟩ := mem_byL.1 (show s ∈ byL l f from hs)
    refine List.mem_flatMap.2 ⟨v.r, mem_recs.2 ⟨v, ?_, rfl⟩, hfv⟩
    rw [(getV_some hv).2.1]
    exact hv
  have h3 := flat_lenI (rs := recs l) fun r hr => ok_fs (recs_ok hok r hr)
  have h4 : (recs l).length ≤ 5120 := by rw [recs_len]; exact Nat.le_trans (idsV_len l) hn
  omega
theorem lists_ex_new {l : List VerL} (h : stErr l = 0) : ∃ fs, Lists (newX l) fs ∧ fs.length ≤ 50000 := by
  obtain ⟨fs, hfs⟩ := preX_fin (recs l)
  rw [preX_all] at hfs
  exact ⟨fs, hfs, Nat.le_trans (lists_new h hfs) (by omega)⟩
theorem total_new {l : List VerL} (h : stErr l = 0) : total (newX l) ≤ 1000000000 := by
  have hn := (stErr_ok.1 h).1
  obtain ⟨fs, hfs⟩ := preX_fin (recs l)
  rw [preX_all] at hfs
  rw [hfs.total]
  have h1 := countOf_bound (X := newX l) (n := 5120) (fun f => Nat.le_trans (newX_len l f) hn) fs
  have h5 := lists_new h hfs
  have h6 : fs.length * 5120 ≤ 30720 * 5120 := Nat.mul_le_mul_right _ h5
  omega
end Go.Proofs.YteimdhkajbldjaaGreat

namespace Go.Proofs.YteimdhkajbldjaaGreat
open Go.RowKit Go.Sort Go.Maps

theorem preX_asc {l : List VerL} (hs : StOk l) (k : Nat) (f : FieldL) : Asc (preX ((recs l).take k) f) := by
  refine (byL_asc l f).sublist ?_
  exact ((List.take_sublist k (recs l)).filter _).map _
theorem preX_len (rs : List RecL) (f : FieldL) : (preX rs f).length ≤ rs.length := by
  unfold preX
  rw [List.length_map]
  exact List.length_filter_le _ _
theorem recs_below {l : List VerL} {k : Nat} {r : RecL} (h : (recs l)[k]? = some r) : ∀ s ∈ (recs l).take k, sLt s.id r.id = true := fun s hs => by
  have ha := (idsV_is l).asc
  rw [← recs_ids] at ha
  obtain ⟨j, hj⟩ := List.getElem?_of_mem hs
  rw [List.getElem?_take] at hj
  split at hj
  · rename_i hlt
    have hjl := (List.getElem?_eq_some_iff.1 hj).1
    have hkl := (List.getElem?_eq_some_iff.1 h).1
    have h5 := List.pairwise_iff_getElem.1 ha j k (by simpa using hjl) (by simpa using hkl) hlt
    rw [List.getElem_map, List.getElem_map] at h5
    rw [List.getElem?_eq_getElem hjl] at hj
    rw [List.getElem?_eq_getElem hkl] at h
    rw [Option.some.inj hj, Option.some.inj h] at h5
    exact h5
  · cases hj
theorem preX_no {l : List VerL} {k : Nat} {r : RecL} (h : (recs l)[k]? = some r) (f : FieldL) : r.id ∉ preX ((recs l).take k) f := fun hm => by
  unfold preX at hm
  obtain ⟨s, hs, e⟩ := List.mem_map.1 hm
  have := recs_below h s (List.mem_filter.1 hs).1
  rw [e, sLt_irrefl] at this
  cases this

theorem recErr_ne4 (r : RecL) : r.err ≠ 4 := by
  unfold RecL.err
  repeat' split
  all_goals decide
theorem verErr_ne4 (l : List VerL) (v : VerL) : verErr l v ≠ 4 := by
  unfold verErr
  split
  · exact recErr_ne4 _
  · split
    · decide
    · split <;> decide
theorem errFrom_ne4 : ∀ (l pre : List VerL), errFrom pre l ≠ 4
  | [], pre => by unfold errFrom; decide
  | v :: l, pre => by
    unfold errFrom
    split
    · exact verErr_ne4 _ _
    · exact errFrom_ne4 l _
theorem stErr_ne4 (l : List VerL) : stErr l ≠ 4 := by
  unfold stErr
  split
  · decide
  · exact errFrom_ne4 _ _

def NewTo (vs : List VerL) (w : World) (e : Ending) (w' : World) : Prop := ∃ p, e = .returned (.tuple #[.pointer (some ⟨p, 0, none⟩), .int .i64 0]) ∧ Idx w' w.heap.size p 40000 (newX vs) ∧ Below w.heap.size w w'

set_option maxHeartbeats 1000000 in
theorem new_no {n : Nat} {er : Int} {a : Option Addr} {vs : List VerL} (c : Nat) (w : World) (h : VsAt w a n vs) (hm : n ≤ maxLen) (he : stErr vs = er) (h0 : er ≠ 0) :
    Calls Tryz.prog 27 #[.slice a n c] w fun e w' => e = .returned (.tuple #[.pointer none, .int .i64 er]) ∧ Below w.heap.size w w' := by
  have HC := Lib.hid (recs_no c w h hm he h0)
  have h1 : (er == 0) = false := by simpa using h0
  have h2 : (er != 0) = true := by simpa using h0
  clear h hm he
  go_enter Tryz.func27, Tryz.ntmps27
  go_wp2_with fail
  refine HC.out.mono ?_
  rintro e w1 ⟨rfl, hb1⟩
  have HB1 := Lib.hid hb1
  clear hb1
  go_wp2_with fail
  go_ret2
  exact ⟨rfl, HB1.out⟩

set_option maxHeartbeats 4000000 in
theorem new_ok {n : Nat} {a : Option Addr} {vs : List VerL} (c : Nat) (w : World) (h : VsAt w a n vs) (hst : stErr vs = 0) :
    Calls Tryz.prog 27 #[.slice a n c] w (NewTo vs w) := by
  have HC := Lib.hid (recs_ok_is c w h hst)
  have HOK := Lib.hid (stErr_ok.1 hst).2
  clear h hst
  go_enter Tryz.func27, Tryz.ntmps27
  go_wp2_with fail
  refine HC.out.mono ?_
  rintro e w1 ⟨A1, l, c1, rfl, hlr, hsl, hl5, hb1⟩
  obtain ⟨m, hm⟩ : ∃ m, l.length = m := ⟨_, rfl⟩
  rw [hm] at hl5 ⊢
  have HLR := Lib.hid hlr
  have HSL := Lib.hid hsl
  have HB1 := Lib.hid hb1
  have HM := Lib.hid hm
  obtain ⟨S, hS⟩ : ∃ S, S = w1.heap.size := ⟨_, rfl⟩
  have HSZ := Lib.hid hS
  clear hlr hsl hb1 hm HC hS
  obtain ⟨W2, hW2⟩ : ∃ W2, W2 = w1.alloc (.cells #[.map none] 128) := ⟨_, rfl⟩
  have hb2 : Below w1.heap.size w1 W2 := by rw [hW2]; exact (Below.refl _ _).alloc (Nat.le_refl _) _
  have hi2 : Idx W2 S S 0 (preX []) := by
    rw [preX_nil, hW2, HSZ.out]
    exact .bare (by simp [go_sem]) (by simp [go_sem]) (Nat.le_refl _) (fun _ => rfl)
  have HB2 := Lib.hid hb2
  have HI2 := Lib.hid hi2
  have HW2 := Lib.hid hW2
  clear hb2 hi2 hW2
  go_wp2_with fail
  rw [← HW2.out, ← HSZ.out]
  go_loopw [21] (fun i wr => ∃ k : Nat, k ≤ m ∧ i = .int .i64 k ∧ Hid (Idx wr S S (6 * k) (preX ((recs vs).take k))) ∧ Hid (Below S w1 wr)) (fun i _ => m - (intOf i).toNat)
  case atStart => exact ⟨0, Nat.zero_le _, rfl, HI2.out, by rw [HSZ.out]; exact HB2.out⟩
  case round =>
    obtain ⟨k, hk, rfl, HI, HB⟩ := hrel
    by_cases hlt : k < m
    · obtain ⟨x, hx⟩ : ∃ x, l[k]? = some x := ⟨_, List.getElem?_eq_getElem (by rw [HM.out]; exact hlt)⟩
      have hbw : Below w1.heap.size w1 wr := by rw [← HSZ.out]; exact HB.out
      obtain ⟨hin, b, off, rfl, d0, d1, d2, d3⟩ := (HSL.out.below hbw) k x hx
      have hxr : (recs vs)[k]? = some x.r := by rw [← HLR.out, List.getElem?_map, hx]; rfl
      have hxo : x.r.Ok := recs_ok HOK.out _ (List.mem_of_getElem? hxr)
      have hin1 := (HSL.out k x hx).1
      have hbx : Below wr.heap.size wr (rcBox x wr) := rcBox_below x wr
      have hSw : S ≤ wr.heap.size := by have h1 := HB.out.size; have h2 := HSZ.out; omega
      have hA : IdxA (rcBox x wr) S S (6 * k) (fun z => z < S) (preX ((recs vs).take k)) := ((HI.out.with).below hbx).sub fun z h => .inl h
      have hADD := add_is (m := x.r.fs.length) x.r.id x.r.cats x.r.fs x.p.fa x.p.fc x.p.ra x.r.rs.length x.p.rc (rcBox x wr) hA (fun z h => by simp; omega) (hin.hf.below hbx)
        (fun b off e ne => by
          obtain ⟨f, hf⟩ := List.exists_mem_of_ne_nil _ ne
          obtain ⟨j, hj⟩ := List.getElem?_of_mem hf
          obtain ⟨b', o', e', c0, _⟩ := hin1.hf j f hj
          rw [e] at e'
          cases e'
          have := cell_lt c0
          rw [HSZ.out]
          exact this)
        hxo.fs rfl hxo.nf hin.fl hin.fm (preX_asc HOK.out k) (fun f _ => preX_no hxr f) (fun f => by have := preX_len ((recs vs).take k) f; rw [List.length_take] at this; omega) (by omega)
      have i1 : (0 : Int) ≤ (k : Int) := by omega
      have i2 : (k : Int) < (m : Int) := by omega
      have HADD := Lib.hid hADD
      have HSX : Hid (preX ((recs vs).take (k + 1)) = addX (preX ((recs vs).take k)) x.r.fs x.r.id) := by
        show _ = _
        rw [take_snoc hxr]
        exact preX_snoc (recs_below hxr)
      have HBX : Hid (Below S w1 (rcBox x wr)) := HB.out.trans (hbx.mono hSw)
      have HSW : Hid (S ≤ (rcBox x wr).heap.size) := Nat.le_trans hSw hbx.size
      clear hx hbw hin hxr hxo hin1 hbx hSw hA hADD
      go_wp2_with fail
      (with_reducible refine HADD.out.mono ?_)
      rintro e w5 ⟨rfl, hidx, hkp⟩
      have HI5 := Lib.hid hidx.idx
      have HB5 := Lib.hid (HBX.out.trans (hkp.to (fun z h => h) HSW.out))
      clear hidx hkp d0 d1 d2 d3 HADD
      go_wp2_with fail
      go_roundw
      case rel => exact ⟨k + 1, by omega, by go_num, (by show Idx _ _ _ _ _; rw [HSX.out, Nat.mul_succ]; exact HI5.out), HB5.out⟩
      case measure => simp [intOf]; omega
    · obtain rfl : k = m := by omega
      have hall : (recs vs).take k = recs vs := List.take_of_length_le (by rw [← HLR.out, List.length_map, HM.out]; exact Nat.le_refl _)
      have HIE : Hid (Idx wr w.heap.size S 40000 (newX vs)) := by
        have h1 := HI.out
        rw [hall, preX_all] at h1
        have h2 := HSZ.out
        have h3 := HB1.out.size
        exact (h1.mono (by omega)).low (by omega)
      have HBE : Hid (Below w.heap.size w wr) := HB1.out.trans (HB.out.mono (by have h2 := HSZ.out; have h3 := HB1.out.size; omega))
      clear hall HI
      go_wp2_with fail
      go_ret2
      exact ⟨S, rfl, HIE.out, HBE.out⟩

def NotedTo (S p M : Nat) (Z : Nat → Prop) (X : SaysX) (w : World) (e : Ending) (w' : World) : Prop := e = .returned (.int .i64 0) ∧ IdxA w' S p M Z X ∧ Keeps Z w w'

set_option maxHeartbeats 1000000 in
theorem note_no {n : Nat} {er : Int} {a pp : Option Addr} {vs : List VerL} (c : Nat) (id : ByteArray) (w : World) (h : VsAt w a n vs) (hm : n ≤ maxLen) (he : stErr vs = er) (h0 : er ≠ 0) :
    Calls Tryz.prog 38 #[.pointer pp, .slice a n c, .string id] w fun e w' => e = .returned (.int .i64 er) ∧ Below w.heap.size w w' := by
  have HC := Lib.hid (get_no c id w h hm he h0)
  have h4 : er ≠ 4 := by rw [← he]; exact stErr_ne4 vs
  have h1 : (er == 0) = false := by simpa using h0
  have h2 : (er != 0) = true := by simpa using h0
  have h3 : (er == 4) = false := by simpa using h4
  have h5 : (er != 4) = true := by simpa using h4
  clear h hm he
  go_enter Tryz.func38, Tryz.ntmps38
  go_wp2_with fail
  refine HC.out.mono ?_
  rintro e w1 ⟨p1, rfl, hnr, hb1⟩
  have HB1 := Lib.hid (hb1.trans ((Below.refl w1.heap.size w1).alloc (Nat.le_refl _) (.cells #[.string RecL.zero.id, .int .i64 RecL.zero.cats, .slice p1.fa RecL.zero.fs.length p1.fc, .slice p1.ra RecL.zero.rs.length p1.rc] 35) |>.mono hb1.size))
  clear hb1
  go_wp2_with fail
  go_ret
  exact ⟨rfl, HB1.out⟩

set_option maxHeartbeats 4000000 in
theorem note_ok {S p M n : Nat} {Z : Nat → Prop} {X : SaysX} {a : Option Addr} {vs : List VerL} (c : Nat) (id : ByteArray) (w : World) (h : IdxA w S p M Z X) (hz : ∀ z, Z z → z < w.heap.size) (hv : VsAt w a n vs) (hst : stErr vs = 0) (hasc : ∀ f, Asc (X f)) (hlen : ∀ f, (X f).length ≤ 40000) (hM : M ≤ 1000000000) :
    Calls Tryz.prog 38 #[.pointer (some ⟨p, 0, none⟩), .slice a n c, .string id] w (NotedTo S p (M + 6) Z (noteX X (fsOf vs id) id) w) := by
  obtain ⟨r, er, hget, her, hfs, hok, h6, hid⟩ : ∃ r er, (getR vs id = r ∧ getErr vs id = er) ∧ (er = 0 ∨ er = 4) ∧ r.fs = fsOf vs id ∧ fOk r.fs r.fs.length ∧ r.fs.length ≤ 6 ∧ (r.fs ≠ [] → r.id = id) := by
    cases hg : getV vs id with
    | none =>
      obtain ⟨g1, g2⟩ := get_none hst hg
      exact ⟨RecL.zero, 4, ⟨g2, g1⟩, .inr rfl, (fsOf_none hg).symm, fun i f hi => absurd hi (Nat.not_lt_zero i), Nat.zero_le _, fun h => absurd rfl h⟩
    | some v =>
      obtain ⟨g1, g2⟩ := get_some hst hg
      have ho := (stErr_ok.1 hst).2.ver v (getV_some hg).1
      exact ⟨v.r, 0, ⟨g2, g1⟩, .inl rfl, (fsOf_some hg).symm, ho.fs, ho.nf, fun _ => (getV_some hg).2.1⟩
  have HC := Lib.hid (get_fine c id w hv hst hget.1 hget.2)
  have HFS := Lib.hid hfs
  have HOK := Lib.hid hok
  have H6 := Lib.hid h6
  have HID := Lib.hid hid
  have HI := Lib.hid h
  have HZ := Lib.hid hz
  have HASC := Lib.hid hasc
  have HLEN := Lib.hid hlen
  have HMM := Lib.hid hM
  clear hget hfs hok h6 hid h hz hasc hlen hM hv hst
  go_enter Tryz.func38, Tryz.ntmps38
  go_wp2_with fail
  refine HC.out.mono ?_
  rintro e w1 ⟨pr, rfl, hnr, hb1⟩
  obtain ⟨W2, hW2⟩ : ∃ W2, W2 = w1.alloc (.cells #[.string r.id, .int .i64 r.cats, .slice pr.fa r.fs.length pr.fc, .slice pr.ra r.rs.length pr.rc] 35) := ⟨_, rfl⟩
  have hb2 : Below w1.heap.size w1 W2 := by rw [hW2]; exact (Below.refl _ _).alloc (Nat.le_refl _) _
  have hs2 : W2.heap.size = w1.heap.size + 1 := by rw [hW2]; simp
  obtain ⟨Z2, hZ2⟩ : ∃ Z2 : Nat → Prop, Z2 = fun z => Z z ∨ (w.heap.size ≤ z ∧ z < W2.heap.size) := ⟨_, rfl⟩
  have hA2 : IdxA W2 S p M Z2 X := ((HI.out.wide.below hb1).below hb2).sub (fun z k => by rw [hZ2] at k; rcases k with k | k; exact .inl k; exact .inr k.1)
  have hz2 : ∀ z, Z2 z → z < W2.heap.size := fun z k => by
    rw [hZ2] at k
    rcases k with k | k
    · have h1 := HZ.out z k; have h2 := hb1.size; omega
    · exact k.2
  have hzz : ∀ z, Z z → Z2 z := fun z k => by rw [hZ2]; exact .inl k
  have hzb : Z2 w1.heap.size := by rw [hZ2]; exact .inr ⟨hb1.size, by omega⟩
  have hin := hnr.in_
  have hloc : ∀ b off, pr.fa = some ⟨b, off, none⟩ → r.fs ≠ [] → Z2 b := fun b off e ne => by
    rw [hZ2]
    have h1 := World.ownsRow.lt hnr.f b (by rw [e]; rfl)
    exact .inr ⟨h1.1, by omega⟩
  have e0 : W2.cell? ⟨w1.heap.size, 0, none⟩ = some (.string r.id) := by rw [hW2]; simp [go_sem]
  have e1 : W2.cell? ⟨w1.heap.size, 1, none⟩ = some (.int .i64 r.cats) := by rw [hW2]; simp [go_sem]
  have e2 : W2.cell? ⟨w1.heap.size, 2, none⟩ = some (.slice pr.fa r.fs.length pr.fc) := by rw [hW2]; simp [go_sem]
  have e3 : W2.cell? ⟨w1.heap.size, 3, none⟩ = some (.slice pr.ra r.rs.length pr.rc) := by rw [hW2]; simp [go_sem]
  have hDROP := drop_is id W2 hA2 hz2 HASC.out (fun f => Nat.le_trans (HLEN.out f) (by omega)) HMM.out
  have HIN := Lib.hid (hin.below hb2)
  have HDROP := Lib.hid hDROP
  have HB2 := Lib.hid ((Keeps.of (Z := Z) hb1).trans (Keeps.of hb2))
  have HE0 := Lib.hid e0
  have HE1 := Lib.hid e1
  have HE2 := Lib.hid e2
  have HE3 := Lib.hid e3
  have HZ2 := Lib.hid hz2
  have HZZ := Lib.hid hzz
  have HZB := Lib.hid hzb
  have HLOC := Lib.hid hloc
  have HW2 := Lib.hid hW2
  clear hb2 hs2 hZ2 hA2 hz2 hzz hzb hin hloc e0 e1 e2 e3 hDROP hnr hb1 hW2
  rcases her with rfl | rfl
  all_goals
    go_wp2_with fail
    rw [← HW2.out]
    (with_reducible refine HDROP.out.mono ?_)
    rintro e w3 ⟨rfl, hidx, hkp⟩
    have u0 := hkp.cell HZB.out HE0.out
    have u1 := hkp.cell HZB.out HE1.out
    have u2 := hkp.cell HZB.out HE2.out
    have u3 := hkp.cell HZB.out HE3.out
    have hf3 : SlF w3 pr.fa r.fs := slF_at HIN.out.hf fun b off e ne hl => hkp.block b (HLOC.out b off e ne) hl
    have hADD := add_is (m := r.fs.length) r.id r.cats r.fs pr.fa pr.fc pr.ra r.rs.length pr.rc w3 hidx (fun z k => Nat.lt_of_lt_of_le (HZ2.out z k) hkp.size) hf3 HLOC.out HOK.out rfl H6.out HIN.out.fl HIN.out.fm
      (fun f => offN_asc (HASC.out f)) (fun f hf k => by
        rw [HID.out (fun e => by rw [e] at hf; cases hf)] at k
        exact (mem_offN.1 (show id ∈ offN (X f) id from k)).2 rfl) (fun f => Nat.le_trans (List.length_filter_le _ _) (Nat.le_trans (HLEN.out f) (by omega))) HMM.out
    have hXX : addX (dropX X id) r.fs r.id = noteX X (fsOf vs id) id := by
      unfold noteX
      rw [← HFS.out]
      by_cases e : r.fs = []
      · rw [e, addX_nil, addX_nil]
      · rw [HID.out e]
    rw [hXX] at hADD
    have HADD := Lib.hid hADD
    have HK3 := Lib.hid (HB2.out.trans (hkp.sub HZZ.out))
    clear hidx hkp hf3 hADD hXX HDROP
    go_wp2_with fail
    (with_reducible refine HADD.out.mono ?_)
    rintro e w4 ⟨rfl, hidx, hkp⟩
    have HI4 := Lib.hid (hidx.sub HZZ.out)
    have HK4 := Lib.hid (HK3.out.trans (hkp.sub HZZ.out))
    clear hidx hkp u0 u1 u2 u3 HADD
    go_wp2_with fail
    go_ret
    exact ⟨rfl, HI4.out, HK4.out⟩

end Go.Proofs.YteimdhkajbldjaaGreat

namespace Go.Proofs.YteimdhkajbldjaaGreat
open Go.RowKit Go.Sort Go.Maps

set_option maxHeartbeats 1000000 in
theorem same_no {n : Nat} {er : Int} {a pp : Option Addr} {vs : List VerL} (c : Nat) (w : World) (h : VsAt w a n vs) (hm : n ≤ maxLen) (he : stErr vs = er) (h0 : er ≠ 0) :
    Calls Tryz.prog 43 #[.pointer pp, .slice a n c] w fun e w' => e = .returned (.tuple #[.bool false, .int .i64 er]) ∧ Below w.heap.size w w' := by
  have HC := Lib.hid (new_no c w h hm he h0)
  have h1 : (er == 0) = false := by simpa using h0
  have h2 : (er != 0) = true := by simpa using h0
  clear h hm he
  go_enter Tryz.func43, Tryz.ntmps43
  go_wp2_with fail
  refine HC.out.mono ?_
  rintro e w1 ⟨rfl, hb1⟩
  have HB1 := Lib.hid hb1
  clear hb1
  go_wp2_with fail
  go_ret2
  exact ⟨rfl, HB1.out⟩

set_option maxHeartbeats 2000000 in
theorem same_ok {S p M n : Nat} {a : Option Addr} {vs : List VerL} (c : Nat) (w : World) (h : Idx w S p M (newX vs)) (hv : VsAt w a n vs) (hst : stErr vs = 0) (hlen : ∀ f, (newX vs f).length ≤ 1000000) :
    Calls Tryz.prog 43 #[.pointer (some ⟨p, 0, none⟩), .slice a n c] w fun e w' => e = .returned (.tuple #[.bool true, .int .i64 0]) ∧ Below w.heap.size w w' := by
  have HC := Lib.hid (new_ok c w hv hst)
  have HI := Lib.hid h
  have HLN := Lib.hid hlen
  clear h hv hst hlen
  go_enter Tryz.func43, Tryz.ntmps43
  go_wp2_with fail
  refine HC.out.mono ?_
  rintro e w1 ⟨p', rfl, hidx, hb1⟩
  have h1d : Below w1.heap.size w1 w1.drew := (Below.refl _ _).drew
  obtain ⟨mm, mm', c0, c1, hEQ⟩ := idxEq_is ((HI.out.below hb1).below h1d) (hidx.below h1d) HLN.out
  have k0 : w1.cell? ⟨p, 0, none⟩ = some (.map mm) := c0
  have k1 : w1.cell? ⟨p', 0, none⟩ = some (.map mm') := c1
  have HEQ := Lib.hid hEQ
  have HB1 := Lib.hid (hb1.trans (h1d.mono hb1.size))
  clear hidx hb1 h1d hEQ c0 c1 HC
  go_wp2_with fail
  go_region_with (go_at_call 89; (with_reducible refine HEQ.out.mono ?_); rintro e w' ⟨rfl, hb'⟩)
  all_goals
    have HB2 := Lib.hid (HB1.out.trans (hb'.mono HB1.out.size))
    clear hb'
    go_wp2_with fail
    go_ret2
    exact ⟨rfl, HB2.out⟩
end Go.Proofs.YteimdhkajbldjaaGreat
