/- What an index is made and changed by; and what the document says of it: pairs of a store, an index held against a map, a map that one builds. -/
import Derived.Deep.RegionHeld3
import Derived.Test.YtodlabohijabnaaDoorFAll
import Derived.Test.YtodlabohijabnaaDoorSRefIds
import Derived.WideKeyEntry
import Derived.Test.YtodlabohijabnaaDoorIxA
set_option linter.unusedVariables false
set_option linter.unusedSimpArgs false
set_option maxRecDepth 100000
namespace Go.Proofs.YtodlabohijabnaaDoor
open Go.RowKit Go.Sort Go.Maps

/-- block p is an index whose map is block b; of the blocks Z none is its own -/
structure AddI (w : World) (S p b B n : Nat) (Z : Nat → Prop) (X : SaysX) (H : FieldL → Bool) (V : FieldL → Value) : Prop where
  c0 : w.cell? ⟨p, 0, none⟩ = some (.map (some b))
  f0 : w.frozen? ⟨p, 0, none⟩ = false
  hp : S ≤ p
  pb : p < b
  m : IMap w B b n X H V
  fd : ∀ f, H f = true → isFd f = true
  zp : ¬ Z p
  zb : ¬ Z b
  zv : ∀ g j, (V g).ownBlock = some j → ¬ Z j
  bs : B ≤ w.heap.size
theorem AddI.below {w w' : World} {S p b B n : Nat} {Z : Nat → Prop} {X : SaysX} {H : FieldL → Bool} {V : FieldL → Value} (h : AddI w S p b B n Z X H V) (hb : Below w.heap.size w w') : AddI w' S p b B n Z X H V := by
  obtain ⟨hc, hf⟩ := bcell hb
  exact ⟨(hc _ _ (cell_lt h.c0)).trans h.c0, (hf _ _ (cell_lt h.c0)).trans h.f0, h.hp, h.pb, h.m.below hb, h.fd, h.zp, h.zb, h.zv, Nat.le_trans h.bs hb.size⟩
/-- blocks that are not there yet are none of its own -/
theorem AddI.wide {w : World} {S p b B n : Nat} {Z : Nat → Prop} {X : SaysX} {H : FieldL → Bool} {V : FieldL → Value} (h : AddI w S p b B n Z X H V) : AddI w S p b B n (fun z => Z z ∨ w.heap.size ≤ z) X H V :=
  ⟨h.c0, h.f0, h.hp, h.pb, h.m, h.fd, fun k => k.elim h.zp (fun k => by have := cell_lt h.c0; omega), fun k => k.elim h.zb (fun k => by have := h.m.mlt; omega), fun g j hj k => k.elim (h.zv g j hj) (fun k => by have := (World.ownsRow.lt (h.m.rows.row g) j hj).2; omega), h.bs⟩
theorem AddI.sub {w : World} {S p b B n : Nat} {Z Z' : Nat → Prop} {X : SaysX} {H : FieldL → Bool} {V : FieldL → Value} (h : AddI w S p b B n Z X H V) (hz : ∀ z, Z' z → Z z) : AddI w S p b B n Z' X H V :=
  ⟨h.c0, h.f0, h.hp, h.pb, h.m, h.fd, fun k => h.zp (hz _ k), fun k => h.zb (hz _ k), fun g j hj k => h.zv g j hj (hz _ k), h.bs⟩
/-- a slice of the index doesn't lie in one of those blocks -/
theorem AddI.apart {w : World} {S p b B n : Nat} {Z : Nat → Prop} {X : SaysX} {H : FieldL → Bool} {V : FieldL → Value} (h : AddI w S p b B n Z X H V) (f : FieldL) {z : Nat} (hz : Z z) : some z ≠ (V f).ownBlock := fun e => h.zv f z e.symm hz
theorem AddI.apart_p {w : World} {S p b B n : Nat} {Z : Nat → Prop} {X : SaysX} {H : FieldL → Bool} {V : FieldL → Value} (h : AddI w S p b B n Z X H V) (f : FieldL) : some p ≠ (V f).ownBlock := fun e => by
  have h1 := (World.ownsRow.lt (h.m.rows.row f) p e.symm).1
  have h2 := h.m.lt
  have h3 := h.pb
  omega
theorem AddI.apart_b {w : World} {S p b B n : Nat} {Z : Nat → Prop} {X : SaysX} {H : FieldL → Bool} {V : FieldL → Value} (h : AddI w S p b B n Z X H V) (f : FieldL) : some b ≠ (V f).ownBlock := fun e => by
  have h1 := (World.ownsRow.lt (h.m.rows.row f) b e.symm).1
  have h2 := h.m.lt
  omega
/-- m[f] = v' -/
theorem AddI.store {w w5 : World} {S p b B n : Nat} {Z : Nat → Prop} {X : SaysX} {H : FieldL → Bool} {V : FieldL → Value} (h : AddI w S p b B n Z X H V) (hz : ∀ z, Z z → z < w.heap.size) (hn : n < maxLen) {f : FieldL} (hf : isFd f = true) {v' : Value} {l : List ByteArray} (hrow : OwnS B w5 v' l) (hg : w.grownBy w5 (V f).ownBlock)
    (hloc : (V f).ownBlock = v'.ownBlock ∨ ∀ g, v'.ownBlock = some g → w.heap.size ≤ g) :
    ∃ w6, (Instr.mapUpdate 45 (.map (some b)) f.v v').run Tryd.prog w5 = .ok () w6 ∧ Hid (AddI w6 S p b B (n + 1) Z (putX X f l) (putH H f) (putV V f v')) ∧ Hid (w5.grownBy w6 (some b)) := by
  obtain ⟨w6, hrun, hm, hg6⟩ := h.m.store hn (short_fd hf) hrow hg hloc
  have hplt := cell_lt h.c0
  have h5 : w5.heap[p]? = w.heap[p]? := hg.block p hplt (h.apart_p f)
  have h6 : w6.heap[p]? = w.heap[p]? := (hg6.out.block p (Nat.lt_of_lt_of_le hplt hg.size) (fun e => by cases e; have := h.pb; omega)).trans h5
  refine ⟨w6, hrun, ⟨(World.cell?_of_block (a := ⟨p, 0, none⟩) h6).trans h.c0, (World.frozen?_of_block (a := ⟨p, 0, none⟩) h6).trans h.f0, h.hp, h.pb, hm.out, fun g hH => ?_, h.zp, h.zb, fun g j hj => ?_, Nat.le_trans h.bs (Nat.le_trans hg.size hg6.out.size)⟩, hg6⟩
  · unfold putH at hH
    by_cases e : g = f
    · rw [e]
      exact hf
    · rw [if_neg e] at hH
      exact h.fd g hH
  · unfold putV at hj
    by_cases e : g = f
    · rw [if_pos e] at hj
      rcases hloc with k | k
      · exact h.zv f j (k.trans hj)
      · intro hzj
        have h1 := hz j hzj
        have h2 := k j hj
        omega
    · rw [if_neg e] at hj
      exact h.zv g j hj
theorem slF_at {w w' : World} {a : Option Addr} {fs : List FieldL} (h : SlF w a fs) (hb : ∀ b off, a = some ⟨b, off, none⟩ → fs ≠ [] → b < w.heap.size → w'.heap[b]? = w.heap[b]?) : SlF w' a fs := fun k f hk => by
  obtain ⟨b, off, rfl, h1, h2⟩ := h k f hk
  have h3 := hb b off rfl (fun e => by rw [e] at hk; simp at hk) (cell_lt h1)
  exact ⟨b, off, rfl, (World.cell?_of_block (a := ⟨b, _, none⟩) h3).trans h1, (World.cell?_of_block (a := ⟨b, _, none⟩) h3).trans h2⟩
/-- the map that an index without one is given -/
theorem addI_made (w : World) {S p : Nat} {Z : Nat → Prop} {c : Value} (hc : w.cell? ⟨p, 0, none⟩ = some c) (hf : w.frozen? ⟨p, 0, none⟩ = false) (hS : S ≤ p) (hz : ¬ Z p) (hzl : ∀ z, Z z → z < w.heap.size) :
    AddI ((w.alloc (.map #[] 0)).setCell ⟨p, 0, none⟩ (.map (some w.heap.size))) S p w.heap.size (w.heap.size + 1) 0 Z (fun _ => []) (fun _ => false) (fun _ => nilS) := by
  have hlt := cell_lt hc
  have hg := grown_setCell (w.alloc (.map #[] 0)) ⟨p, 0, none⟩ (.map (some w.heap.size))
  have hc2 : (w.alloc (.map #[] 0)).cell? ⟨p, 0, none⟩ = some c := (((Below.refl w.heap.size w).alloc (Nat.le_refl _) (.map #[] 0)).cell (p := ⟨p, 0, none⟩) hlt).trans hc
  have hf2 : (w.alloc (.map #[] 0)).frozen? ⟨p, 0, none⟩ = false := (((Below.refl w.heap.size w).alloc (Nat.le_refl _) (.map #[] 0)).frozen (p := ⟨p, 0, none⟩) hlt).trans hf
  refine ⟨World.cell?_setCell_same _ _ _ hc2, (World.frozen?_setCell _ _ _ _).trans hf2, hS, hlt, ⟨?_, ?_, by omega⟩, fun f h => (by cases h), hz, fun k => by have := hzl _ k; omega, fun g j h => (by cases h), by simp [World.setCell]⟩
  · obtain ⟨D, h1, h2⟩ := (imap_made w).m
    exact ⟨D, h1.kept hg (by simp; omega), h2⟩
  · exact ⟨fun f => World.ownsRow_nil _ _ _ _, fun f g _ => .inl rfl, fun f _ => rfl⟩
/-- an index as Idx says, and of the blocks Z none is its own -/
def IdxA (w : World) (S p M : Nat) (Z : Nat → Prop) (X : SaysX) : Prop :=
  (w.cell? ⟨p, 0, none⟩ = some (.map none) ∧ w.frozen? ⟨p, 0, none⟩ = false ∧ S ≤ p ∧ ¬ Z p ∧ ∀ f, X f = []) ∨
    ∃ b B n H V, n ≤ M ∧ AddI w S p b B n Z X H V ∧ ∀ f, H f = true → X f ≠ []
theorem IdxA.idx {w : World} {S p M : Nat} {Z : Nat → Prop} {X : SaysX} (h : IdxA w S p M Z X) : Idx w S p M X := by
  rcases h with ⟨h1, h2, h3, h4, h5⟩ | ⟨b, B, n, H, V, h1, h2, h3⟩
  · exact .bare h1 h2 h3 h5
  · exact .full ⟨b, h2.c0, h2.f0, h2.hp, h2.pb, B, n, H, V, h1, h2.m, fun f hf => ⟨h3 f hf, h2.fd f hf⟩⟩
theorem IdxA.below {w w' : World} {S p M : Nat} {Z : Nat → Prop} {X : SaysX} (h : IdxA w S p M Z X) (hb : Below w.heap.size w w') : IdxA w' S p M Z X := by
  obtain ⟨hc, hf⟩ := bcell hb
  rcases h with ⟨h1, h2, h3, h4, h5⟩ | ⟨b, B, n, H, V, h1, h2, h3⟩
  · exact .inl ⟨(hc _ _ (cell_lt h1)).trans h1, (hf _ _ (cell_lt h1)).trans h2, h3, h4, h5⟩
  · exact .inr ⟨b, B, n, H, V, h1, h2.below hb, h3⟩
theorem IdxA.mono {w : World} {S p M M' : Nat} {Z : Nat → Prop} {X : SaysX} (h : IdxA w S p M Z X) (hM : M ≤ M') : IdxA w S p M' Z X := by
  rcases h with h | ⟨b, B, n, H, V, h1, h2, h3⟩
  · exact .inl h
  · exact .inr ⟨b, B, n, H, V, Nat.le_trans h1 hM, h2, h3⟩
theorem IdxA.wide {w : World} {S p M : Nat} {Z : Nat → Prop} {X : SaysX} (h : IdxA w S p M Z X) : IdxA w S p M (fun z => Z z ∨ w.heap.size ≤ z) X := by
  rcases h with ⟨h1, h2, h3, h4, h5⟩ | ⟨b, B, n, H, V, h1, h2, h3⟩
  · exact .inl ⟨h1, h2, h3, fun k => k.elim h4 (fun k => by have := cell_lt h1; omega), h5⟩
  · exact .inr ⟨b, B, n, H, V, h1, h2.wide, h3⟩
theorem IdxA.sub {w : World} {S p M : Nat} {Z Z' : Nat → Prop} {X : SaysX} (h : IdxA w S p M Z X) (hz : ∀ z, Z' z → Z z) : IdxA w S p M Z' X := by
  rcases h with ⟨h1, h2, h3, h4, h5⟩ | ⟨b, B, n, H, V, h1, h2, h3⟩
  · exact .inl ⟨h1, h2, h3, fun k => h4 (hz _ k), h5⟩
  · exact .inr ⟨b, B, n, H, V, h1, h2.sub hz, h3⟩
/-- all that is its own lies from S on, and is there -/
theorem Idx.with {w : World} {S p M : Nat} {X : SaysX} (h : Idx w S p M X) : IdxA w S p M (fun z => z < S ∨ w.heap.size ≤ z) X := by
  cases h with
  | bare c0 f0 hp h => exact .inl ⟨c0, f0, hp, fun k => by have := cell_lt c0; omega, h⟩
  | full h =>
    obtain ⟨b, c0, f0, h1, h2, B, n, H, V, h3, h4, h5⟩ := h
    have hl := h4.lt
    have hm := h4.mlt
    have hc := cell_lt c0
    exact .inr ⟨b, b + 1, n, H, V, h3, ⟨c0, f0, h1, h2, ⟨h4.m, ⟨fun f => own_low (h4.rows.row f) hl, h4.rows.ap, h4.rows.off⟩, Nat.lt_succ_self b⟩, fun f hf => (h5 f hf).2, by omega, by omega, fun g j hj k => by
      obtain ⟨k1, k2⟩ := World.ownsRow.lt (h4.rows.row g) j hj
      omega, hm⟩, fun f hf => (h5 f hf).1⟩
theorem addX_none (X : SaysX) (id : ByteArray) : addX X [] id = X := addX_nil X id
theorem addX_step {X : SaysX} {fs : List FieldL} {g : FieldL} {id : ByteArray} (h : g ∉ fs) : addX X (fs ++ [g]) id = putX (addX X fs id) g (insN (X g) id) := by
  rw [addX_snoc h]
  funext f
  unfold putX
  by_cases e : f = g
  · rw [if_pos e, if_pos e, e]
    unfold addX
    rw [if_neg h]
  · rw [if_neg e, if_neg e]
theorem addX_at {X : SaysX} {fs : List FieldL} {g : FieldL} {id : ByteArray} (h : g ∉ fs) : addX X fs id g = X g := by
  unfold addX
  rw [if_neg h]
theorem insN_ins {l : List ByteArray} {s : ByteArray} (h : Asc l) : insN l s = insS l (idxN l s) s := insN_split h
theorem insN_ne (l : List ByteArray) (s : ByteArray) : insN l s ≠ [] := fun e => by
  have := insN_length l s
  rw [e] at this
  simp at this
/-- of the blocks Z all that are there stay as they are -/
structure Keeps (Z : Nat → Prop) (w w' : World) : Prop where
  os : w'.os = w.os
  tape : w'.tape = w.tape
  output : w'.output = w.output
  size : w.heap.size ≤ w'.heap.size
  block : ∀ z, Z z → z < w.heap.size → w'.heap[z]? = w.heap[z]?
theorem Keeps.refl (Z : Nat → Prop) (w : World) : Keeps Z w w := ⟨rfl, rfl, rfl, Nat.le_refl _, fun _ _ _ => rfl⟩
theorem Keeps.trans {Z : Nat → Prop} {w w1 w2 : World} (h : Keeps Z w w1) (k : Keeps Z w1 w2) : Keeps Z w w2 :=
  ⟨k.os.trans h.os, k.tape.trans h.tape, k.output.trans h.output, Nat.le_trans h.size k.size, fun z hz hl => (k.block z hz (Nat.lt_of_lt_of_le hl h.size)).trans (h.block z hz hl)⟩
theorem Keeps.sub {Z Z' : Nat → Prop} {w w' : World} (h : Keeps Z w w') (hz : ∀ z, Z' z → Z z) : Keeps Z' w w' := ⟨h.os, h.tape, h.output, h.size, fun z k hl => h.block z (hz z k) hl⟩
theorem Keeps.of {Z : Nat → Prop} {w w' : World} (h : Below w.heap.size w w') : Keeps Z w w' := ⟨h.os, h.tape, h.output, h.size, fun z _ hl => h.block z hl⟩
theorem Keeps.to {Z : Nat → Prop} {w w' : World} {S : Nat} (h : Keeps Z w w') (hz : ∀ z, z < S → Z z) (hS : S ≤ w.heap.size) : Below S w w' := ⟨h.os, h.tape, h.output, h.size, fun z hl => h.block z (hz z hl) (Nat.lt_of_lt_of_le hl hS)⟩
theorem Keeps.grown {Z : Nat → Prop} {w w' : World} {row : Option Nat} (h : w.grownBy w' row) (hz : ∀ z, Z z → some z ≠ row) : Keeps Z w w' := ⟨h.os, h.tape, h.output, h.size, fun z k hl => h.block z hl (hz z k)⟩
theorem Keeps.cell {Z : Nat → Prop} {w w' : World} {b o : Nat} {v : Value} (h : Keeps Z w w') (hz : Z b) (hc : w.cell? ⟨b, o, none⟩ = some v) : w'.cell? ⟨b, o, none⟩ = some v := (World.cell?_of_block (a := ⟨b, o, none⟩) (h.block b hz (cell_lt hc))).trans hc
theorem Idx.low {w : World} {S S' p M : Nat} {X : SaysX} (h : Idx w S p M X) (hs : S' ≤ S) : Idx w S' p M X := by
  cases h with
  | bare c0 f0 hp h => exact .bare c0 f0 (Nat.le_trans hs hp) h
  | full h =>
    obtain ⟨b, c0, f0, h1, h2⟩ := h
    exact .full ⟨b, c0, f0, Nat.le_trans hs h1, h2⟩
theorem Idx.mono {w : World} {S p M M' : Nat} {X : SaysX} (h : Idx w S p M X) (hM : M ≤ M') : Idx w S p M' X := by
  cases h with
  | bare c0 f0 hp h => exact .bare c0 f0 hp h
  | full h =>
    obtain ⟨b, c0, f0, h1, h2, B, n, H, V, h3, h4⟩ := h
    exact .full ⟨b, c0, f0, h1, h2, B, n, H, V, Nat.le_trans h3 hM, h4⟩
end Go.Proofs.YtodlabohijabnaaDoor

namespace Go.Proofs.YtodlabohijabnaaDoor
open Go.RowKit Go.Sort Go.Maps

theorem fd_once {fs : List FieldL} (h : fOk fs fs.length) {k : Nat} {f : FieldL} (hk : fs[k]? = some f) : f ∉ fs.take k := fun hm => by
  obtain ⟨j, hj⟩ := List.getElem?_of_mem hm
  rw [List.getElem?_take] at hj
  split at hj
  · rename_i hlt
    have ha := fOk_asc h
    have hjl := (List.getElem?_eq_some_iff.1 hj).1
    have hkl := (List.getElem?_eq_some_iff.1 hk).1
    have h5 := List.pairwise_iff_getElem.1 ha j k (by simpa using hjl) (by simpa using hkl) hlt
    rw [List.getElem_map, List.getElem_map] at h5
    rw [List.getElem?_eq_getElem hjl] at hj
    rw [List.getElem?_eq_getElem hkl] at hk
    rw [Option.some.inj hj, Option.some.inj hk, sLt_irrefl] at h5
    cases h5
  · cases hj

def AddTo (S p M : Nat) (Z : Nat → Prop) (X : SaysX) (w : World) (e : Ending) (w' : World) : Prop := e = .returned (.tuple #[]) ∧ IdxA w' S p M Z X ∧ Keeps Z w w'

/-- what stands at a field, looked up: in whatever world in which the heap is as it is here -/
theorem AddI.look {w : World} {S p b B n : Nat} {Z : Nat → Prop} {X : SaysX} {H : FieldL → Bool} {V : FieldL → Value} (h : AddI w S p b B n Z X H V) {f : FieldL} (hf : isFd f = true) {A : Option Addr} {q c : Nat} (hV : V f = .slice A q c) :
    (Instr.lookup 45 (.map (some b)) (.agg #[.string f.key, .string f.val]) false).run Tryd.prog w = .ok (.slice A q c) w := by
  rw [← hV]
  exact h.m.look (short_fd hf)
theorem nil_nil (w : World) : (Go.binOp .eql 45 (.map none) (.map none)).run Tryd.prog w = .ok (.bool true) w := by
  first | kernel_rfl | simp [Go.binOp, Op.equal, run_underlying Tryd.underlying45]
theorem some_nil (b : Nat) (w : World) : (Go.binOp .eql 45 (.map (some b)) (.map none)).run Tryd.prog w = .ok (.bool false) w := by
  first | kernel_rfl | simp [Go.binOp, Op.equal, run_underlying Tryd.underlying45]
theorem AddI.drew {w : World} {S p b B n : Nat} {Z : Nat → Prop} {X : SaysX} {H : FieldL → Bool} {V : FieldL → Value} (h : AddI w S p b B n Z X H V) : AddI w.drew S p b B n Z X H V := h.below (Below.refl _ _).drew

set_option maxHeartbeats 4000000 in
theorem add_is {S p M m : Nat} {Z : Nat → Prop} {X : SaysX} (id : ByteArray) (cats : Int) (fs : List FieldL) (fa : Option Addr) (fc : Nat) (ra : Option Addr) (rn rc : Nat) (w : World) (h : IdxA w S p M Z X) (hz : ∀ z, Z z → z < w.heap.size) (hin : SlF w fa fs)
    (hloc : ∀ b off, fa = some ⟨b, off, none⟩ → fs ≠ [] → Z b) (hok : fOk fs fs.length) (hm : fs.length = m) (hm6 : m ≤ 6) (hmc : m ≤ fc) (hfx : fc ≤ maxLen) (hasc : ∀ f, Asc (X f)) (hno : ∀ f ∈ fs, id ∉ X f) (hlen : ∀ f, (X f).length ≤ 50000) (hM : M ≤ 1000000000) :
    Calls Tryd.prog 55 #[.pointer (some ⟨p, 0, none⟩), .agg #[.string id, .int .i64 cats, .slice fa m fc, .slice ra rn rc]] w (AddTo S p (M + 6) Z (addX X fs id) w) := by
  obtain ⟨Z1, hZ1⟩ : ∃ Z1 : Nat → Prop, Z1 = fun z => Z z ∨ z = w.heap.size := ⟨_, rfl⟩
  obtain ⟨W1, hW1⟩ : ∃ W1, W1 = w.alloc (.cells #[.string id, .int .i64 cats, .slice fa m fc, .slice ra rn rc] 32) := ⟨_, rfl⟩
  have hb1 : Below w.heap.size w W1 := by rw [hW1]; exact (Below.refl _ _).alloc (Nat.le_refl _) _
  have hs1 : W1.heap.size = w.heap.size + 1 := by rw [hW1]; simp
  have d0 : W1.cell? ⟨w.heap.size, 0, none⟩ = some (.string id) := by rw [hW1]; simp [go_sem]
  have d2 : W1.cell? ⟨w.heap.size, 2, none⟩ = some (.slice fa m fc) := by rw [hW1]; simp [go_sem]
  have hzl : ∀ z, Z1 z → z < W1.heap.size := fun z k => by
    rw [hZ1] at k
    rcases k with k | k
    · have := hz z k; omega
    · omega
  have hin1 := hin.below hb1
  have hloc1 : ∀ b off, fa = some ⟨b, off, none⟩ → fs ≠ [] → Z1 b := fun b off e ne => by rw [hZ1]; exact .inl (hloc b off e ne)
  have hZr : Z1 w.heap.size := by rw [hZ1]; exact .inr rfl
  have hZZ : ∀ z, Z z → Z1 z := fun z k => by rw [hZ1]; exact .inl k
  have HM := Lib.hid hm
  have HOK := Lib.hid hok
  have HASC := Lib.hid hasc
  have HNO := Lib.hid hno
  have HLEN := Lib.hid hlen
  have HZR := Lib.hid hZr
  have HZZ := Lib.hid hZZ
  have HLOC := Lib.hid hloc1
  have HMM := Lib.hid hM
  have hidx : IdxA W1 S p M Z1 X := ((h.wide).below hb1).sub (fun z k => by rw [hZ1] at k; rcases k with k | k; exact .inl k; exact .inr (by omega))
  have HK1X : Hid (Keeps Z1 w W1) := Keeps.of hb1
  have HZ1 := Lib.hid hZ1
  clear h hz hin hloc hok hm hasc hno hlen hM hb1 hloc1 hZr hZZ hZ1
  have HIDX := Lib.hid hidx
  have HIN := Lib.hid hin1
  have HZL := Lib.hid hzl
  have HD0 := Lib.hid d0
  have HD2 := Lib.hid d2
  have HW1 := Lib.hid hW1
  clear hidx hin1 hzl d0 d2 hW1
  go_enter Tryd.func55, Tryd.ntmps55
  go_upto_region 1 with fail
  rw [← HW1.out]
  obtain ⟨rb, hrb⟩ : ∃ rb, rb = w.heap.size := ⟨_, rfl⟩
  rw [← hrb] at HZR HD0 HD2 hs1 ⊢
  clear hrb HW1
  obtain ⟨mo, tb, c0, enn, hcase⟩ : ∃ mo tb, W1.cell? ⟨p, 0, none⟩ = some (.map mo) ∧ (∀ w, (Go.binOp .eql 45 (.map mo) (.map none)).run Tryd.prog w = .ok (.bool tb) w) ∧ Hid ((tb = true ∧ W1.frozen? ⟨p, 0, none⟩ = false ∧ S ≤ p ∧ ¬ Z1 p ∧ ∀ f, X f = []) ∨ (tb = false ∧ ∃ b B n0 H0 V0, n0 ≤ M ∧ AddI W1 S p b B n0 Z1 X H0 V0 ∧ ∀ f, H0 f = true → X f ≠ [])) := by
    rcases HIDX.out with ⟨c0, f0, hp, hzp, hX⟩ | ⟨b, B, n0, H0, V0, hn0, hA0, hne0⟩
    · exact ⟨none, true, c0, nil_nil, .inl ⟨rfl, f0, hp, hzp, hX⟩⟩
    · exact ⟨some b, false, hA0.c0, some_nil b, .inr ⟨rfl, b, B, n0, H0, V0, hn0, hA0, hne0⟩⟩
  clear HIDX
  go_upto_if 12 with fail
  go_cut [] from 13 to 16 (fun wc => Hid (∃ b B n0 H0 V0, n0 ≤ M ∧ AddI wc S p b B n0 Z1 X H0 V0 ∧ ∀ f, H0 f = true → X f ≠ []) ∧ Hid (Keeps Z1 W1 wc))
  case first =>
    rcases hcase.out with ⟨rfl, f0, hp, hzp, hX⟩ | ⟨rfl, hex⟩
    · have hX0 : X = fun _ => [] := funext hX
      have hex : ∃ b B n0 H0 V0, n0 ≤ M ∧ AddI ((W1.alloc (.map #[] 0)).setCell ⟨p, 0, none⟩ (.map (some W1.heap.size))) S p b B n0 Z1 X H0 V0 ∧ ∀ f, H0 f = true → X f ≠ [] := by
        rw [hX0]
        exact ⟨_, _, 0, _, _, Nat.zero_le _, addI_made W1 c0 f0 hp hzp HZL.out, fun f k => by cases k⟩
      have hk2 : Keeps Z1 W1 ((W1.alloc (.map #[] 0)).setCell ⟨p, 0, none⟩ (.map (some W1.heap.size))) :=
        (Keeps.of ((Below.refl _ _).alloc (Nat.le_refl _) _)).trans (Keeps.grown (grown_setCell _ ⟨p, 0, none⟩ _) fun z k e => by cases e; exact hzp k)
      have HEX := Lib.hid hex
      have HK2 := Lib.hid hk2
      have hbm : Below W1.heap.size W1 (W1.alloc (.map #[] 0)) := (Below.refl _ _).alloc (Nat.le_refl _) _
      have c0m := (hbm.cell (p := ⟨p, 0, none⟩) (cell_lt c0)).trans c0
      have f0m := (hbm.frozen (p := ⟨p, 0, none⟩) (cell_lt c0)).trans f0
      have hmm := @run_makeMap Tryd.prog
      rw [hs1] at HEX HK2
      clear hex hk2 hX hX0 hbm hcase
      go_wp2_with fail
      go_meet
      exact ⟨HEX.out, HK2.out⟩
    · have HEX := Lib.hid hex
      clear hex hcase
      go_wp2_with fail
      go_meet
      exact ⟨HEX.out, Keeps.refl _ _⟩
  case rest =>
    obtain ⟨HEX, HK2⟩ := hcut
    clear c0 enn hcase
    obtain ⟨b, B, n0, H0, V0, hn0, hA2, hne2⟩ := HEX.out
    have HIN2 : Hid (SlF _ fa fs) := slF_at HIN.out fun b' off e ne hl => HK2.out.block b' (HLOC.out b' off e ne) hl
    have HZL2 : Hid (∀ z, Z1 z → z < wc.heap.size) := fun z k => Nat.lt_of_lt_of_le (HZL.out z k) HK2.out.size
    have e0 := HK2.out.cell HZR.out HD0.out
    have e2 := HK2.out.cell HZR.out HD2.out
    have HKW : Hid (Keeps Z1 w wc) := (HK1X.out).trans HK2.out
    have HA2 := Lib.hid hA2
    have HNE2 := Lib.hid hne2
    have HN0 := Lib.hid hn0
    clear HD0 HD2
    have HD0 := Lib.hid e0
    have HD2 := Lib.hid e2
    clear hA2 hne2 hn0 e0 e2
    have c0 := HA2.out.c0
    have d0 := HD0.out
    have d2 := HD2.out
    clear c0
    go_wp2_with fail
    go_loopw [20] (fun i wr => ∃ (k n : Nat) (H : FieldL → Bool) (V : FieldL → Value), k ≤ m ∧ i = .int .i64 k ∧ Hid (n ≤ n0 + k) ∧ Hid (AddI wr S p b B n Z1 (addX X (fs.take k) id) H V) ∧ Hid (∀ f, H f = true → addX X (fs.take k) id f ≠ []) ∧ Hid (Keeps Z1 wc wr)) (fun i _ => m - (intOf i).toNat)
    case atStart => exact ⟨0, n0, H0, V0, Nat.zero_le _, rfl, Nat.le_refl _, (by rw [List.take_zero, addX_nil]; exact HA2.out), (by rw [List.take_zero, addX_nil]; exact HNE2.out), Keeps.refl _ _⟩
    case round =>
      clear d0 d2
      obtain ⟨k, n, H, V, hk, rfl, HN, HAI, HNE, HK⟩ := hrel
      by_cases hlt : k < m
      · obtain ⟨f, hf⟩ : ∃ f, fs[k]? = some f := ⟨_, List.getElem?_eq_getElem (by rw [HM.out]; exact hlt)⟩
        have hfd : isFd f = true := fOk_all HOK.out f (List.mem_of_getElem? hf)
        have hnk : f ∉ fs.take k := fd_once HOK.out hf
        have hFw : SlF wr fa fs := slF_at HIN2.out fun b' off e ne hl => HK.out.block b' (HLOC.out b' off e ne) hl
        obtain ⟨bf, off, rfl, z0, z1⟩ := hFw k f hf
        have hXk : addX X (fs.take k) id f = X f := addX_at hnk
        have hXs : addX X (fs.take (k + 1)) id = putX (addX X (fs.take k) id) f (insN (X f) id) := by rw [take_snoc hf]; exact addX_step hnk
        have hno := HNO.out f (List.mem_of_getElem? hf)
        have hlenf := HLEN.out f
        have hascf := HASC.out f
        obtain ⟨A, cc, hVf⟩ := (HAI.out.m.rows.row f).form
        rw [hXk] at hVf
        obtain ⟨l, hl⟩ : ∃ l, X f = l := ⟨_, rfl⟩
        rw [hl] at hVf hno hlenf hascf hXs hXk
        obtain ⟨q, hq⟩ : ∃ q, l.length = q := ⟨_, rfl⟩
        obtain ⟨I, hI⟩ : ∃ I, idxN l id = I := ⟨_, rfl⟩
        rw [hq] at hVf hlenf
        have i1 : (0 : Int) ≤ (k : Int) := by omega
        have i2 : (k : Int) < (m : Int) := by omega
        have hmc2 : (m : Int) ≤ (fc : Int) := by omega
        obtain ⟨bx, hbx⟩ : ∃ bx, bx = wr.heap.size := ⟨_, rfl⟩
        have HBX := Lib.hid hbx
        obtain ⟨W6, hW6⟩ : ∃ W6, W6 = wr.alloc (.cells #[.string f.key, .string f.val] 24) := ⟨_, rfl⟩
        have hb6 : Below wr.heap.size wr W6 := by rw [hW6]; exact (Below.refl _ _).alloc (Nat.le_refl _) _
        have hs6 : W6.heap.size = wr.heap.size + 1 := by rw [hW6]; simp
        have hA6 : AddI W6 S p b B n (fun z => Z1 z ∨ wr.heap.size ≤ z) (addX X (fs.take k) id) H V := HAI.out.wide.below hb6
        have x0 : W6.cell? ⟨bx, 0, none⟩ = some (.string f.key) := by rw [hW6, hbx]; simp [go_sem]
        have x1 : W6.cell? ⟨bx, 1, none⟩ = some (.string f.val) := by rw [hW6, hbx]; simp [go_sem]
        have xd : W6.cell? ⟨rb, 0, none⟩ = some (.string id) := (hb6.cell (p := ⟨rb, 0, none⟩) (cell_lt (HK.out.cell HZR.out HD0.out))).trans (HK.out.cell HZR.out HD0.out)
        have xc := hA6.c0
        have xl := hA6.drew.look hfd hVf
        have hro6 := hA6.m.rows.row f
        rw [hVf, hXk] at hro6
        have hsr6 : SlS W6.drew A l := (OwnS.sl (show OwnS B W6.drew (.slice A l.length cc) l by rw [hq]; exact own_below hro6 (Below.refl _ _).drew)).1
        have HSR := Lib.hid (search_is (t := false) A l cc id W6.drew hsr6 hq (by omega) hascf hI (by simp [hno]))
        have HX0 := Lib.hid x0
        have HX1 := Lib.hid x1
        have HXD := Lib.hid xd
        have HA6 := Lib.hid hA6
        have HRO := Lib.hid hro6
        have HS6 := Lib.hid hs6
        have HB6 := Lib.hid hb6
        have HXS := Lib.hid hXs
        have HXK := Lib.hid hXk
        have HVF := Lib.hid hVf
        have HFD := Lib.hid hfd
        have HL := Lib.hid hl
        have HQ := Lib.hid hq
        have HI := Lib.hid hI
        have HAS := Lib.hid hascf
        have HLE := Lib.hid hlenf
        have hIq : I ≤ q := by rw [← hI, ← hq]; exact idxN_le _ _
        have HIQ := Lib.hid hIq
        have HW6 := Lib.hid hW6
        have HSV : Hid (∀ V, Below W6.heap.size W6 V → V.cell? ⟨p, 0, none⟩ = some (.map (some b)) ∧ V.cell? ⟨bx, 0, none⟩ = some (.string f.key) ∧ V.cell? ⟨bx, 1, none⟩ = some (.string f.val) ∧ V.cell? ⟨rb, 0, none⟩ = some (.string id)) := fun V hV => ⟨(hV.cell (p := ⟨p, 0, none⟩) (cell_lt xc)).trans xc, (hV.cell (p := ⟨bx, 0, none⟩) (cell_lt x0)).trans x0, (hV.cell (p := ⟨bx, 1, none⟩) (cell_lt x1)).trans x1, (hV.cell (p := ⟨rb, 0, none⟩) (cell_lt xd)).trans xd⟩
        clear hbx hf hfd hnk hFw hXk hXs hno hlenf hascf hVf hl hq hI hb6 hs6 hA6 hro6 hsr6 hIq hW6
        go_upto_region 6 with fail
        rw [← HW6.out, ← HBX.out]
        go_region_held3 (fun V => V.cell? ⟨p, 0, none⟩ = some (.map (some b)) ∧ V.cell? ⟨bx, 0, none⟩ = some (.string f.key) ∧ V.cell? ⟨bx, 1, none⟩ = some (.string f.val) ∧ V.cell? ⟨rb, 0, none⟩ = some (.string id)) (first | exact HSV.out _ ((Below.refl _ _).drew) | exact HSV.out _ (((Below.refl _ _).drew).trans (by assumption)))
          (first | (go_at_call 85; refine HSR.out.mono ?_; rintro e w7 ⟨rfl, hb7⟩))
        all_goals
          clear x0 x1 xd xc xl z0 z1
          have hb67 : Below W6.heap.size W6 w7 := ((Below.refl W6.heap.size W6).drew).trans hb7
          obtain ⟨W8, hW8⟩ : ∃ W8, W8 = (w7.alloc (.cells #[.string id] 9)).drew := ⟨_, rfl⟩
          have hb8 : Below w7.heap.size w7 W8 := by rw [hW8]; exact ((Below.refl _ _).alloc (Nat.le_refl _) _).drew
          have hs8 : W8.heap.size = w7.heap.size + 1 := by rw [hW8]; simp
          have hA7 := HA6.out.below hb67
          have hA8 := (hA7.below hb8).sub (Z' := fun z => Z1 z ∨ z = bx ∨ z = w7.heap.size) (fun z k => by
            have h1 := hb67.size
            have h2 := HS6.out
            have h5 := HBX.out
            rcases k with k | k | k
            · exact .inl k
            · exact .inr (by omega)
            · exact .inr (by omega))
          have hzl8 : ∀ z, (Z1 z ∨ z = bx ∨ z = w7.heap.size) → z < W8.heap.size := fun z k => by
            have h1 := hb67.size
            have h2 := HS6.out
            have h5 := HBX.out
            rcases k with k | k | k
            · have h3 := HZL2.out z k
              have h4 := HK.out.size
              omega
            · omega
            · omega
          have hro8 := own_below (own_below HRO.out hb67) hb8
          have hvl : W8.heap[w7.heap.size]? = some (.cells #[.string id] 9 (0, 0)) := by rw [hW8]; show (w7.heap.push _)[w7.heap.size]? = _; simp
          have hAb : ∀ z, (Z1 z ∨ z = bx ∨ z = w7.heap.size) → A ≠ some ⟨z, 0, none⟩ := fun z k e => hA8.zv f z (by rw [HVF.out, ob, e]; rfl) k
          have hIN := ins_anyS B A l cc w7.heap.size 1 I id W8 (by rw [HQ.out]; exact hro8) hA8.bs (by have := HLE.out; have := HQ.out; omega) hvl (fun g e k => hAb w7.heap.size (.inr (.inr rfl)) (by rw [e, k])) (by rw [HQ.out]; exact HIQ.out)
          have hins : insS l I id = insN l id := by rw [← HI.out]; exact (insN_ins HAS.out).symm
          rw [HQ.out, hins] at hIN
          have hob : (V f).ownBlock = A.map (·.block) := by rw [HVF.out, ob]
          have hkw : Keeps Z1 wc W8 := (HK.out.trans (Keeps.of HB6.out)).trans ((Keeps.of hb67).trans (Keeps.of hb8))
          have hnx : ∀ w9 A' c', OwnS B w9 (.slice A' (insN l id).length c') (insN l id) → Below B W8 w9 → (∀ j, j < W8.heap.size → A ≠ some ⟨j, 0, none⟩ → w9.heap[j]? = W8.heap[j]?) → (A'.map (·.block) = A.map (·.block) ∨ ∀ j, A'.map (·.block) = some j → W8.heap.size ≤ j) →
              ∃ w10, (Instr.mapUpdate 45 (.map (some b)) (.agg #[.string f.key, .string f.val]) (.slice A' (insN l id).length c')).run Tryd.prog w9 = .ok () w10 ∧
                w9.cell? ⟨bx, 0, none⟩ = some (.string f.key) ∧ w9.cell? ⟨bx, 1, none⟩ = some (.string f.val) ∧ w9.cell? ⟨p, 0, none⟩ = some (.map (some b)) ∧ w9.cell? ⟨rb, 0, none⟩ = some (.string id) ∧
                (w10.cell? ⟨p, 0, none⟩ = some (.map (some b)) ∧ w10.cell? ⟨bx, 0, none⟩ = some (.string f.key) ∧ w10.cell? ⟨bx, 1, none⟩ = some (.string f.val) ∧ w10.cell? ⟨rb, 0, none⟩ = some (.string id)) ∧
                Hid (AddI w10 S p b B (n + 1) Z1 (addX X (fs.take (k + 1)) id) (putH H f) (putV V f (.slice A' (insN l id).length c'))) ∧ Hid (Keeps Z1 wc w10) := fun w9 A' c' ho9 hb9 hot9 hlo9 => by
            have hg9 : W8.grownBy w9 (V f).ownBlock := ⟨hb9.os, hb9.tape, hb9.output, hb9.size, fun j hj hne => hot9 j hj (fun e => hne (by rw [hob, e]; rfl))⟩
            obtain ⟨w10, hrun, ha10, hg10⟩ := hA8.store hzl8 (by have := HN.out; have := HN0.out; have := HMM.out; unfold maxLen; omega) HFD.out ho9 hg9 (by rw [hob, ob]; rcases hlo9 with e | e; exact .inl e.symm; exact .inr e)
            have hk9 : Keeps (fun z => Z1 z ∨ z = bx ∨ z = w7.heap.size) W8 w9 := Keeps.grown hg9 (fun z k e => hA8.apart f k e)
            have e8 := hb67.cell (p := ⟨bx, 0, none⟩) (cell_lt HX0.out)
            have y0 : W8.cell? ⟨bx, 0, none⟩ = some (.string f.key) := (hb8.cell (p := ⟨bx, 0, none⟩) (Nat.lt_of_lt_of_le (cell_lt HX0.out) hb67.size)).trans (e8.trans HX0.out)
            have y1 : W8.cell? ⟨bx, 1, none⟩ = some (.string f.val) := (hb8.cell (p := ⟨bx, 1, none⟩) (Nat.lt_of_lt_of_le (cell_lt HX0.out) hb67.size)).trans ((hb67.cell (p := ⟨bx, 1, none⟩) (cell_lt HX0.out)).trans HX1.out)
            have u0 := hk9.cell (.inr (.inl rfl)) y0
            have u1 := hk9.cell (.inr (.inl rfl)) y1
            have ud := (hkw.trans (hk9.sub fun z k => .inl k)).cell HZR.out HD0.out
            have hk10 : Keeps (fun z => Z1 z ∨ z = bx ∨ z = w7.heap.size) w9 w10 := Keeps.grown hg10 (fun z k e => by cases e; exact hA8.zb k)
            refine ⟨w10, hrun, u0, u1, ?_, ud, ⟨ha10.out.c0, hk10.cell (.inr (.inl rfl)) u0, hk10.cell (.inr (.inl rfl)) u1, hk10.cell (.inl HZR.out) ud⟩, ?_, ?_⟩
            · exact (World.cell?_of_block (a := ⟨p, 0, none⟩) (hg9.block p (cell_lt hA8.c0) (hA8.apart_p f))).trans hA8.c0
            · show AddI _ _ _ _ _ _ _ _ _ _
              rw [HXS.out]
              exact ha10.out.sub fun z k => .inl k
            · exact (hkw.trans (hk9.sub fun z k => .inl k)).trans (hk10.sub fun z k => .inl k)
          have x0 := (hb67.cell (p := ⟨bx, 0, none⟩) (cell_lt HX0.out)).trans HX0.out
          have x1 := (hb67.cell (p := ⟨bx, 1, none⟩) (cell_lt HX0.out)).trans HX1.out
          have xd := (hb67.cell (p := ⟨rb, 0, none⟩) (cell_lt HXD.out)).trans HXD.out
          have xc := hA7.c0
          have xl := hA7.drew.look HFD.out HVF.out
          have xm := (hA7.below hb8).look HFD.out HVF.out
          have hsv : ∀ V, Below w7.heap.size w7 V → V.cell? ⟨p, 0, none⟩ = some (.map (some b)) ∧ V.cell? ⟨bx, 0, none⟩ = some (.string f.key) ∧ V.cell? ⟨bx, 1, none⟩ = some (.string f.val) ∧ V.cell? ⟨rb, 0, none⟩ = some (.string id) := fun V hV => HSV.out V (hb67.trans (hV.mono hb67.size))
          have HSV7 := Lib.hid hsv
          have HINS := Lib.hid hIN
          have HNX := Lib.hid hnx
          rw [hW8] at HINS HNX xm
          clear hb7 hb67 hb8 hs8 hA7 hA8 hzl8 hro8 hvl hAb hIN hins hob hkw hnx hW8 hsv
          go_wp2_with fail
          go_region_held3 (fun V => V.cell? ⟨p, 0, none⟩ = some (.map (some b)) ∧ V.cell? ⟨bx, 0, none⟩ = some (.string f.key) ∧ V.cell? ⟨bx, 1, none⟩ = some (.string f.val) ∧ V.cell? ⟨rb, 0, none⟩ = some (.string id)) (first | assumption | exact HSV7.out _ ((Below.refl _ _).drew) | exact HSV7.out _ (((Below.refl _ _).drew).alloc (Nat.le_refl _) _) | exact HSV7.out _ (((Below.refl _ _).alloc (Nat.le_refl _) _).drew) | exact ⟨by assumption, by assumption, by assumption, by assumption⟩)
            (first | (go_at_call 86; refine HINS.out.mono ?_; rintro e w9 ⟨A', c', rfl, ho9, hb9, hot9, hlo9⟩; obtain ⟨w10, hst, u0, u1, uc, ud, us, HA10, HK10⟩ := HNX.out w9 A' c' ho9 hb9 hot9 hlo9; clear ho9 hb9 hot9 hlo9))
          all_goals
            clear hst u0 u1 uc ud us x0 x1 xd xc xl xm HINS HNX
            go_wp2_with fail
            go_roundw
            case rel =>
              refine ⟨k + 1, n + 1, putH H f, _, by omega, by go_num, (show n + 1 ≤ n0 + (k + 1) by have := HN.out; omega), HA10.out, ?_, HK10.out⟩
              intro g hg
              rw [HXS.out]
              unfold putX
              by_cases e : g = f
              · rw [if_pos e]; exact insN_ne _ _
              · rw [if_neg e]
                unfold putH at hg
                rw [if_neg e] at hg
                exact HNE.out g hg
            case measure => simp [intOf]; omega
      · obtain rfl : k = m := by omega
        have hall : fs.take k = fs := List.take_of_length_le (by rw [HM.out]; exact Nat.le_refl _)
        have HAE : Hid (AddI wr S p b B n Z1 (addX X fs id) H V) := by show AddI _ _ _ _ _ _ _ _ _ _; rw [← hall]; exact HAI.out
        have HNF : Hid (∀ f, H f = true → addX X fs id f ≠ []) := by show ∀ f, _; rw [← hall]; exact HNE.out
        clear hall HAI HNE
        go_wp2_with fail
        go_end0
        exact ⟨rfl, .inr ⟨b, B, n, H, V, (by have := HN.out; have := HN0.out; omega), HAE.out.sub HZZ.out, HNF.out⟩, ((HKW.out).trans HK.out).sub HZZ.out⟩
end Go.Proofs.YtodlabohijabnaaDoor

namespace Go.Proofs.YtodlabohijabnaaDoor
open Go.RowKit Go.Sort Go.Maps

set_option maxHeartbeats 1000000 in
theorem deleteFunc_none (w : World) :
    Calls Tryd.prog 89 #[.map none, .func (.func 88) #[] #[]] w fun e w' => e = .returned (.tuple #[]) ∧ Below w.heap.size w w' := by
  have e1 := run_range_nilMap (P := Tryd.prog) w _ _ _ Tryd.underlying45
  have e2 := fun ty => run_next_nilMap (P := Tryd.prog) w ty 0 0 #[]
  go_enter Tryd.func89, Tryd.ntmps89
  go_wp2_with fail
  go_rounds 1
  go_end0
  exact ⟨rfl, (Below.refl _ _).alloc (Nat.le_refl _) _⟩

/-- where a range stands that takes a name out of each list -/
structure DropSt (X : SaysX) (id : ByteArray) (H : FieldL → Bool) (left : Lit → Bool) (X2 : SaysX) : Prop where
  todo : ∀ f k, keyOf Tryd.prog 24 f.v = some k → left k = true → X2 f = X f
  done : ∀ f k, keyOf Tryd.prog 24 f.v = some k → H f = true → left k = false → X2 f = dropX X id f
theorem DropSt.step {X : SaysX} {id : ByteArray} {H : FieldL → Bool} {left : Lit → Bool} {X2 Y : SaysX} (h : DropSt X id H left X2) {f : FieldL} {kl : Lit} (hk : keyOf Tryd.prog 24 f.v = some kl) (hl : left kl = true) (hY : Y f = dropX X id f) (hY2 : ∀ g, g ≠ f → Y g = X2 g) :
    DropSt X id H (fun z => left z && !z.sameKey kl) Y := by
  refine ⟨fun g kg hg hlg => ?_, fun g kg hg hH hlg => ?_⟩
  · have h1 : left kg = true := by cases e : left kg <;> simp [e] at hlg ⊢
    have h2 : kg.sameKey kl = false := by cases e : kg.sameKey kl <;> simp [e] at hlg ⊢
    have hne : g ≠ f := fun e => by
      subst e
      rw [hk] at hg
      cases hg
      rw [WideAt.sameKey_self (lawFd.key hk)] at h2
      cases h2
    rw [hY2 g hne]
    exact h.todo g kg hg h1
  · by_cases e : g = f
    · rw [e]
      exact hY
    · have h8 : kg.sameKey kl = false := Maps.sameKey_ne fun ek => e (fd_inj hg (by rw [ek]; exact hk))
      have h1 : left kg = false := by
        cases e2 : left kg with
        | false => rfl
        | true => simp [e2, h8] at hlg
      rw [hY2 g e]
      exact h.done g kg hg hH h1
theorem putH_same {H : FieldL → Bool} {f : FieldL} (h : H f = true) : putH H f = H := funext fun g => by
  unfold putH
  split
  · rename_i e
    rw [e, h]
  · rfl
theorem Reads.put_same {w : World} {b n : Nat} {D : DataW Value} {H : FieldL → Bool} {V : FieldL → Value} (h : Reads D H V) (hm : mIdx w b n D) {f : FieldL} {k : Lit} (hk : keyOf Tryd.prog 24 f.v = some k) (hH : H f = true) (v : Value) : Reads (D.put k (.held v)) H (putV V f v) := by
  have := h.put hm hk v
  rwa [putH_same hH] at this
theorem dropX_no {X : SaysX} {id : ByteArray} {f : FieldL} (h : id ∉ X f) : dropX X id f = X f := offN_no h
theorem dropX_del {X : SaysX} {id : ByteArray} {f : FieldL} (ha : Asc (X f)) (h : id ∈ X f) : dropX X id f = delS (X f) (idxN (X f) id) := offN_split ha h

set_option maxHeartbeats 8000000 in
theorem drop_is {S p M : Nat} {Z : Nat → Prop} {X : SaysX} (id : ByteArray) (w : World) (h : IdxA w S p M Z X) (hz : ∀ z, Z z → z < w.heap.size) (hasc : ∀ f, Asc (X f)) (hlen : ∀ f, (X f).length ≤ 50000) (hM : M ≤ 1000000000) :
    Calls Tryd.prog 57 #[.pointer (some ⟨p, 0, none⟩), .string id] w (AddTo S p M Z (dropX X id) w) := by
  rcases h with ⟨c0, f0, hp, hzp, hX⟩ | ⟨b, B, n, H, V, hn, hA, hne⟩
  · obtain rfl : X = fun _ => [] := funext hX
    have hd : dropX (fun _ => []) id = fun _ => [] := rfl
    rw [hd]
    have e1 := run_range_nilMap (P := Tryd.prog) w _ _ _ Tryd.underlying45
    have e2 := fun ty => run_next_nilMap (P := Tryd.prog) w ty 0 0 #[]
    have hb1 : Below w.heap.size w (w.alloc (.mapIter none 0 #[] 0)) := (Below.refl _ _).alloc (Nat.le_refl _) _
    have hidx : IdxA w S p M Z (fun _ => []) := .inl ⟨c0, f0, hp, hzp, fun _ => rfl⟩
    have HIDX := Lib.hid hidx
    have HB1 := Lib.hid hb1
    clear hasc hlen hidx hb1 hX hd f0 hp hzp
    go_enter Tryd.func57, Tryd.ntmps57
    go_wp2_with fail
    go_loopw [] (fun wr => wr = w.alloc (.mapIter none 0 #[] 0)) (fun _ => 0)
    case atStart => exact rfl
    case round =>
      subst hrel
      have c1 := (HB1.out.cell (p := ⟨p, 0, none⟩) (cell_lt c0)).trans c0
      go_wp2_with fail
      refine (deleteFunc_none _).mono ?_
      rintro e w2 ⟨rfl, hb2⟩
      have HB2 := Lib.hid (HB1.out.trans (hb2.mono HB1.out.size))
      clear hb2
      go_wp2_with fail
      go_end0
      exact ⟨rfl, HIDX.out.below HB2.out, Keeps.of HB2.out⟩
  · obtain ⟨D, hown, hrd⟩ := hA.m.m
    have hlt := hA.m.lt
    obtain ⟨Z1, hZ1⟩ : ∃ Z1 : Nat → Prop, Z1 = fun z => Z z ∨ z = p := ⟨_, rfl⟩
    have hpl := cell_lt hA.c0
    have hz1p : Z1 p := by rw [hZ1]; exact .inr rfl
    have hzz : ∀ z, Z z → Z1 z := fun z k => by rw [hZ1]; exact .inl k
    have hz1l : ∀ z, Z1 z → z < w.heap.size := fun z k => by
      rw [hZ1] at k
      rcases k with k | k
      · exact hz z k
      · omega
    have hz1b : ¬ Z1 b := fun k => by
      rw [hZ1] at k
      rcases k with k | k
      · exact hA.zb k
      · have := hA.pb; omega
    have hz1v : ∀ f z, Z1 z → some z ≠ (V f).ownBlock := fun f z k e => by
      rw [hZ1] at k
      rcases k with k | k
      · exact hA.apart f k e
      · rw [k] at e; exact hA.apart_p f e
    have HA := Lib.hid hA
    have HRD := Lib.hid hrd
    have HASC := Lib.hid hasc
    have HLEN := Lib.hid hlen
    have HMM := Lib.hid hM
    have HN := Lib.hid hn
    have HZP := Lib.hid hz1p
    have HZZ := Lib.hid hzz
    have HZL := Lib.hid hz1l
    have HZB := Lib.hid hz1b
    have HZV := Lib.hid hz1v
    have c0 := hA.c0
    have HC0 := Lib.hid hA.c0
    clear hrd hasc hlen hM hn hZ1 hz hne hA hz1p hzz hz1l hz1b hz1v
    go_enter Tryd.func57, Tryd.ntmps57
    go_wp2_with (at_range; refine wpList_range_own _ rfl _ 45 rfl 24 25 lawFd Tryd.underlying45 rawE b n D rfl hown ?_; intro w2 hrg0 hg0 hs0)
    go_frame
    have hg2 : w.grownBy w2 none := ⟨hg0.os, hg0.tape, hg0.output, hg0.size, fun i hi _ => hg0.block i hi (by simp)⟩
    have HR2 := Lib.hid (HA.out.m.rows.grown hlt (⟨hg0.os, hg0.tape, hg0.output, hg0.size, fun i hi _ => hg0.block i hi (by simp)⟩ : w.grownBy w2 (some b)))
    have HK2 : Hid (Keeps Z1 w w2) := Keeps.grown hg2 (fun z _ => by simp)
    have hlb := hown.lt
    obtain ⟨rr, hr⟩ : ∃ rr, rr = w.heap.size := ⟨_, rfl⟩
    rw [← hr] at hrg0 hs0 hlb ⊢
    have HRR := Lib.hid hr
    clear hg0 hg2 hr hown c0
    go_loopw [] (fun wq => ∃ (left : Lit → Bool) (cnt : Nat) (D2 : DataW Value) (X2 : SaysX) (V2 : FieldL → Value), wq.ranges Tryd.prog 24 rawE b rr n D2 left cnt ∧ Hid (Reads D2 H V2) ∧ Hid (IRows B wq X2 H V2) ∧ Hid (DropSt X id H left X2) ∧ Hid (∀ f, (V2 f).ownBlock = (V f).ownBlock) ∧ Hid (Keeps Z1 w wq)) (fun wq => wq.rangeLeft b rr)
    case atStart => exact ⟨_, _, _, X, V, hrg0, HRD.out, HR2.out, ⟨fun f k hk hf => rfl, fun f k hk hf hl => by rw [(HRD.out f k hk).2, hf] at hl; cases hl⟩, fun f => rfl, HK2.out⟩
    case round =>
      clear hrg0 HR2 hs0 HK2
      obtain ⟨left, cnt, D2, X2, V2, hrg, HRD2, HROW2, HDS, HVO, HK⟩ := hrel
      have c0 := HK.out.cell HZP.out HC0.out
      go_wp2_with (at_next; refine wpList_next_ranges _ rfl _ rfl 24 lawFd rawE (fun f : FieldL => f.v) (fun v : Value => v) (fun key kl hk => by obtain ⟨f, e⟩ := fd_inv hk; exact ⟨f, e⟩) (fun v y hv => ⟨v, rfl⟩) b rr n _ _ _ rfl hrg ?_ ?_)
      · intro _ hl0
        have hX2 : X2 = dropX X id := funext fun f => by
          cases hH : H f with
          | false =>
            have h1 := HROW2.out.off f hH
            have h2 := HA.out.m.rows.off f hH
            rw [h1]
            unfold dropX
            rw [h2]
            rfl
          | true =>
            obtain ⟨k, hk⟩ := fd_key f (short_fd (HA.out.fd f hH))
            exact HDS.out.done f k hk hH (hl0 k)
        subst hX2
        have HOWN := Lib.hid hrg.owns
        have HDF := Lib.hid (deleteFunc_is wr ⟨⟨D2, HOWN.out, HRD2.out⟩, HROW2.out, hlt⟩ HA.out.fd)
        clear hl0 hrg
        go_wp2_with fail
        refine HDF.out.mono ?_
        rintro e w3 ⟨rfl, hg3, H', V', him, hvv, hfin⟩
        have HK3 := Lib.hid (HK.out.trans (Keeps.grown hg3 (fun z k e => by cases e; exact HZB.out k)))
        have HIM := Lib.hid him
        have HVV := Lib.hid hvv
        have HFIN := Lib.hid hfin
        clear him hvv hfin hg3 c0 HDF
        go_wp2_with fail
        go_end0
        refine ⟨rfl, .inr ⟨b, B, n, H', V', HN.out, ⟨HK3.out.cell HZP.out HC0.out, ?_, HA.out.hp, HA.out.pb, HIM.out, fun f k => (HFIN.out f k).2, HA.out.zp, HA.out.zb, fun g j hj k => ?_, ?_⟩, fun f k => (HFIN.out f k).1⟩, HK3.out.sub HZZ.out⟩
        · exact (World.frozen?_of_block (a := ⟨p, 0, none⟩) (HK3.out.block p HZP.out (cell_lt HC0.out))).trans HA.out.f0
        · have h1 := HVV.out g j hj
          rw [HVO.out g] at h1
          exact HA.out.zv g j h1 k
        · exact Nat.le_trans HA.out.bs HK3.out.size
      · intro f c kl y ps w3 cnt' hkey hlk hv hat hrg3 hlt3 hg3 hs3 hent
        have hy : y = .held c := (Prod.mk.inj (raw_inv c (y, ps) hv)).1
        have hat2 : ∀ z, D2.atKey kl z = .held c := fun z => by rw [hat z, hy]
        obtain ⟨r1, r2⟩ := HRD2.out f kl hkey
        have hcV : c = V2 f := by
          have := (hat2 (.held nilS)).symm.trans r1
          injection this
        have hH : H f = true := by rw [← r2]; exact has_true_of_atKey hat2
        have hfd := HA.out.fd f hH
        have hXf := HDS.out.todo f kl hkey hlk
        obtain ⟨A, cc, hVf⟩ := (HROW2.out.row f).form
        have hrr : ∀ g k, (V2 g).ownBlock = some k → k < rr := fun g k hk => by
          rw [HVO.out g] at hk
          have h1 := (World.ownsRow.lt (HA.out.m.rows.row g) k hk).2
          have h2 := HRR.out
          omega
        have hrow3 : IRows B w3 X2 H V2 := ⟨fun g => World.ownsRow.kept (HROW2.out.row g) hg3 (by
          cases hv : (V2 g).ownBlock with
          | none => exact .inl rfl
          | some k => exact .inr fun e => by have h1 := hrr g k hv; cases e; omega), HROW2.out.ap, HROW2.out.off⟩
        have hk3 : Keeps Z1 w w3 := HK.out.trans (Keeps.grown hg3 (fun z k e => by cases e; have h1 := HZL.out rr k; have h2 := HRR.out; omega))
        obtain ⟨bx, hbx⟩ : ∃ bx, bx = w3.heap.size := ⟨_, rfl⟩
        have HBX := Lib.hid hbx
        obtain ⟨W4, hW4⟩ : ∃ W4, W4 = w3.alloc (.cells #[.string f.key, .string f.val] 24) := ⟨_, rfl⟩
        have hb4 : Below w3.heap.size w3 W4 := by rw [hW4]; exact (Below.refl _ _).alloc (Nat.le_refl _) _
        have hs4 : W4.heap.size = w3.heap.size + 1 := by rw [hW4]; simp
        have hrg4 : W4.ranges Tryd.prog 24 rawE b rr n D2 (fun z => left z && !z.sameKey kl) cnt' := by rw [hW4]; exact hrg3.alloc _
        have z0 : W4.cell? ⟨bx, 0, none⟩ = some (.string f.key) := by rw [hW4, hbx]; simp [go_sem]
        have z1 : W4.cell? ⟨bx, 1, none⟩ = some (.string f.val) := by rw [hW4, hbx]; simp [go_sem]
        have hrow4 := hrow3.below hb4
        have hro := hrow4.row f
        rw [hVf, hXf] at hro
        have hlenf := HLEN.out f
        have hascf := HASC.out f
        obtain ⟨l, hl⟩ : ∃ l, X f = l := ⟨_, rfl⟩
        rw [hl] at hro hlenf hascf
        obtain ⟨q, hq⟩ : ∃ q, l.length = q := ⟨_, rfl⟩
        obtain ⟨I, hI⟩ : ∃ I, idxN l id = I := ⟨_, rfl⟩
        obtain ⟨t, ht⟩ : ∃ t, memN l id = t := ⟨_, rfl⟩
        obtain ⟨s1, s2, s3⟩ := OwnS.sl hro
        have hSR := search_is A l cc id W4 s1 hq (by omega) hascf hI (t := t) (by rw [← ht]; exact memN_iff.symm)
        have hVf2 : V2 f = .slice A q cc := by rw [hVf, hXf, hl, hq]
        rw [hq] at hro
        rw [hcV, hVf2] at hent ⊢
        have HSR := Lib.hid hSR
        have HRW4 := Lib.hid hrow4
        have HRO := Lib.hid hro
        have HRG4 := Lib.hid hrg4
        have HRG := Lib.hid hrg
        have HLT := Lib.hid hlt3
        have HKEY := Lib.hid hkey
        have HLK := Lib.hid hlk
        have HK4 := Lib.hid (hk3.trans (Keeps.of hb4))
        have HZ0 := Lib.hid z0
        have HZ1 := Lib.hid z1
        have HT := Lib.hid ht
        have HL := Lib.hid hl
        have HQ := Lib.hid hq
        have HI := Lib.hid hI
        have HFD := Lib.hid hfd
        have HH := Lib.hid hH
        have HAT2 := Lib.hid hat2
        have HVF := Lib.hid hVf2
        have HAS := Lib.hid hascf
        have HLE := Lib.hid hlenf
        have HRR3 := Lib.hid hrr
        have HLW : Hid (rr < w3.heap.size) := hrg3.lt
        have HLB : Hid (b < w3.heap.size) := hrg3.owns.lt
        have HW4 := Lib.hid hW4
        have HS4 := Lib.hid hs4
        have hlw : rr < W4.heap.size := hrg4.lt
        clear hbx hy r1 r2 hcV hVf hVf2 hrow3 hrow4 hk3 hb4 hrg4 z0 z1 ht hrg hrg3 hkey hlk hv hat hat2 hg3 hs3 hlt3 hl hq hI hSR hro s1 s2 s3 hfd hXf hascf hlenf hH hrr hW4 hs4 hlw c0
        cases t with
        | false =>
          have hno : id ∉ X f := by
            rw [HL.out]
            exact fun k => by have := memN_iff.2 k; rw [HT.out] at this; cases this
          have HNO := Lib.hid hno
          clear hno
          go_wp2_with fail
          rw [← HW4.out, ← HBX.out]
          (with_reducible refine HSR.out.mono ?_)
          rintro e w5 ⟨rfl, hb5⟩
          have hrg5 := HRG4.out.kept (row := none) (grown_of_below hb5) (by simp) (by simp)
          have HRG5 := Lib.hid hrg5
          have HRW5 := Lib.hid (HRW4.out.below hb5)
          have HK5 := Lib.hid (HK4.out.trans (Keeps.of hb5))
          clear hb5 hrg5
          go_wp2_with fail
          go_roundw
          case rel => exact ⟨_, cnt', D2, X2, V2, HRG5.out, HRD2.out, HRW5.out, HDS.out.step HKEY.out HLK.out (by rw [HDS.out.todo f kl HKEY.out HLK.out, dropX_no HNO.out]) (fun g _ => rfl), HVO.out, HK5.out⟩
          case measure => rw [HRG5.out.left_eq, HRG.out.left_eq]; exact HLT.out
        | true =>
          have hmem : id ∈ l := memN_iff.1 HT.out
          have hIq : I < q := by
            have h1 := (idxN_there HAS.out).1 hmem
            rw [HI.out] at h1
            have h2 := (List.getElem?_eq_some_iff.1 h1).1
            rw [HQ.out] at h2
            exact h2
          have HIQ := Lib.hid hIq
          have HMEM := Lib.hid hmem
          clear hmem
          go_wp2_with fail
          rw [← HW4.out, ← HBX.out]
          (with_reducible refine HSR.out.mono ?_)
          rintro e w5 ⟨rfl, hb5⟩
          have hrg5 := HRG4.out.kept (row := none) (grown_of_below hb5) (by simp) (by simp)
          have hrow5 := HRW4.out.below hb5
          have hK5 := HK4.out.trans (Keeps.of hb5)
          have y0 := (hb5.cell (p := ⟨bx, 0, none⟩) (cell_lt HZ0.out)).trans HZ0.out
          have y1 := (hb5.cell (p := ⟨bx, 1, none⟩) (cell_lt HZ0.out)).trans HZ1.out
          have c0 := hK5.cell HZP.out HC0.out
          have hro5 := own_below HRO.out hb5
          have hs5 : w3.heap.size + 1 ≤ w5.heap.size := by have h1 := HS4.out; have h2 := hb5.size; omega
          have hBw : B ≤ w5.heap.size := Nat.le_trans HA.out.bs hK5.size
          obtain ⟨w5d, hw5d⟩ : ∃ w5d, w5d = w5.drew := ⟨_, rfl⟩
          have hd5 : Below w5.heap.size w5 w5d := by rw [hw5d]; exact (Below.refl _ _).drew
          have hro5d : OwnS B w5d (.slice A q cc) l := own_below hro5 hd5
          have hDL := del_isS A cc I l w5d hro5d HQ.out (by have := HLE.out; have := HQ.out; omega) hIq (Nat.le_trans hBw hd5.size)
          have hw1 : IntKind.i64.wrap ((I : Int) + 1) = (I : Int) + 1 := by rw [IntKind.wrap_i64]; have := HLE.out; have := HQ.out; omega
          have hw2 : wrap64 ((I : Int) + 1) = (I : Int) + 1 := by unfold wrap64; have := HLE.out; have := HQ.out; omega
          rw [show (((I + 1 : Nat)) : Int) = (I : Int) + 1 by omega] at hDL
          have hds : delS l I = dropX X id f := by rw [← HI.out, ← HL.out]; exact (dropX_del (by rw [HL.out]; exact HAS.out) (by rw [HL.out]; exact HMEM.out)).symm
          have hlocA : (V2 f).ownBlock = A.map (·.block) := by rw [HVF.out, ob]
          have hnx : ∀ w6, OwnS B w6 (.slice A (delS l I).length cc) (delS l I) → Below B w5d w6 → (∀ j, j < w5d.heap.size → A ≠ some ⟨j, 0, none⟩ → w6.heap[j]? = w5d.heap[j]?) →
              ∃ w7, (Instr.mapUpdate 45 (.map (some b)) (.agg #[.string f.key, .string f.val]) (.slice A (delS l I).length cc)).run Tryd.prog w6 = .ok () w7 ∧
                w6.cell? ⟨bx, 0, none⟩ = some (.string f.key) ∧ w6.cell? ⟨bx, 1, none⟩ = some (.string f.val) ∧ w6.cell? ⟨p, 0, none⟩ = some (.map (some b)) ∧
                (w7.cell? ⟨p, 0, none⟩ = some (.map (some b)) ∧ w7.cell? ⟨bx, 0, none⟩ = some (.string f.key) ∧ w7.cell? ⟨bx, 1, none⟩ = some (.string f.val)) ∧
                Hid (w7.ranges Tryd.prog 24 rawE b rr n (D2.put kl (.held (.slice A (delS l I).length cc))) (fun z => left z && !z.sameKey kl) cnt') ∧
                Hid (IRows B w7 (putX X2 f (dropX X id f)) H (putV V2 f (.slice A (delS l I).length cc))) ∧ Hid (Keeps Z1 w w7) := fun w6 ho6 hb6 hot6 => by
            have hg6 : w5d.grownBy w6 (V2 f).ownBlock := ⟨hb6.os, hb6.tape, hb6.output, hb6.size, fun j hj hne => hot6 j hj (fun e => hne (by rw [hlocA, e]; rfl))⟩
            have hr5d : w5d.ranges Tryd.prog 24 rawE b rr n D2 (fun z => left z && !z.sameKey kl) cnt' := hrg5.kept (row := none) (grown_of_below hd5) (by simp) (by simp)
            have hrow5d : IRows B w5d X2 H V2 := hrow5.below hd5
            have hbne : some b ≠ (V2 f).ownBlock := fun e => by
              have h1 := (World.ownsRow.lt (hrow5d.row f) b e.symm).1
              omega
            have hrne : some rr ≠ (V2 f).ownBlock := fun e => by have := HRR3.out f rr e.symm; omega
            have hr6 := hr5d.kept hg6 hbne hrne
            obtain ⟨w7, hrun, hr7, hg7⟩ := ranges_put hr6 lawFd Tryd.underlying45 (by have := HN.out; have := HMM.out; unfold maxLen; omega) (val := .slice A (delS l I).length cc) (d := .held (.slice A (delS l I).length cc)) (z := .map []) (ps := []) HKEY.out rfl (by rw [HAT2.out]; intro e; cases e)
            have hrow7 := hrow5d.put hlt f ho6 hg6 (.inl (by rw [hlocA, ob])) hg7
            rw [putH_same HH.out, hds] at hrow7
            have hwz : bx < w5d.heap.size := by have := hd5.size; have := HBX.out; omega
            have hfz : w6.heap[bx]? = w5d.heap[bx]? := hg6.block _ hwz (fun e => by have h1 := HRR3.out f _ e.symm; have h2 := HLW.out; have h3 := HBX.out; omega)
            have hpk : Keeps Z1 w w6 := (hK5.trans (Keeps.of hd5)).trans (Keeps.grown hg6 (fun z k => by rw [HVO.out f]; exact HZV.out f z k))
            have v0 : w6.cell? ⟨bx, 0, none⟩ = some (.string f.key) := (World.cell?_of_block (a := ⟨bx, 0, none⟩) hfz).trans ((hd5.cell (p := ⟨bx, 0, none⟩) (cell_lt y0)).trans y0)
            have v1 : w6.cell? ⟨bx, 1, none⟩ = some (.string f.val) := (World.cell?_of_block (a := ⟨bx, 1, none⟩) hfz).trans ((hd5.cell (p := ⟨bx, 1, none⟩) (cell_lt y1)).trans y1)
            have hbb : some bx ≠ some b := fun e => by
              have h2 := HBX.out
              have h3 := HLB.out
              cases e
              omega
            have hfz7 : w7.heap[bx]? = w6.heap[bx]? := hg7.block _ (cell_lt v0) hbb
            have hpk7 : Keeps Z1 w w7 := hpk.trans (Keeps.grown hg7 (fun z k e => by cases e; exact HZB.out k))
            refine ⟨w7, hrun, v0, v1, hpk.cell HZP.out HC0.out, ⟨hpk7.cell HZP.out HC0.out, (World.cell?_of_block (a := ⟨bx, 0, none⟩) hfz7).trans v0, (World.cell?_of_block (a := ⟨bx, 1, none⟩) hfz7).trans v1⟩, hr7, ?_, hpk7⟩
            show IRows _ _ _ _ _
            rw [hds]
            exact hrow7
          have hsv : ∀ V, Below w5.heap.size w5 V → V.cell? ⟨p, 0, none⟩ = some (.map (some b)) ∧ V.cell? ⟨bx, 0, none⟩ = some (.string f.key) ∧ V.cell? ⟨bx, 1, none⟩ = some (.string f.val) := fun V hV => ⟨(hV.cell (p := ⟨p, 0, none⟩) (cell_lt c0)).trans c0, (hV.cell (p := ⟨bx, 0, none⟩) (cell_lt y0)).trans y0, (hV.cell (p := ⟨bx, 1, none⟩) (cell_lt y1)).trans y1⟩
          have HSV := Lib.hid hsv
          have HDL := Lib.hid hDL
          have HNX := Lib.hid hnx
          have HDS2 := Lib.hid hds
          have HLA := Lib.hid hlocA
          rw [hw5d] at HDL HNX
          clear hDL hnx hds hlocA hd5 hro5d hw5d hro5 hrow5 hb5 hrg5 hK5 hBw hsv
          go_wp2_with fail
          go_region_held3 (fun V => V.cell? ⟨p, 0, none⟩ = some (.map (some b)) ∧ V.cell? ⟨bx, 0, none⟩ = some (.string f.key) ∧ V.cell? ⟨bx, 1, none⟩ = some (.string f.val)) (first | assumption | exact HSV.out _ ((Below.refl _ _).drew) | exact ⟨by assumption, by assumption, by assumption⟩)
            (first | (go_at_call 87; refine HDL.out.mono ?_; rintro e w6 ⟨rfl, ho6, hb6, hot6⟩; obtain ⟨w7, hst, u0, u1, uc, us, HRG7, HRW7, HK7⟩ := HNX.out w6 ho6 hb6 hot6; clear ho6 hb6 hot6))
          all_goals
            clear hst u0 u1 uc us y0 y1 c0
            go_wp2_with fail
            go_roundw
            case rel =>
              refine ⟨_, cnt', _, putX X2 f (dropX X id f), _, HRG7.out, HRD2.out.put_same HRG4.out.owns HKEY.out HH.out _, HRW7.out, HDS.out.step HKEY.out HLK.out (by unfold putX; rw [if_pos rfl]) (fun g e => by unfold putX; rw [if_neg e]), fun g => ?_, HK7.out⟩
              unfold putV
              split
              · rename_i e
                rw [e, ob, ← HLA.out, HVO.out f]
              · exact HVO.out g
            case measure => rw [HRG7.out.left_eq, HRG.out.left_eq]; exact HLT.out
end Go.Proofs.YtodlabohijabnaaDoor

namespace Go.Proofs.YtodlabohijabnaaDoor

theorem getV_app {l : List VerL} {v : VerL} {id : ByteArray} (h : id ≠ v.r.id) : getV (l ++ [v]) id = getV l id := by
  have e : hist (l ++ [v]) id = hist l id := by
    unfold hist
    rw [List.filter_append, List.filter_cons_of_neg (by rw [sEq_false.2 (Ne.symm h)]; decide), List.filter_nil, List.append_nil]
  rw [← getV_hist, e, getV_hist]
theorem note_step (l : List VerL) (v : VerL) : noteX (newX l) (fsOf (l ++ [v]) v.r.id) v.r.id = newX (l ++ [v]) := note_new fun s hs => (getV_app hs).symm
theorem note_twice (l : List VerL) (id : ByteArray) : noteX (newX l) (fsOf l id) id = newX l := note_new fun s hs => rfl
theorem fsOf_nil (id : ByteArray) : fsOf [] id = [] := fsOf_none (by rw [getV_none]; intro c; rfl)
/-- three names are all that there are -/
theorem note_three {s t : List VerL} {a b c : ByteArray} (hs : ∀ v ∈ s, v.r.id = a ∨ v.r.id = b ∨ v.r.id = c) (ht : ∀ v ∈ t, v.r.id = a ∨ v.r.id = b ∨ v.r.id = c) :
    noteX (noteX (noteX (newX s) (fsOf t c) c) (fsOf t a) a) (fsOf t b) b = newX t := by
  have hin : ∀ {u : List VerL} {x : ByteArray} {f : FieldL}, (∀ v ∈ u, v.r.id = a ∨ v.r.id = b ∨ v.r.id = c) → x ∈ newX u f → x = a ∨ x = b ∨ x = c := fun {u x f} hu hx => by
    obtain ⟨v, hv, _⟩ := mem_byL.1 (show x ∈ byL u f from hx)
    obtain ⟨h1, h2, _⟩ := getV_some hv
    rw [← h2]
    exact hu v h1
  have hfs : ∀ (x : ByteArray) (f : FieldL), f ∈ fsOf t x ↔ x ∈ newX t f := fun x f => by
    show _ ↔ x ∈ byL t f
    rw [mem_byL]
    cases hg : getV t x with
    | none =>
      rw [fsOf_none hg]
      exact ⟨fun h => (by cases h), fun ⟨v, hv, _⟩ => (by cases hv)⟩
    | some v =>
      rw [fsOf_some hg]
      exact ⟨fun h => ⟨v, rfl, h⟩, fun ⟨u, hu, h⟩ => by cases hu; exact h⟩
  refine says_ext (noteX_asc (noteX_asc (noteX_asc (byL_asc s) _ _) _ _) _ _) (byL_asc t) fun f x => ?_
  simp only [mem_noteX, hfs]
  constructor
  · rintro (⟨h1, ⟨h2, ⟨h3, h4⟩ | ⟨rfl, h4⟩⟩ | ⟨rfl, h4⟩⟩ | ⟨rfl, h4⟩)
    · rcases hin hs h4 with e | e | e
      · exact absurd e h2
      · exact absurd e h1
      · exact absurd e h3
    · exact h4
    · exact h4
    · exact h4
  · intro hx
    by_cases e1 : x = b
    · exact .inr ⟨e1, e1 ▸ hx⟩
    · refine .inl ⟨e1, ?_⟩
      by_cases e2 : x = a
      · exact .inr ⟨e2, e2 ▸ hx⟩
      · refine .inl ⟨e2, ?_⟩
        rcases hin ht hx with e | e | e
        · exact absurd e e2
        · exact absurd e e1
        · exact .inr ⟨e, e ▸ hx⟩
/-- noted when it is gone: nothing is said of it, all else stays -/
theorem note_gone (l : List VerL) (id : ByteArray) (f : FieldL) : noteX (newX l) (fsOf [] id) id f = offN (newX l f) id := by
  unfold noteX
  rw [fsOf_nil, addX_nil]
  rfl

/-! ## how much it says -/
theorem newX_len (l : List VerL) (f : FieldL) : (newX l f).length ≤ l.length := picked_len l _
theorem noteX_len (X : SaysX) (fs : List FieldL) (id : ByteArray) (f : FieldL) : (noteX X fs id f).length ≤ (X f).length + 1 := by
  unfold noteX addX dropX
  have h1 : (offN (X f) id).length ≤ (X f).length := List.length_filter_le _ _
  split
  · rw [insN_length]; omega
  · omega
theorem countOf_bound {X : SaysX} {n : Nat} (h : ∀ f, (X f).length ≤ n) : ∀ fs : List FieldL, countOf X fs ≤ fs.length * n
  | [] => by rw [countOf_nil]; exact Nat.zero_le _
  | a :: r => by
    have h1 := countOf_bound h r
    have h2 := h a
    have h3 : countOf X (a :: r) = (X a).length + countOf X r := by unfold countOf; rw [List.map_cons, List.sum_cons]
    rw [h3, List.length_cons, Nat.succ_mul]
    omega
theorem flat_len {rs : List RecL} (h : ∀ r ∈ rs, r.fs.length ≤ 6) : (rs.flatMap (·.fs)).length ≤ rs.length * 6 := by
  induction rs with
  | nil => exact Nat.zero_le _
  | cons a r ih =>
    have h1 := ih fun x hx => h x (by simp [hx])
    have h2 := h a (by simp)
    rw [List.flatMap_cons, List.length_append, List.length_cons, Nat.succ_mul]
    omega
theorem nodup_len : ∀ {l m : List FieldL}, l.Nodup → (∀ f ∈ l, f ∈ m) → l.length ≤ m.length
  | [], m, _, _ => Nat.zero_le _
  | a :: r, m, hn, hs => by
    obtain ⟨h1, h2⟩ := List.nodup_cons.1 hn
    have ha := hs a (by simp)
    have := nodup_len (m := m.erase a) h2 fun f hf => (List.mem_erase_of_ne (fun e => h1 (by rw [← e]; exact hf))).2 (hs f (by simp [hf]))
    rw [List.length_erase_of_mem ha] at this
    have hp : 0 < m.length := List.length_pos_of_mem ha
    rw [List.length_cons]
    omega
theorem ok_fs {r : RecL} (h : r.Ok) : r.fs.length ≤ 6 := h.nf
theorem lists_new {l : List VerL} (h : stErr l = 0) {fs : List FieldL} (hfs : Lists (newX l) fs) : fs.length ≤ 30720 := by
  obtain ⟨hn, hok⟩ := stErr_ok.1 h
  have h2 : fs.length ≤ ((recs l).flatMap (·.fs)).length := nodup_len hfs.nodup fun f hf => by
    obtain ⟨s, hs⟩ := List.exists_mem_of_ne_nil _ ((hfs.mem f).1 hf)
    obtain ⟨v, hv, hfv⟩ := mem_byL.1 (show s ∈ byL l f from hs)
    refine List.mem_flatMap.2 ⟨v.r, mem_recs.2 ⟨v, ?_, rfl⟩, hfv⟩
    rw [(getV_some hv).2.1]
    exact hv
  have h3 := flat_len (rs := recs l) fun r hr => ok_fs (recs_ok hok r hr)
  have h4 : (recs l).length ≤ 5120 := by rw [recs_len]; exact Nat.le_trans (idsV_len l) hn
  omega
theorem lists_ex_new {l : List VerL} (h : stErr l = 0) : ∃ fs, Lists (newX l) fs ∧ fs.length ≤ 50000 := by
  obtain ⟨fs, hfs⟩ := preX_fin (recs l)
  rw [preX_all] at hfs
  exact ⟨fs, hfs, Nat.le_trans (lists_new h hfs) (by omega)⟩
theorem total_new {l : List VerL} (h : stErr l = 0) : total (newX l) ≤ 1000000000 := by
  have hn := (stErr_ok.1 h).1
  obtain ⟨fs, hfs⟩ := preX_fin (recs l)
  rw [preX_all] at hfs
  rw [hfs.total]
  have h1 := countOf_bound (X := newX l) (n := 5120) (fun f => Nat.le_trans (newX_len l f) hn) fs
  have h5 := lists_new h hfs
  have h6 : fs.length * 5120 ≤ 30720 * 5120 := Nat.mul_le_mul_right _ h5
  omega
end Go.Proofs.YtodlabohijabnaaDoor

namespace Go.Proofs.YtodlabohijabnaaDoor
open Go.RowKit Go.Sort Go.Maps

theorem preX_asc {l : List VerL} (hs : StOk l) (k : Nat) (f : FieldL) : Asc (preX ((recs l).take k) f) := by
  refine (byL_asc l f).sublist ?_
  exact ((List.take_sublist k (recs l)).filter _).map _
theorem preX_len (rs : List RecL) (f : FieldL) : (preX rs f).length ≤ rs.length := by
  unfold preX
  rw [List.length_map]
  exact List.length_filter_le _ _
theorem recs_below {l : List VerL} {k : Nat} {r : RecL} (h : (recs l)[k]? = some r) : ∀ s ∈ (recs l).take k, sLt s.id r.id = true := fun s hs => by
  have ha := (idsV_is l).asc
  rw [← recs_ids] at ha
  obtain ⟨j, hj⟩ := List.getElem?_of_mem hs
  rw [List.getElem?_take] at hj
  split at hj
  · rename_i hlt
    have hjl := (List.getElem?_eq_some_iff.1 hj).1
    have hkl := (List.getElem?_eq_some_iff.1 h).1
    have h5 := List.pairwise_iff_getElem.1 ha j k (by simpa using hjl) (by simpa using hkl) hlt
    rw [List.getElem_map, List.getElem_map] at h5
    rw [List.getElem?_eq_getElem hjl] at hj
    rw [List.getElem?_eq_getElem hkl] at h
    rw [Option.some.inj hj, Option.some.inj h] at h5
    exact h5
  · cases hj
theorem preX_no {l : List VerL} {k : Nat} {r : RecL} (h : (recs l)[k]? = some r) (f : FieldL) : r.id ∉ preX ((recs l).take k) f := fun hm => by
  unfold preX at hm
  obtain ⟨s, hs, e⟩ := List.mem_map.1 hm
  have := recs_below h s (List.mem_filter.1 hs).1
  rw [e, sLt_irrefl] at this
  cases this

theorem recErr_ne4 (r : RecL) : r.err ≠ 4 := by
  unfold RecL.err
  repeat' split
  all_goals decide
theorem verErr_ne4 (l : List VerL) (v : VerL) : verErr l v ≠ 4 := by
  unfold verErr
  split
  · exact recErr_ne4 _
  · split
    · decide
    · split <;> decide
theorem errFrom_ne4 : ∀ (l pre : List VerL), errFrom pre l ≠ 4
  | [], pre => by unfold errFrom; decide
  | v :: l, pre => by
    unfold errFrom
    split
    · exact verErr_ne4 _ _
    · exact errFrom_ne4 l _
theorem stErr_ne4 (l : List VerL) : stErr l ≠ 4 := by
  unfold stErr
  split
  · decide
  · exact errFrom_ne4 _ _

def NewTo (vs : List VerL) (w : World) (e : Ending) (w' : World) : Prop := ∃ p, e = .returned (.tuple #[.pointer (some ⟨p, 0, none⟩), .int .i64 0]) ∧ Idx w' w.heap.size p 40000 (newX vs) ∧ Below w.heap.size w w'

set_option maxHeartbeats 1000000 in
theorem new_no {n : Nat} {er : Int} {a : Option Addr} {vs : List VerL} (c : Nat) (w : World) (h : VsAt w a n vs) (hm : n ≤ maxLen) (he : stErr vs = er) (h0 : er ≠ 0) :
    Calls Tryd.prog 19 #[.slice a n c] w fun e w' => e = .returned (.tuple #[.pointer none, .int .i64 er]) ∧ Below w.heap.size w w' := by
  have HC := Lib.hid (recs_no c w h hm he h0)
  have h1 : (er == 0) = false := by simpa using h0
  have h2 : (er != 0) = true := by simpa using h0
  clear h hm he
  go_enter Tryd.func19, Tryd.ntmps19
  go_wp2_with fail
  refine HC.out.mono ?_
  rintro e w1 ⟨rfl, hb1⟩
  have HB1 := Lib.hid hb1
  clear hb1
  go_wp2_with fail
  go_ret2
  exact ⟨rfl, HB1.out⟩

set_option maxHeartbeats 4000000 in
theorem new_ok {n : Nat} {a : Option Addr} {vs : List VerL} (c : Nat) (w : World) (h : VsAt w a n vs) (hst : stErr vs = 0) :
    Calls Tryd.prog 19 #[.slice a n c] w (NewTo vs w) := by
  have HC := Lib.hid (recs_ok_is c w h hst)
  have HOK := Lib.hid (stErr_ok.1 hst).2
  clear h hst
  go_enter Tryd.func19, Tryd.ntmps19
  go_wp2_with fail
  refine HC.out.mono ?_
  rintro e w1 ⟨A1, l, c1, rfl, hlr, hsl, hl5, hb1⟩
  obtain ⟨m, hm⟩ : ∃ m, l.length = m := ⟨_, rfl⟩
  rw [hm] at hl5 ⊢
  have HLR := Lib.hid hlr
  have HSL := Lib.hid hsl
  have HB1 := Lib.hid hb1
  have HM := Lib.hid hm
  obtain ⟨S, hS⟩ : ∃ S, S = w1.heap.size := ⟨_, rfl⟩
  have HSZ := Lib.hid hS
  clear hlr hsl hb1 hm HC hS
  obtain ⟨W2, hW2⟩ : ∃ W2, W2 = w1.alloc (.cells #[.map none] 89) := ⟨_, rfl⟩
  have hb2 : Below w1.heap.size w1 W2 := by rw [hW2]; exact (Below.refl _ _).alloc (Nat.le_refl _) _
  have hi2 : Idx W2 S S 0 (preX []) := by
    rw [preX_nil, hW2, HSZ.out]
    exact .bare (by simp [go_sem]) (by simp [go_sem]) (Nat.le_refl _) (fun _ => rfl)
  have HB2 := Lib.hid hb2
  have HI2 := Lib.hid hi2
  have HW2 := Lib.hid hW2
  clear hb2 hi2 hW2
  go_wp2_with fail
  rw [← HW2.out, ← HSZ.out]
  go_loopw [21] (fun i wr => ∃ k : Nat, k ≤ m ∧ i = .int .i64 k ∧ Hid (Idx wr S S (6 * k) (preX ((recs vs).take k))) ∧ Hid (Below S w1 wr)) (fun i _ => m - (intOf i).toNat)
  case atStart => exact ⟨0, Nat.zero_le _, rfl, HI2.out, by rw [HSZ.out]; exact HB2.out⟩
  case round =>
    obtain ⟨k, hk, rfl, HI, HB⟩ := hrel
    by_cases hlt : k < m
    · obtain ⟨x, hx⟩ : ∃ x, l[k]? = some x := ⟨_, List.getElem?_eq_getElem (by rw [HM.out]; exact hlt)⟩
      have hbw : Below w1.heap.size w1 wr := by rw [← HSZ.out]; exact HB.out
      obtain ⟨hin, b, off, rfl, d0, d1, d2, d3⟩ := (HSL.out.below hbw) k x hx
      have hxr : (recs vs)[k]? = some x.r := by rw [← HLR.out, List.getElem?_map, hx]; rfl
      have hxo : x.r.Ok := recs_ok HOK.out _ (List.mem_of_getElem? hxr)
      have hin1 := (HSL.out k x hx).1
      have hbx : Below wr.heap.size wr (rcBox x wr) := rcBox_below x wr
      have hSw : S ≤ wr.heap.size := by have h1 := HB.out.size; have h2 := HSZ.out; omega
      have hA : IdxA (rcBox x wr) S S (6 * k) (fun z => z < S) (preX ((recs vs).take k)) := ((HI.out.with).below hbx).sub fun z h => .inl h
      have hADD := add_is (m := x.r.fs.length) x.r.id x.r.cats x.r.fs x.p.fa x.p.fc x.p.ra x.r.rs.length x.p.rc (rcBox x wr) hA (fun z h => by simp; omega) (hin.hf.below hbx)
        (fun b off e ne => by
          obtain ⟨f, hf⟩ := List.exists_mem_of_ne_nil _ ne
          obtain ⟨j, hj⟩ := List.getElem?_of_mem hf
          obtain ⟨b', o', e', c0, _⟩ := hin1.hf j f hj
          rw [e] at e'
          cases e'
          have := cell_lt c0
          rw [HSZ.out]
          exact this)
        hxo.fs rfl hxo.nf hin.fl hin.fm (preX_asc HOK.out k) (fun f _ => preX_no hxr f) (fun f => by have := preX_len ((recs vs).take k) f; rw [List.length_take] at this; omega) (by omega)
      have i1 : (0 : Int) ≤ (k : Int) := by omega
      have i2 : (k : Int) < (m : Int) := by omega
      have HADD := Lib.hid hADD
      have HSX : Hid (preX ((recs vs).take (k + 1)) = addX (preX ((recs vs).take k)) x.r.fs x.r.id) := by
        show _ = _
        rw [take_snoc hxr]
        exact preX_snoc (recs_below hxr)
      have HBX : Hid (Below S w1 (rcBox x wr)) := HB.out.trans (hbx.mono hSw)
      have HSW : Hid (S ≤ (rcBox x wr).heap.size) := Nat.le_trans hSw hbx.size
      clear hx hbw hin hxr hxo hin1 hbx hSw hA hADD
      go_wp2_with fail
      (with_reducible refine HADD.out.mono ?_)
      rintro e w5 ⟨rfl, hidx, hkp⟩
      have HI5 := Lib.hid hidx.idx
      have HB5 := Lib.hid (HBX.out.trans (hkp.to (fun z h => h) HSW.out))
      clear hidx hkp d0 d1 d2 d3 HADD
      go_wp2_with fail
      go_roundw
      case rel => exact ⟨k + 1, by omega, by go_num, (by show Idx _ _ _ _ _; rw [HSX.out, Nat.mul_succ]; exact HI5.out), HB5.out⟩
      case measure => simp [intOf]; omega
    · obtain rfl : k = m := by omega
      have hall : (recs vs).take k = recs vs := List.take_of_length_le (by rw [← HLR.out, List.length_map, HM.out]; exact Nat.le_refl _)
      have HIE : Hid (Idx wr w.heap.size S 40000 (newX vs)) := by
        have h1 := HI.out
        rw [hall, preX_all] at h1
        have h2 := HSZ.out
        have h3 := HB1.out.size
        exact (h1.mono (by omega)).low (by omega)
      have HBE : Hid (Below w.heap.size w wr) := HB1.out.trans (HB.out.mono (by have h2 := HSZ.out; have h3 := HB1.out.size; omega))
      clear hall HI
      go_wp2_with fail
      go_ret2
      exact ⟨S, rfl, HIE.out, HBE.out⟩

def NotedTo (S p M : Nat) (Z : Nat → Prop) (X : SaysX) (w : World) (e : Ending) (w' : World) : Prop := e = .returned (.int .i64 0) ∧ IdxA w' S p M Z X ∧ Keeps Z w w'

set_option maxHeartbeats 1000000 in
theorem note_no {n : Nat} {er : Int} {a pp : Option Addr} {vs : List VerL} (c : Nat) (id : ByteArray) (w : World) (h : VsAt w a n vs) (hm : n ≤ maxLen) (he : stErr vs = er) (h0 : er ≠ 0) :
    Calls Tryd.prog 24 #[.pointer pp, .slice a n c, .string id] w fun e w' => e = .returned (.int .i64 er) ∧ Below w.heap.size w w' := by
  have HC := Lib.hid (get_no c id w h hm he h0)
  have h4 : er ≠ 4 := by rw [← he]; exact stErr_ne4 vs
  have h1 : (er == 0) = false := by simpa using h0
  have h2 : (er != 0) = true := by simpa using h0
  have h3 : (er == 4) = false := by simpa using h4
  have h5 : (er != 4) = true := by simpa using h4
  clear h hm he
  go_enter Tryd.func24, Tryd.ntmps24
  go_wp2_with fail
  refine HC.out.mono ?_
  rintro e w1 ⟨p1, rfl, hnr, hb1⟩
  have HB1 := Lib.hid (hb1.trans ((Below.refl w1.heap.size w1).alloc (Nat.le_refl _) (.cells #[.string RecL.zero.id, .int .i64 RecL.zero.cats, .slice p1.fa RecL.zero.fs.length p1.fc, .slice p1.ra RecL.zero.rs.length p1.rc] 32) |>.mono hb1.size))
  clear hb1
  go_wp2_with fail
  go_ret
  exact ⟨rfl, HB1.out⟩

set_option maxHeartbeats 4000000 in
theorem note_ok {S p M n : Nat} {Z : Nat → Prop} {X : SaysX} {a : Option Addr} {vs : List VerL} (c : Nat) (id : ByteArray) (w : World) (h : IdxA w S p M Z X) (hz : ∀ z, Z z → z < w.heap.size) (hv : VsAt w a n vs) (hst : stErr vs = 0) (hasc : ∀ f, Asc (X f)) (hlen : ∀ f, (X f).length ≤ 40000) (hM : M ≤ 1000000000) :
    Calls Tryd.prog 24 #[.pointer (some ⟨p, 0, none⟩), .slice a n c, .string id] w (NotedTo S p (M + 6) Z (noteX X (fsOf vs id) id) w) := by
  obtain ⟨r, er, hget, her, hfs, hok, h6, hid⟩ : ∃ r er, (getR vs id = r ∧ getErr vs id = er) ∧ (er = 0 ∨ er = 4) ∧ r.fs = fsOf vs id ∧ fOk r.fs r.fs.length ∧ r.fs.length ≤ 6 ∧ (r.fs ≠ [] → r.id = id) := by
    cases hg : getV vs id with
    | none =>
      obtain ⟨g1, g2⟩ := get_none hst hg
      exact ⟨RecL.zero, 4, ⟨g2, g1⟩, .inr rfl, (fsOf_none hg).symm, fun i f hi => absurd hi (Nat.not_lt_zero i), Nat.zero_le _, fun h => absurd rfl h⟩
    | some v =>
      obtain ⟨g1, g2⟩ := get_some hst hg
      have ho := (stErr_ok.1 hst).2.ver v (getV_some hg).1
      exact ⟨v.r, 0, ⟨g2, g1⟩, .inl rfl, (fsOf_some hg).symm, ho.fs, ho.nf, fun _ => (getV_some hg).2.1⟩
  have HC := Lib.hid (get_fine c id w hv hst hget.1 hget.2)
  have HFS := Lib.hid hfs
  have HOK := Lib.hid hok
  have H6 := Lib.hid h6
  have HID := Lib.hid hid
  have HI := Lib.hid h
  have HZ := Lib.hid hz
  have HASC := Lib.hid hasc
  have HLEN := Lib.hid hlen
  have HMM := Lib.hid hM
  clear hget hfs hok h6 hid h hz hasc hlen hM hv hst
  go_enter Tryd.func24, Tryd.ntmps24
  go_wp2_with fail
  refine HC.out.mono ?_
  rintro e w1 ⟨pr, rfl, hnr, hb1⟩
  obtain ⟨W2, hW2⟩ : ∃ W2, W2 = w1.alloc (.cells #[.string r.id, .int .i64 r.cats, .slice pr.fa r.fs.length pr.fc, .slice pr.ra r.rs.length pr.rc] 32) := ⟨_, rfl⟩
  have hb2 : Below w1.heap.size w1 W2 := by rw [hW2]; exact (Below.refl _ _).alloc (Nat.le_refl _) _
  have hs2 : W2.heap.size = w1.heap.size + 1 := by rw [hW2]; simp
  obtain ⟨Z2, hZ2⟩ : ∃ Z2 : Nat → Prop, Z2 = fun z => Z z ∨ (w.heap.size ≤ z ∧ z < W2.heap.size) := ⟨_, rfl⟩
  have hA2 : IdxA W2 S p M Z2 X := ((HI.out.wide.below hb1).below hb2).sub (fun z k => by rw [hZ2] at k; rcases k with k | k; exact .inl k; exact .inr k.1)
  have hz2 : ∀ z, Z2 z → z < W2.heap.size := fun z k => by
    rw [hZ2] at k
    rcases k with k | k
    · have h1 := HZ.out z k; have h2 := hb1.size; omega
    · exact k.2
  have hzz : ∀ z, Z z → Z2 z := fun z k => by rw [hZ2]; exact .inl k
  have hzb : Z2 w1.heap.size := by rw [hZ2]; exact .inr ⟨hb1.size, by omega⟩
  have hin := hnr.in_
  have hloc : ∀ b off, pr.fa = some ⟨b, off, none⟩ → r.fs ≠ [] → Z2 b := fun b off e ne => by
    rw [hZ2]
    have h1 := World.ownsRow.lt hnr.f b (by rw [e]; rfl)
    exact .inr ⟨h1.1, by omega⟩
  have e0 : W2.cell? ⟨w1.heap.size, 0, none⟩ = some (.string r.id) := by rw [hW2]; simp [go_sem]
  have e1 : W2.cell? ⟨w1.heap.size, 1, none⟩ = some (.int .i64 r.cats) := by rw [hW2]; simp [go_sem]
  have e2 : W2.cell? ⟨w1.heap.size, 2, none⟩ = some (.slice pr.fa r.fs.length pr.fc) := by rw [hW2]; simp [go_sem]
  have e3 : W2.cell? ⟨w1.heap.size, 3, none⟩ = some (.slice pr.ra r.rs.length pr.rc) := by rw [hW2]; simp [go_sem]
  have hDROP := drop_is id W2 hA2 hz2 HASC.out (fun f => Nat.le_trans (HLEN.out f) (by omega)) HMM.out
  have HIN := Lib.hid (hin.below hb2)
  have HDROP := Lib.hid hDROP
  have HB2 := Lib.hid ((Keeps.of (Z := Z) hb1).trans (Keeps.of hb2))
  have HE0 := Lib.hid e0
  have HE1 := Lib.hid e1
  have HE2 := Lib.hid e2
  have HE3 := Lib.hid e3
  have HZ2 := Lib.hid hz2
  have HZZ := Lib.hid hzz
  have HZB := Lib.hid hzb
  have HLOC := Lib.hid hloc
  have HW2 := Lib.hid hW2
  clear hb2 hs2 hZ2 hA2 hz2 hzz hzb hin hloc e0 e1 e2 e3 hDROP hnr hb1 hW2
  rcases her with rfl | rfl
  all_goals
    go_wp2_with fail
    rw [← HW2.out]
    (with_reducible refine HDROP.out.mono ?_)
    rintro e w3 ⟨rfl, hidx, hkp⟩
    have u0 := hkp.cell HZB.out HE0.out
    have u1 := hkp.cell HZB.out HE1.out
    have u2 := hkp.cell HZB.out HE2.out
    have u3 := hkp.cell HZB.out HE3.out
    have hf3 : SlF w3 pr.fa r.fs := slF_at HIN.out.hf fun b off e ne hl => hkp.block b (HLOC.out b off e ne) hl
    have hADD := add_is (m := r.fs.length) r.id r.cats r.fs pr.fa pr.fc pr.ra r.rs.length pr.rc w3 hidx (fun z k => Nat.lt_of_lt_of_le (HZ2.out z k) hkp.size) hf3 HLOC.out HOK.out rfl H6.out HIN.out.fl HIN.out.fm
      (fun f => offN_asc (HASC.out f)) (fun f hf k => by
        rw [HID.out (fun e => by rw [e] at hf; cases hf)] at k
        exact (mem_offN.1 (show id ∈ offN (X f) id from k)).2 rfl) (fun f => Nat.le_trans (List.length_filter_le _ _) (Nat.le_trans (HLEN.out f) (by omega))) HMM.out
    have hXX : addX (dropX X id) r.fs r.id = noteX X (fsOf vs id) id := by
      unfold noteX
      rw [← HFS.out]
      by_cases e : r.fs = []
      · rw [e, addX_nil, addX_nil]
      · rw [HID.out e]
    rw [hXX] at hADD
    have HADD := Lib.hid hADD
    have HK3 := Lib.hid (HB2.out.trans (hkp.sub HZZ.out))
    clear hidx hkp hf3 hADD hXX HDROP
    go_wp2_with fail
    (with_reducible refine HADD.out.mono ?_)
    rintro e w4 ⟨rfl, hidx, hkp⟩
    have HI4 := Lib.hid (hidx.sub HZZ.out)
    have HK4 := Lib.hid (HK3.out.trans (hkp.sub HZZ.out))
    clear hidx hkp u0 u1 u2 u3 HADD
    go_wp2_with fail
    go_ret
    exact ⟨rfl, HI4.out, HK4.out⟩

end Go.Proofs.YtodlabohijabnaaDoor

namespace Go.Proofs.YtodlabohijabnaaDoor
open Go.RowKit Go.Sort Go.Maps

set_option maxHeartbeats 1000000 in
theorem same_no {n : Nat} {er : Int} {a pp : Option Addr} {vs : List VerL} (c : Nat) (w : World) (h : VsAt w a n vs) (hm : n ≤ maxLen) (he : stErr vs = er) (h0 : er ≠ 0) :
    Calls Tryd.prog 25 #[.pointer pp, .slice a n c] w fun e w' => e = .returned (.tuple #[.bool false, .int .i64 er]) ∧ Below w.heap.size w w' := by
  have HC := Lib.hid (new_no c w h hm he h0)
  have h1 : (er == 0) = false := by simpa using h0
  have h2 : (er != 0) = true := by simpa using h0
  clear h hm he
  go_enter Tryd.func25, Tryd.ntmps25
  go_wp2_with fail
  refine HC.out.mono ?_
  rintro e w1 ⟨rfl, hb1⟩
  have HB1 := Lib.hid hb1
  clear hb1
  go_wp2_with fail
  go_ret2
  exact ⟨rfl, HB1.out⟩

set_option maxHeartbeats 2000000 in
theorem same_ok {S p M n : Nat} {a : Option Addr} {vs : List VerL} (c : Nat) (w : World) (h : Idx w S p M (newX vs)) (hv : VsAt w a n vs) (hst : stErr vs = 0) (hlen : ∀ f, (newX vs f).length ≤ 1000000) :
    Calls Tryd.prog 25 #[.pointer (some ⟨p, 0, none⟩), .slice a n c] w fun e w' => e = .returned (.tuple #[.bool true, .int .i64 0]) ∧ Below w.heap.size w w' := by
  have HC := Lib.hid (new_ok c w hv hst)
  have HI := Lib.hid h
  have HLN := Lib.hid hlen
  clear h hv hst hlen
  go_enter Tryd.func25, Tryd.ntmps25
  go_wp2_with fail
  refine HC.out.mono ?_
  rintro e w1 ⟨p', rfl, hidx, hb1⟩
  have h1d : Below w1.heap.size w1 w1.drew := (Below.refl _ _).drew
  obtain ⟨mm, mm', c0, c1, hEQ⟩ := idxEq_is ((HI.out.below hb1).below h1d) (hidx.below h1d) HLN.out
  have k0 : w1.cell? ⟨p, 0, none⟩ = some (.map mm) := c0
  have k1 : w1.cell? ⟨p', 0, none⟩ = some (.map mm') := c1
  have HEQ := Lib.hid hEQ
  have HB1 := Lib.hid (hb1.trans (h1d.mono hb1.size))
  clear hidx hb1 h1d hEQ c0 c1 HC
  go_wp2_with fail
  go_region_with (go_at_call 58; (with_reducible refine HEQ.out.mono ?_); rintro e w' ⟨rfl, hb'⟩)
  all_goals
    have HB2 := Lib.hid (HB1.out.trans (hb'.mono HB1.out.size))
    clear hb'
    go_wp2_with fail
    go_ret2
    exact ⟨rfl, HB2.out⟩
end Go.Proofs.YtodlabohijabnaaDoor

namespace Go.Proofs.YtodlabohijabnaaDoor
open Go.RowKit Go.Sort Go.Maps

/-- the first k names, those of which it is so -/
noncomputable def firstN (vs : List VerL) (p : ByteArray → Bool) (k : Nat) : List ByteArray := ((idsV vs).take k).filter p
theorem map_back {l : List ByteArray} {g : ByteArray → RecL} (h : ∀ s ∈ l, (g s).id = s) (p : RecL → Bool) : ((l.map g).filter p).map (·.id) = l.filter fun s => p (g s) := by
  induction l with
  | nil => rfl
  | cons s r ih =>
    have hr := ih fun t ht => h t (List.mem_cons_of_mem _ ht)
    rw [List.map_cons, List.filter_cons, List.filter_cons]
    cases hp : p (g s) with
    | true => simp only [if_true, List.map_cons]; rw [hr, h s List.mem_cons_self]
    | false => simpa using hr
theorem picked_first (vs : List VerL) (p : RecL → Bool) (q : ByteArray → Bool) (h : ∀ s, s ∈ idsV vs → q s = p (recV vs s)) : picked vs p = firstN vs q (idsV vs).length := by
  unfold picked recs firstN
  rw [map_back (fun s hs => recV_id hs), List.take_length]
  exact List.filter_congr fun s hs => (h s hs).symm

/-- a list of names, from whomever -/
def StrTo (L : List ByteArray) (w : World) (e : Ending) (w' : World) : Prop := ∃ A k c, e = .returned (.slice A k c) ∧ L.length = k ∧ OwnS w.heap.size w' (.slice A k c) L ∧ Below w.heap.size w w'

/-- where the record of a name stands -/
theorem refGet_in {n : Nat} {a : Option Addr} {vs : List VerL} (c : Nat) (id : ByteArray) (w : World) (h : VsAt w a n vs) (hst : stErr vs = 0) (hid : id ∈ idsV vs) :
    ∃ (j : Nat) (v : VerL), vs[j]? = some v ∧ getV vs id = some v ∧ Calls Tryd.prog 26 #[.slice a n c, .string id] w fun e w' => e = .returned (.int .i64 (j : Int)) ∧ Below w.heap.size w w' := by
  have hn := h.len
  obtain ⟨hl, hok⟩ := stErr_ok.1 hst
  obtain ⟨v0, hv0⟩ := mem_idsV.1 hid
  rcases best_get hok id with ⟨_, hg⟩ | ⟨j, v, h1, h2, h3⟩
  · rw [hg] at hv0
    cases hv0
  · rw [← hn] at h1
    exact ⟨j, v, h2, h3, refGet_is c id w h (by omega) h1⟩
theorem refGet_out {n : Nat} {a : Option Addr} {vs : List VerL} (c : Nat) (id : ByteArray) (w : World) (h : VsAt w a n vs) (hst : stErr vs = 0) (hid : id ∉ idsV vs) :
    Calls Tryd.prog 26 #[.slice a n c, .string id] w fun e w' => e = .returned (.int .i64 (-1)) ∧ Below w.heap.size w w' := by
  have hn := h.len
  obtain ⟨hl, hok⟩ := stErr_ok.1 hst
  rcases best_get hok id with ⟨h1, hg⟩ | ⟨j, v, h1, h2, h3⟩
  · rw [← hn] at h1
    exact refGet_is c id w h (by omega) h1
  · exact absurd (mem_idsV.2 ⟨v, h3⟩) hid

theorem key_once {fs : List FieldL} (h : fOk fs fs.length) {k : Nat} {f : FieldL} (hk : fs[k]? = some f) : f ∉ fs.take k := fun hm => by
  obtain ⟨j, hj⟩ := List.getElem?_of_mem hm
  rw [List.getElem?_take] at hj
  split at hj
  · rename_i hlt
    have ha := fOk_asc h
    have hjl := (List.getElem?_eq_some_iff.1 hj).1
    have hkl := (List.getElem?_eq_some_iff.1 hk).1
    have h5 := List.pairwise_iff_getElem.1 ha j k (by simpa using hjl) (by simpa using hkl) hlt
    rw [List.getElem_map, List.getElem_map] at h5
    rw [List.getElem?_eq_getElem hjl] at hj
    rw [List.getElem?_eq_getElem hkl] at hk
    rw [Option.some.inj hj, Option.some.inj hk, sLt_irrefl] at h5
    cases h5
  · cases hj

set_option maxHeartbeats 4000000 in
theorem refBy_is {n : Nat} {L : List ByteArray} {a : Option Addr} {vs : List VerL} (c : Nat) (f : FieldL) (w : World) (h : VsAt w a n vs) (hst : stErr vs = 0) (hL : byL vs f = L) :
    Calls Tryd.prog 17 #[.slice a n c, f.v] w (StrTo L w) := by
  have HV := Lib.hid h
  have HST := Lib.hid hst
  have HLL := Lib.hid (show firstN vs (fun s => hasF f (recV vs s)) (idsV vs).length = L by rw [← hL]; exact (picked_first vs (hasF f) _ fun s _ => rfl).symm)
  have HOK := Lib.hid (stErr_ok.1 hst).2
  obtain ⟨W0, hW0⟩ : ∃ W0, W0 = w.alloc (.cells #[.string f.key, .string f.val] 24) := ⟨_, rfl⟩
  have hA0 : Below w.heap.size w W0 := by rw [hW0]; exact (Below.refl _ _).alloc (Nat.le_refl _) _
  have k0 : W0.cell? ⟨w.heap.size, 0, none⟩ = some (.string f.key) := by rw [hW0]; simp [go_sem]
  have k1 : W0.cell? ⟨w.heap.size, 1, none⟩ = some (.string f.val) := by rw [hW0]; simp [go_sem]
  have HI : Hid (Calls Tryd.prog 54 #[.slice a n c] W0 (RefNamesTo vs W0)) := by
    show Calls _ _ _ _ _
    obtain ⟨l, hlv, hln, hsw⟩ := h.below hA0
    have h1 := refIds_is a l c W0 hsw (by rw [hlv]; exact hst)
    rw [hlv, hln] at h1
    exact h1
  have HW0 := Lib.hid hW0
  have HA0 := Lib.hid hA0
  have HK0 := Lib.hid k0
  have HK1 := Lib.hid k1
  obtain ⟨i0, hi, hz0, hz1, hz2⟩ := info_parts Tryd.infoStr
  clear h hst hL hW0 hA0 k0 k1
  go_enter Tryd.func17, Tryd.ntmps17
  go_wp2_with fail
  rw [← HW0.out]
  refine HI.out.mono ?_
  rintro e w1 ⟨A1, m1, c1, ids, rfl, his, hml, hsl, hmc, hcm, hb1⟩
  obtain rfl := his.eqV
  have HML := Lib.hid hml
  have HSL := Lib.hid hsl
  have HB1 := Lib.hid (HA0.out.trans (hb1.mono HA0.out.size))
  have q0 := (hb1.cell (p := ⟨w.heap.size, 0, none⟩) (cell_lt HK0.out)).trans HK0.out
  have q1 := (hb1.cell (p := ⟨w.heap.size, 1, none⟩) (cell_lt HK0.out)).trans HK1.out
  have HQ0 := Lib.hid q0
  have HQ1 := Lib.hid q1
  have hm5 : m1 ≤ 5120 := by rw [← hml]; exact Nat.le_trans (idsV_len vs) (stErr_ok.1 HST.out).1
  clear his hml hsl hmc hcm hb1 HI HK0 HK1 q0 q1
  go_wp2_with fail
  go_loopw [5, 13] (fun v i wr => ∃ j : Nat, j ≤ m1 ∧ i = .int .i64 j ∧ OwnS w1.heap.size wr v (firstN vs (fun s => hasF f (recV vs s)) j) ∧ Hid (Below w1.heap.size w1 wr)) (fun _ i _ => m1 - (intOf i).toNat)
  case atStart => exact ⟨0, Nat.zero_le _, rfl, World.ownsRow_nil _ _ _ _, Below.refl _ _⟩
  case round =>
    obtain ⟨j, hj, rfl, hown, HB⟩ := hrel
    obtain ⟨q, hq⟩ : ∃ q, firstN vs (fun s => hasF f (recV vs s)) j = q := ⟨_, rfl⟩
    rw [hq] at hown
    have HQ := Lib.hid hq
    obtain ⟨Aq, cq, rfl⟩ := hown.form
    have HOW := Lib.hid hown
    have hqj : q.length ≤ j := by
      rw [← hq]
      unfold firstN
      exact Nat.le_trans (List.length_filter_le _ _) (by rw [List.length_take]; omega)
    clear hown hq
    by_cases hlt : j < m1
    · obtain ⟨id, hid⟩ : ∃ id, (idsV vs)[j]? = some id := ⟨_, List.getElem?_eq_getElem (by rw [HML.out]; exact hlt)⟩
      obtain ⟨b1, o1, rfl, hc1⟩ := (HSL.out.below HB.out) j id hid
      have hmem := List.mem_of_getElem? hid
      have HBJ := Lib.hid (HB1.out.trans (HB.out.mono HB1.out.size))
      obtain ⟨t, v, hvt, hgv, hget⟩ := refGet_in c id wr (HV.out.below HBJ.out) HST.out hmem
      have HGET := Lib.hid hget
      have HID := Lib.hid hid
      have HVT := Lib.hid hvt
      have HRV := Lib.hid (recV_some hgv)
      have hfo : fOk v.r.fs v.r.fs.length := by
        have := (recV_ok HOK.out hmem).fs
        rw [recV_some hgv] at this
        exact this
      obtain ⟨fs, hfs⟩ : ∃ fs, v.r.fs = fs := ⟨_, rfl⟩
      rw [hfs] at hfo
      have HFS := Lib.hid hfs
      have HFO := Lib.hid hfo
      have i1 : (0 : Int) ≤ (j : Int) := by omega
      have i2 : (j : Int) < (m1 : Int) := by omega
      obtain ⟨l, hlv, hln, hsw⟩ := HV.out
      obtain ⟨x, hx, hxv⟩ : ∃ x, l[t]? = some x ∧ x.v = v := by
        rw [← hlv, List.getElem?_map] at hvt
        obtain ⟨x, hx, e⟩ := Option.map_eq_some_iff.1 hvt
        exact ⟨x, hx, e⟩
      have htn : t < n := by rw [← hln]; exact (List.getElem?_eq_some_iff.1 hx).1
      obtain ⟨hxi, bx, ox, hax, d0, d1, d2, d3, d4⟩ := hsw t x hx
      obtain ⟨fa, hfa⟩ : ∃ fa, x.p.fa = fa := ⟨_, rfl⟩
      obtain ⟨fc, hfc⟩ : ∃ fc, x.p.fc = fc := ⟨_, rfl⟩
      have hfx : SlF w fa fs := by
        have := hxi.hf
        rw [hxv, hfs, hfa] at this
        exact this
      have hfl : fs.length ≤ 6 := by
        have := (recV_ok HOK.out hmem).nf
        rw [recV_some hgv, hfs] at this
        exact this
      rw [hxv, hfs, hfa, hfc] at d2
      have HFX := Lib.hid hfx
      have HD2 := Lib.hid d2
      have t1 : (0 : Int) ≤ (t : Int) := by omega
      have t2 : (t : Int) < (n : Int) := by omega
      clear hid hget hvt hgv hfo hfs hlv hln hsw hx hxv hxi d0 d1 d2 d3 d4 hfa hfc hfx hmem
      subst hax
      go_wp2_with fail
      refine HGET.out.mono ?_
      rintro e w2 ⟨rfl, hb2⟩
      have HB2 := Lib.hid (HBJ.out.trans (hb2.mono HBJ.out.size))
      have HB12 := Lib.hid (HB.out.trans (hb2.mono HB.out.size))
      have d2 := (HB2.out.cell (p := ⟨bx, ox + t * 5 + 2, none⟩) (cell_lt HD2.out)).trans HD2.out
      have HOW2 := Lib.hid (HOW.out.below hb2)
      clear hb2 HGET
      go_wp2_with fail
      obtain ⟨F, hF⟩ : ∃ F, fs.length = F := ⟨_, rfl⟩
      have HF := Lib.hid hF
      rw [hF] at hfl ⊢
      clear hF d2
      go_loopw [5, 26] (fun v i wq => ∃ k : Nat, k ≤ F ∧ i = .int .i64 k ∧ OwnS w1.heap.size wq v (q ++ if f ∈ fs.take k then [id] else []) ∧ Hid (Below w1.heap.size w1 wq)) (fun _ i _ => F - (intOf i).toNat)
      case atStart => exact ⟨0, Nat.zero_le _, rfl, (by simpa using HOW2.out), HB12.out⟩
      case round =>
        obtain ⟨k, hk, rfl, hown, HBK⟩ := hrel
        obtain ⟨r, hr⟩ : ∃ r, (q ++ if f ∈ fs.take k then [id] else []) = r := ⟨_, rfl⟩
        rw [hr] at hown
        have HR := Lib.hid hr
        have hrl : r.length ≤ j + 1 := by
          rw [← hr, List.length_append]
          split <;> simp <;> omega
        obtain ⟨Ar, cr, rfl⟩ := hown.form
        have HOR := Lib.hid hown
        have HBW := Lib.hid (HB1.out.trans (HBK.out.mono HB1.out.size))
        clear hown hr
        by_cases hkF : k < F
        · obtain ⟨g, hg⟩ : ∃ g, fs[k]? = some g := ⟨_, List.getElem?_eq_getElem (by rw [HF.out]; exact hkF)⟩
          obtain ⟨bg, og, rfl, g1, g2⟩ := (HFX.out.below HBW.out) k g hg
          have HG := Lib.hid hg
          have j1 : (0 : Int) ≤ (k : Int) := by omega
          have j2 : (k : Int) < (F : Int) := by omega
          have hal : Below wr.heap.size wr (wr.alloc (.cells #[.string g.key, .string g.val] 24)) := (Below.refl _ _).alloc (Nat.le_refl _) _
          have z0 := (hal.cell (p := ⟨w.heap.size, 0, none⟩) (Nat.lt_of_lt_of_le (cell_lt HQ0.out) HBK.out.size)).trans (((HBK.out.cell (p := ⟨w.heap.size, 0, none⟩) (cell_lt HQ0.out))).trans HQ0.out)
          have z1 := (hal.cell (p := ⟨w.heap.size, 1, none⟩) (Nat.lt_of_lt_of_le (cell_lt HQ0.out) HBK.out.size)).trans (((HBK.out.cell (p := ⟨w.heap.size, 1, none⟩) (cell_lt HQ0.out))).trans HQ1.out)
          have HBA := Lib.hid (HBK.out.trans (hal.mono HBK.out.size))
          have HORA := Lib.hid (HOR.out.below hal)
          clear hg hal
          by_cases he : f = g
          · subst he
            have hno := key_once HFO.out HG.out
            have hrq : r = q := by rw [← HR.out, if_neg hno, List.append_nil]
            have hyes : f ∈ fs.take (k + 1) := by rw [List.take_add_one, HG.out]; simp
            have HRQ := Lib.hid hrq
            have HYES := Lib.hid hyes
            obtain ⟨l1, l2⟩ := eq_field f
            have HR1 := Lib.hid (show ((wr.alloc (.cells #[.string f.key, .string f.val] 24)).alloc (.cells #[.string id] 9)).ownsRow w1.heap.size 9 1 (.slice Ar r.length cr) r.length (cellsS r) from HORA.out.below ((Below.refl _ _).alloc (Nat.le_refl _) _))
            have hne := cell_one_at (wr.alloc (.cells #[.string f.key, .string f.val] 24)) id 9
            rw [World.size_alloc] at hne
            have HNE := Lib.hid hne
            have hbb := HBA.out.alloc HBA.out.size (.cells #[.string id] 9)
            have HBB := Lib.hid hbb
            have hsz2 := hbb.size
            clear hno hrq hyes hne hbb
            go_wp2_with (at_builtin; refine wpList_append_own _ rfl _ _ 25 rfl w1.heap.size 9 i0 _ 1 16 Tryd.underlying25 hi hz0 hz1 hz2 rfl (by decide) (.slice Ar r.length cr) r.length (cellsS r) rfl HR1.out ⟨wr.heap.size + 1, 0, none⟩ 1 1 [.string id] rfl rfl HNE.out (by simp [Value.oneCell']) (by unfold maxLen; omega) (by omega) hsz2 ?_; intro v' w3 hown' hgrow hnv)
            have hr3 : OwnS w1.heap.size w3 v' (r ++ [id]) := by
              unfold OwnS cellsS
              rw [List.map_append, List.length_append]
              exact hown'
            have hB3 : Below w1.heap.size w1 w3 := HBB.out.grown hgrow HBB.out.size (fun j hj => ((World.ownsRow.lt HR1.out) j (show (Value.slice Ar r.length cr).ownBlock = some j from hj)).1)
            have HR3 := Lib.hid hr3
            clear hown' hgrow hnv HBB HNE HR1 hr3
            go_wp2_with fail
            go_roundw
            case rel =>
              refine ⟨k + 1, by omega, by go_num, ?_, hB3⟩
              rw [if_pos HYES.out, ← HRQ.out]
              exact HR3.out
            case measure => simp [intOf]; omega
          · have HE := Lib.hid he
            have HSAME : Hid ((f ∈ fs.take (k + 1)) = (f ∈ fs.take k)) := by
              show _ = _
              rw [List.take_add_one, HG.out]
              simp [HE.out]
            rcases ne_field he with l1 | ⟨l1, l2⟩
            all_goals
              clear he
              go_wp2_with fail
              go_roundw
              case rel =>
                refine ⟨k + 1, by omega, by go_num, ?_, HBA.out⟩
                simp only [HSAME.out]
                rw [HR.out]
                exact HORA.out
              case measure => simp [intOf]; omega
        · obtain rfl : k = F := by omega
          have hall : fs.take k = fs := List.take_of_length_le (by rw [HF.out]; exact Nat.le_refl _)
          have HALL := Lib.hid hall
          clear hall hkF
          go_wp2_with fail
          go_roundw
          case rel =>
            refine ⟨j + 1, by omega, by go_num, ?_, HBK.out⟩
            have hr := HR.out
            rw [HALL.out] at hr
            have hp : hasF f (recV vs id) = decide (f ∈ fs) := by unfold hasF; rw [HRV.out, HFS.out]
            have e : firstN vs (fun s => hasF f (recV vs s)) (j + 1) = r := by
              rw [← hr, ← HQ.out]
              unfold firstN
              by_cases hin : f ∈ fs
              · rw [take_hit HID.out (by show hasF f (recV vs id) = true; rw [hp]; simp [hin]), if_pos hin]
              · rw [take_miss HID.out (by show hasF f (recV vs id) = false; rw [hp]; simp [hin]), if_neg hin, List.append_nil]
            rw [e]
            exact HOR.out
          case measure => simp [intOf]; omega
    · obtain rfl : j = m1 := by omega
      have hqL : q = L := by rw [← HQ.out, ← HLL.out, HML.out]
      have HQL := Lib.hid hqL
      have HBE := Lib.hid (HB1.out.trans (HB.out.mono HB1.out.size))
      have HSZ := Lib.hid HB1.out.size
      clear hqL hlt
      go_wp2_with fail
      go_ret
      rw [← HQL.out]
      exact ⟨Aq, q.length, cq, rfl, rfl, own_low HOW.out HSZ.out, HBE.out⟩

/-- does the record of t refer to s? -/
def refersTo (vs : List VerL) (s t : ByteArray) : Bool := match getV vs t with | some v => memS v.r.rs s | none => false
/-- is s one of these, or does one of the first k refer to it? -/
def wantK (vs : List VerL) (ids : List ByteArray) (s : ByteArray) (k : Nat) : Bool := memS ids s || (ids.take k).any (refersTo vs s)
theorem wantK_zero (vs : List VerL) (ids : List ByteArray) (s : ByteArray) : wantK vs ids s 0 = memS ids s := by unfold wantK; simp
theorem wantK_succ {vs : List VerL} {ids : List ByteArray} {s t : ByteArray} {k : Nat} (h : ids[k]? = some t) : wantK vs ids s (k + 1) = (wantK vs ids s k || refersTo vs s t) := by
  unfold wantK
  rw [List.take_add_one, h, List.any_append, Bool.or_assoc]
  simp
theorem with_first (vs : List VerL) (ids : List ByteArray) : firstN vs (fun s => wantK vs ids s ids.length) (idsV vs).length = withL vs ids := by
  refine asc_ext ?_ (picked_asc _ _) fun s => ?_
  · unfold firstN
    exact (idsV_is vs).asc.sublist (List.filter_sublist.trans (List.take_sublist _ _))
  · show _ ↔ s ∈ withL vs ids
    unfold firstN
    rw [List.take_length, List.mem_filter, mem_withL, mem_idsV]
    refine and_congr_right fun _ => ?_
    unfold wantK
    rw [List.take_length, Bool.or_eq_true, memS_iff, List.any_eq_true]
    refine or_congr Iff.rfl ⟨?_, ?_⟩
    · rintro ⟨t, ht, h⟩
      unfold refersTo at h
      cases hg : getV vs t with
      | none => rw [hg] at h; cases h
      | some v =>
        rw [hg] at h
        exact ⟨t, v, ht, hg, memS_iff.1 h⟩
    · rintro ⟨t, v, ht, hg, h⟩
      refine ⟨t, ht, ?_⟩
      unfold refersTo
      rw [hg]
      exact memS_iff.2 h

set_option maxHeartbeats 4000000 in
theorem refWith_is {n m : Nat} {L : List ByteArray} {a a2 : Option Addr} {vs : List VerL} (c c2 : Nat) (ids : List ByteArray) (w : World) (h : VsAt w a n vs) (hst : stErr vs = 0) (hs : SlS w a2 ids) (hl : ids.length = m) (hm : m ≤ 100000) (hL : withL vs ids = L) :
    Calls Tryd.prog 18 #[.slice a n c, .slice a2 m c2] w (StrTo L w) := by
  have HV := Lib.hid h
  have HST := Lib.hid hst
  have HS := Lib.hid hs
  have HL := Lib.hid hl
  have HLL := Lib.hid (show firstN vs (fun s => wantK vs ids s m) (idsV vs).length = L by rw [← hL, ← with_first, hl])
  have HOK := Lib.hid (stErr_ok.1 hst).2
  have HI : Hid (Calls Tryd.prog 54 #[.slice a n c] w (RefNamesTo vs w)) := by
    show Calls _ _ _ _ _
    obtain ⟨l, hlv, hln, hsw⟩ := h
    have h1 := refIds_is a l c w hsw (by rw [hlv]; exact hst)
    rw [hlv, hln] at h1
    exact h1
  obtain ⟨i0, hi, hz0, hz1, hz2⟩ := info_parts Tryd.infoStr
  clear h hst hL hs hl
  go_enter Tryd.func18, Tryd.ntmps18
  go_wp2_with fail
  refine HI.out.mono ?_
  rintro e w1 ⟨A1, m1, c1, nm, rfl, his, hml, hsl, hmc, hcm, hb1⟩
  obtain rfl := his.eqV
  have HML := Lib.hid hml
  have HSL := Lib.hid hsl
  have HB1 := Lib.hid hb1
  have hm5 : m1 ≤ 5120 := by rw [← hml]; exact Nat.le_trans (idsV_len vs) (stErr_ok.1 HST.out).1
  clear his hml hsl hmc hcm hb1 HI
  go_wp2_with fail
  go_loopw [5, 15] (fun v i wr => ∃ j : Nat, j ≤ m1 ∧ i = .int .i64 j ∧ OwnS w1.heap.size wr v (firstN vs (fun s => wantK vs ids s m) j) ∧ Hid (Below w1.heap.size w1 wr)) (fun _ i _ => m1 - (intOf i).toNat)
  case atStart => exact ⟨0, Nat.zero_le _, rfl, World.ownsRow_nil _ _ _ _, Below.refl _ _⟩
  case round =>
    obtain ⟨j, hj, rfl, hown, HB⟩ := hrel
    obtain ⟨q, hq⟩ : ∃ q, firstN vs (fun s => wantK vs ids s m) j = q := ⟨_, rfl⟩
    rw [hq] at hown
    have HQ := Lib.hid hq
    obtain ⟨Aq, cq, rfl⟩ := hown.form
    have HOW := Lib.hid hown
    have hqj : q.length ≤ j := by
      rw [← hq]
      unfold firstN
      exact Nat.le_trans (List.length_filter_le _ _) (by rw [List.length_take]; omega)
    clear hown hq
    by_cases hlt : j < m1
    · obtain ⟨id, hid⟩ : ∃ id, (idsV vs)[j]? = some id := ⟨_, List.getElem?_eq_getElem (by rw [HML.out]; exact hlt)⟩
      obtain ⟨b1, o1, rfl, hc1⟩ := (HSL.out.below HB.out) j id hid
      have HBJ := Lib.hid (HB1.out.trans (HB.out.mono HB1.out.size))
      have HID := Lib.hid hid
      have i1 : (0 : Int) ≤ (j : Int) := by omega
      have i2 : (j : Int) < (m1 : Int) := by omega
      have HCT := Lib.hid (contains_is (b := memS ids id) a2 ids c2 id wr (HS.out.below HBJ.out) HL.out (by unfold maxLen; omega) memS_iff.symm)
      clear hid
      go_wp2_with fail
      (with_reducible refine HCT.out.mono ?_)
      rintro e w2 ⟨rfl, hb2⟩
      have HB12 := Lib.hid (HB.out.trans (hb2.mono HB.out.size))
      have HOW2 := Lib.hid (HOW.out.below hb2)
      clear hb2 HCT
      go_wp2_with fail
      go_loopw [8, 24] (fun v i wq => ∃ k : Nat, k ≤ m ∧ i = .int .i64 k ∧ v = .bool (wantK vs ids id k) ∧ Hid (Below w2.heap.size w2 wq)) (fun _ i _ => m - (intOf i).toNat)
      case atStart => exact ⟨0, Nat.zero_le _, rfl, by rw [wantK_zero], Below.refl _ _⟩
      case round =>
        obtain ⟨k, hk, rfl, rfl, HBK⟩ := hrel
        obtain ⟨t, ht⟩ : ∃ t, wantK vs ids id k = t := ⟨_, rfl⟩
        rw [ht]
        have HT := Lib.hid ht
        have HB1K := Lib.hid (HB12.out.trans (HBK.out.mono HB12.out.size))
        have HBW := Lib.hid (HB1.out.trans (HB1K.out.mono HB1.out.size))
        clear ht
        by_cases hkF : k < m
        · obtain ⟨s, hs⟩ : ∃ s, ids[k]? = some s := ⟨_, List.getElem?_eq_getElem (by rw [HL.out]; exact hkF)⟩
          obtain ⟨bs, os, rfl, hcs⟩ := (HS.out.below HBW.out) k s hs
          have HSK := Lib.hid hs
          have j1 : (0 : Int) ≤ (k : Int) := by omega
          have j2 : (k : Int) < (m : Int) := by omega
          clear hs
          by_cases hin : s ∈ idsV vs
          · obtain ⟨p, v, hvt, hgv, hget⟩ := refGet_in c s wr (HV.out.below HBW.out) HST.out hin
            have HGET := Lib.hid hget
            obtain ⟨l, hlv, hln, hsw⟩ := HV.out
            obtain ⟨x, hx, hxv⟩ : ∃ x, l[p]? = some x ∧ x.v = v := by
              rw [← hlv, List.getElem?_map] at hvt
              obtain ⟨x, hx, e⟩ := Option.map_eq_some_iff.1 hvt
              exact ⟨x, hx, e⟩
            have htn : p < n := by rw [← hln]; exact (List.getElem?_eq_some_iff.1 hx).1
            obtain ⟨hxi, bx, ox, hax, d0, d1, d2, d3, d4⟩ := hsw p x hx
            obtain ⟨ra, hra⟩ : ∃ ra, x.p.ra = ra := ⟨_, rfl⟩
            obtain ⟨rc, hrc⟩ : ∃ rc, x.p.rc = rc := ⟨_, rfl⟩
            obtain ⟨rs, hrs⟩ : ∃ rs, v.r.rs = rs := ⟨_, rfl⟩
            have hrx : SlS w ra rs := by
              have := hxi.hr
              rw [hxv, hrs, hra] at this
              exact this
            have hrl : rs.length ≤ 4 := by
              have := (recV_ok HOK.out hin).nr
              rw [recV_some hgv, hrs] at this
              exact this
            obtain ⟨R, hR⟩ : ∃ R, rs.length = R := ⟨_, rfl⟩
            rw [hxv, hrs, hra, hrc, hR] at d3
            have hrf : refersTo vs id s = memS rs id := by unfold refersTo; rw [hgv, ← hrs]
            have HRF := Lib.hid hrf
            have HRX := Lib.hid hrx
            have HD3 := Lib.hid d3
            have HR := Lib.hid hR
            rw [hR] at hrl
            have t1 : (0 : Int) ≤ (p : Int) := by omega
            have t2 : (p : Int) < (n : Int) := by omega
            have t3 : ¬ (p : Int) < 0 := by omega
            clear hget hvt hgv hlv hln hsw hx hxv hxi d0 d1 d2 d3 d4 hra hrc hrs hrx hin hR hrf
            subst hax
            go_wp2_with fail
            (with_reducible refine HGET.out.mono ?_)
            rintro e w3 ⟨rfl, hb3⟩
            have HB3 := Lib.hid (HBW.out.trans (hb3.mono HBW.out.size))
            have HBK3 := Lib.hid (HBK.out.trans (hb3.mono HBK.out.size))
            have d3 := (HB3.out.cell (p := ⟨bx, ox + p * 5 + 3, none⟩) (cell_lt HD3.out)).trans HD3.out
            obtain ⟨y, hy⟩ : ∃ y, memS rs id = y := ⟨_, rfl⟩
            have HCT := Lib.hid (contains_is (b := y) ra rs rc id w3 (HRX.out.below HB3.out) HR.out (by unfold maxLen; omega) (by rw [← hy]; exact memS_iff.symm))
            have HNX : Hid (wantK vs ids id (k + 1) = (t || y)) := by show _ = _; rw [wantK_succ HSK.out, HT.out, HRF.out, hy]
            clear hb3 HGET hy
            cases y with
            | true =>
              go_wp2_with fail
              (with_reducible refine HCT.out.mono ?_)
              rintro e w4 ⟨rfl, hb4⟩
              have HB4 := Lib.hid (HBK3.out.trans (hb4.mono HBK3.out.size))
              clear hb4 HCT
              go_wp2_with fail
              go_roundw
              case rel => exact ⟨k + 1, by omega, by go_num, by rw [HNX.out]; simp, HB4.out⟩
              case measure => simp [intOf]; omega
            | false =>
              go_wp2_with fail
              (with_reducible refine HCT.out.mono ?_)
              rintro e w4 ⟨rfl, hb4⟩
              have HB4 := Lib.hid (HBK3.out.trans (hb4.mono HBK3.out.size))
              clear hb4 HCT
              go_wp2_with fail
              go_roundw
              case rel => exact ⟨k + 1, by omega, by go_num, by rw [HNX.out]; simp, HB4.out⟩
              case measure => simp [intOf]; omega
          · have HGET := Lib.hid (refGet_out c s wr (HV.out.below HBW.out) HST.out hin)
            have hrf : refersTo vs id s = false := by
              unfold refersTo
              cases hg : getV vs s with
              | none => rfl
              | some v => exact absurd (mem_idsV.2 ⟨v, hg⟩) hin
            have HNX : Hid (wantK vs ids id (k + 1) = t) := by show _ = _; rw [wantK_succ HSK.out, HT.out, hrf, Bool.or_false]
            clear hin hrf
            go_wp2_with fail
            (with_reducible refine HGET.out.mono ?_)
            rintro e w3 ⟨rfl, hb3⟩
            have HBK3 := Lib.hid (HBK.out.trans (hb3.mono HBK.out.size))
            clear hb3 HGET
            go_wp2_with fail
            go_roundw
            case rel => exact ⟨k + 1, by omega, by go_num, by rw [HNX.out], HBK3.out⟩
            case measure => simp [intOf]; omega
        · obtain rfl : k = m := by omega
          have HOR := Lib.hid (HOW2.out.below HBK.out)
          clear hkF
          cases t with
          | true =>
            have HR1 := Lib.hid (show (wr.alloc (.cells #[.string id] 9)).ownsRow w1.heap.size 9 1 (.slice Aq q.length cq) q.length (cellsS q) from HOR.out.below ((Below.refl _ _).alloc (Nat.le_refl _) _))
            have HNE := Lib.hid (cell_one_at wr id 9)
            have hbb := HB1K.out.alloc HB1K.out.size (.cells #[.string id] 9)
            have HBB := Lib.hid hbb
            have hsz2 := hbb.size
            clear hbb
            go_wp2_with (at_builtin; refine wpList_append_own _ rfl _ _ 25 rfl w1.heap.size 9 i0 _ 1 16 Tryd.underlying25 hi hz0 hz1 hz2 rfl (by decide) (.slice Aq q.length cq) q.length (cellsS q) rfl HR1.out ⟨wr.heap.size, 0, none⟩ 1 1 [.string id] rfl rfl HNE.out (by simp [Value.oneCell']) (by unfold maxLen; omega) (by omega) hsz2 ?_; intro v' w3 hown' hgrow hnv)
            have hr3 : OwnS w1.heap.size w3 v' (q ++ [id]) := by
              unfold OwnS cellsS
              rw [List.map_append, List.length_append]
              exact hown'
            have hB3 : Below w1.heap.size w1 w3 := HBB.out.grown hgrow HBB.out.size (fun j hj => ((World.ownsRow.lt HR1.out) j (show (Value.slice Aq q.length cq).ownBlock = some j from hj)).1)
            have HR3 := Lib.hid hr3
            clear hown' hgrow hnv HBB HNE HR1 hr3
            go_wp2_with fail
            go_roundw
            case rel =>
              refine ⟨j + 1, by omega, by go_num, ?_, hB3⟩
              unfold firstN
              rw [take_hit HID.out HT.out]
              have hq := HQ.out
              unfold firstN at hq
              rw [hq]
              exact HR3.out
            case measure => simp [intOf]; omega
          | false =>
            go_wp2_with fail
            go_roundw
            case rel =>
              refine ⟨j + 1, by omega, by go_num, ?_, HB1K.out⟩
              unfold firstN
              rw [take_miss HID.out HT.out]
              have hq := HQ.out
              unfold firstN at hq
              rw [hq]
              exact HOR.out
            case measure => simp [intOf]; omega
    · obtain rfl : j = m1 := by omega
      have hqL : q = L := by rw [← HQ.out, ← HLL.out, HML.out]
      have HQL := Lib.hid hqL
      have HBE := Lib.hid (HB1.out.trans (HB.out.mono HB1.out.size))
      have HSZ := Lib.hid HB1.out.size
      clear hqL hlt
      go_wp2_with fail
      go_ret
      rw [← HQL.out]
      exact ⟨Aq, q.length, cq, rfl, rfl, own_low HOW.out HSZ.out, HBE.out⟩
end Go.Proofs.YtodlabohijabnaaDoor

namespace Go.Proofs.YtodlabohijabnaaDoor
open Go.RowKit Go.Sort Go.Maps Go.WideShapes
open Go.ChangeMaps (setBlock heap_setBlock_same heap_setBlock_other)

theorem lawFdK : Go.WideMaps.KeyLaw Tryd.prog 24 := deep_law_gate laidOutAll (of_decide_eq_true (by kernel_rfl)) (of_decide_eq_true (by kernel_rfl)) (by kernel_rfl) (by kernel_rfl)

theorem IMap.entry {w : World} {B b n : Nat} {X : SaysX} {H : FieldL → Bool} {V : FieldL → Value} (h : IMap w B b n X H V) (hn : n < maxLen) {f : FieldL} (hf : f.short) :
    ∃ (st : Nat) (w1 : World), (Instr.mapEntry 45 (.map (some b)) (.agg #[.string f.key, .string f.val])).run Tryd.prog w = .ok (.tuple #[V f, .int .i64 (st : Int)]) w1 ∧ Hid (w.grownBy w1 (some b)) ∧
      Hid (∀ (w5 : World) (v' : Value) (l : List ByteArray), OwnS B w5 v' l → w1.grownBy w5 (V f).ownBlock → ((V f).ownBlock = v'.ownBlock ∨ ∀ g, v'.ownBlock = some g → w1.heap.size ≤ g) →
        ∃ w6, (Instr.entryStore 45 (.map (some b)) (.int .i64 (st : Int)) v').run Tryd.prog w5 = .ok () w6 ∧ Hid (IMap w6 B b (n + 1) (putX X f l) (putH H f) (putV V f v')) ∧ Hid (w5.grownBy w6 (some b))) := by
  obtain ⟨D, h1, k1⟩ := h.m
  obtain ⟨k, hk⟩ := fd_key f hf
  have hVb : some b ≠ (V f).ownBlock := fun e => by
    have := (World.ownsRow.lt (h.rows.row f) b e.symm).1
    have := h.lt
    omega
  have hown := h1
  obtain ⟨es, clock, hb, F, hs, hD⟩ := h1
  obtain ⟨v0, st, es1, clock1, hrun, hv0, hst⟩ := Go.WideElems.entry_then_store lawFdK Tryd.underlying45 zeroStrs hb F hk
  have hv : v0 = V f := by
    have ha := (k1 f k hk).1
    rw [hD] at ha
    have hs2 := atKey_sorted (es.toList.map (Go.WideElems.rg Tryd.prog 24 rawE)) (Maps.fit_rising lawFd F) k (lawFd.key hk)
    rcases hv0 with ⟨e0, he0, hk0, rfl⟩ | ⟨hno, rfl⟩
    · obtain ⟨y, hy⟩ := F.reads e0 he0
      have h5 := Go.WideElems.rd_key hy
      rw [hk0, hk] at h5
      have h6 := hs2.2 (Go.WideElems.rg Tryd.prog 24 rawE e0) (List.mem_map.2 ⟨e0, he0, rfl⟩) (by rw [Go.WideElems.rg_of hy]; exact (Option.some.inj h5).symm) (.held nilS)
      rw [ha, Go.WideElems.rg_of hy] at h6
      obtain ⟨z, hz, h8⟩ := Go.WideElems.rd_val hy
      rw [h8, raw_inv _ _ hz] at h6
      injection h6 with h6
      exact h6.symm
    · have h6 := hs2.1 (fun p hp he => by
        obtain ⟨x, hx, rfl⟩ := List.mem_map.1 hp
        obtain ⟨y, hy⟩ := F.reads x hx
        rw [Go.WideElems.rg_of hy] at he
        exact hno x hx (lawFd.inj (he ▸ Go.WideElems.rd_key hy) hk)) (.held nilS)
      rw [ha] at h6
      injection h6 with h6
      exact h6.symm
  subst hv
  have hg1 : w.grownBy (setBlock w b (.map es1 clock1)) (some b) := ⟨rfl, rfl, rfl, by simp [setBlock], fun i _ hi => heap_setBlock_other hb _ (fun e => hi (by rw [e]))⟩
  refine ⟨st, _, hrun, hg1, fun w5 v' l hrow hg hloc => ?_⟩
  have hb5 : w5.heap[b]? = some (.map es1 clock1) := (hg.block b (by simp [setBlock]; exact hown.lt) hVb).trans (heap_setBlock_same hb _)
  obtain ⟨es', clock', hst5, hup⟩ := hst w5 v' hb5
  obtain ⟨w', hrun', ho', hg'⟩ := hown.update lawFd Tryd.underlying45 hn (key := f.v) (val := v') (d := .held v') (ps := []) hk rfl
  have hw' : w' = setBlock w b (.map es' clock') := by
    have := hrun'.symm.trans hup
    injection this
  obtain ⟨es2, clock2, hb2, F2, hs2, hD2⟩ := ho'
  have hobj : (Obj.map es2 clock2) = .map es' clock' := by
    rw [hw', heap_setBlock_same hb] at hb2
    exact (Option.some.inj hb2).symm
  injection hobj with he hc
  subst he hc
  have hg6 : w5.grownBy (setBlock w5 b (.map es2 clock2)) (some b) := ⟨rfl, rfl, rfl, by simp [setBlock], fun i _ hi => heap_setBlock_other hb5 _ (fun e => hi (by rw [e]))⟩
  exact ⟨_, hst5, ⟨⟨_, ⟨es2, clock2, heap_setBlock_same hb5 _, F2, hs2, hD2⟩, k1.put hown hk v'⟩, (h.rows.grown h.lt hg1).put h.lt f hrow hg hloc hg6, h.lt⟩, hg6⟩
end Go.Proofs.YtodlabohijabnaaDoor

namespace Go.Proofs.YtodlabohijabnaaDoor
open Go.RowKit Go.Sort Go.Maps

/-- what lies in cells doesn't lie in a map -/
theorem cell_mapped {w w' : World} {b n : Nat} {D : DataW Value} (hm : mIdx w b n D) (hg : w.grownBy w' (some b)) {k o : Nat} {v : Value} (h : w.cell? ⟨k, o, none⟩ = some v) : w'.cell? ⟨k, o, none⟩ = some v := by
  have hne : k ≠ b := fun e => by
    obtain ⟨es, clock, hb, _⟩ := hm
    subst e
    simp [World.cell?, hb] at h
  exact (World.cell?_of_block (a := ⟨k, o, none⟩) (hg.block k (cell_lt h) (fun e => hne (by cases e; rfl)))).trans h
theorem SlS.mapX {w w' : World} {a : Option Addr} {ids : List ByteArray} {b n : Nat} {D : DataW Value} (h : SlS w a ids) (hm : mIdx w b n D) (hg : w.grownBy w' (some b)) : SlS w' a ids := fun k s hk => by
  obtain ⟨b', off, rfl, h1⟩ := h k s hk
  exact ⟨b', off, rfl, cell_mapped hm hg h1⟩
theorem insN_end : ∀ {m : List ByteArray} {s : ByteArray}, (∀ x ∈ m, sLt x s = true) → insN m s = m ++ [s]
  | [], s, _ => rfl
  | a :: m, s, h => by
    unfold insN
    rw [if_pos (h a (by simp)), insN_end fun x hx => h x (by simp [hx])]
    rfl
theorem preX_below {l : List VerL} {k : Nat} {r : RecL} (h : (recs l)[k]? = some r) (f : FieldL) : ∀ x ∈ preX ((recs l).take k) f, sLt x r.id = true := fun x hx => by
  unfold preX at hx
  obtain ⟨s, hs, rfl⟩ := List.mem_map.1 hx
  exact recs_below h s (List.mem_filter.1 hs).1

/-- a map that says X, and has entries for just those of which X says something -/
def MapSays (w : World) (B b n : Nat) (X : SaysX) : Prop := ∃ H V, IMap w B b n X H V ∧ ∀ f, H f = true → X f ≠ [] ∧ isFd f = true
theorem MapSays.below {w w' : World} {B b n : Nat} {X : SaysX} (h : MapSays w B b n X) (hb : Below w.heap.size w w') : MapSays w' B b n X := by
  obtain ⟨H, V, h1, h2⟩ := h
  exact ⟨H, V, h1.below hb, h2⟩
theorem MapSays.more {w : World} {B b n m : Nat} {X : SaysX} (h : MapSays w B b n X) (hm : n ≤ m) : MapSays w B b m X := by
  obtain ⟨H, V, ⟨⟨D, h1, h2⟩, h3, h4⟩, h5⟩ := h
  exact ⟨H, V, ⟨⟨D, h1.mono hm, h2⟩, h3, h4⟩, h5⟩
/-- one name more at a field: what m[f] = append(m[f], id) does -/
theorem MapSays.entry {w : World} {B b n : Nat} {X : SaysX} (h : MapSays w B b n X) (hn : n < maxLen) {f : FieldL} (hf : isFd f = true) :
    ∃ (A : Option Addr) (c st : Nat) (w1 : World), (Instr.mapEntry 45 (.map (some b)) (.agg #[.string f.key, .string f.val])).run Tryd.prog w = .ok (.tuple #[.slice A (X f).length c, .int .i64 (st : Int)]) w1 ∧ Hid (w.grownBy w1 (some b)) ∧ Hid (OwnS B w1 (.slice A (X f).length c) (X f)) ∧
      Hid (∀ (w5 : World) (v' : Value) (l : List ByteArray), l ≠ [] → OwnS B w5 v' l → w1.grownBy w5 (Value.slice A (X f).length c).ownBlock → (v'.ownBlock = (Value.slice A (X f).length c).ownBlock ∨ v'.ownBlock = some w1.heap.size) →
        ∃ w6, (Instr.entryStore 45 (.map (some b)) (.int .i64 (st : Int)) v').run Tryd.prog w5 = .ok () w6 ∧ Hid (MapSays w6 B b (n + 1) (putX X f l)) ∧ Hid (w5.grownBy w6 (some b))) := by
  obtain ⟨H, V, h1, h2⟩ := h
  obtain ⟨A, c, hV⟩ := (h1.rows.row f).form
  obtain ⟨st, w1, hrun, hg, hent⟩ := h1.entry hn (short_fd hf)
  have hlt := h1.lt
  have hrow := (h1.rows.grown hlt hg.out).row f
  rw [hV] at hrun hent hrow
  refine ⟨A, c, st, w1, hrun, hg, hrow, fun w5 v' l hl ho hg5 hat => ?_⟩
  obtain ⟨w6, hrun6, hm6, hg6⟩ := hent.out w5 v' l ho hg5 (by
    rcases hat with e | e
    · exact .inl e.symm
    · exact .inr fun j hj => by rw [e] at hj; cases hj; exact Nat.le_refl _)
  refine ⟨w6, hrun6, ⟨_, _, hm6.out, fun g hH => ?_⟩, hg6⟩
  unfold putH at hH
  unfold putX
  by_cases e : g = f
  · rw [if_pos e, e]
    exact ⟨hl, hf⟩
  · rw [if_neg e] at hH ⊢
    exact h2 g hH
def PairsTo (vs : List VerL) (w : World) (e : Ending) (w' : World) : Prop := ∃ b B, e = .returned (.map (some b)) ∧ w.heap.size ≤ b ∧ MapSays w' B b 40000 (newX vs) ∧ Below w.heap.size w w'

set_option maxHeartbeats 4000000 in
theorem pairs_is {n : Nat} {a : Option Addr} {vs : List VerL} (c : Nat) (w : World) (h : VsAt w a n vs) (hst : stErr vs = 0) :
    Calls Tryd.prog 21 #[.slice a n c] w (PairsTo vs w) := by
  have HV := Lib.hid h
  have HST := Lib.hid hst
  have HOK := Lib.hid (stErr_ok.1 hst).2
  obtain ⟨W0, hW0⟩ : ∃ W0, W0 = w.alloc (.map #[] 0) := ⟨_, rfl⟩
  have hA0 : Below w.heap.size w W0 := by rw [hW0]; exact (Below.refl _ _).alloc (Nat.le_refl _) _
  have hM0 : IMap W0 (w.heap.size + 1) w.heap.size 0 (fun _ => []) (fun _ => false) (fun _ => nilS) := by rw [hW0]; exact imap_made w
  have HI : Hid (Calls Tryd.prog 54 #[.slice a n c] W0 (RefNamesTo vs W0)) := by
    obtain ⟨l, hlv, hln, hsw⟩ := h.below hA0
    have h1 := refIds_is a l c W0 hsw (by rw [hlv]; exact hst)
    rw [hlv, hln] at h1
    exact h1
  have HW0 := Lib.hid hW0
  have HA0 := Lib.hid hA0
  have HM0 := Lib.hid hM0
  obtain ⟨i0, hi, hz0, hz1, hz2⟩ := info_parts Tryd.infoStr
  have hmm := @run_makeMap Tryd.prog
  clear h hst hW0 hA0 hM0
  go_enter Tryd.func21, Tryd.ntmps21
  go_wp2_with fail
  rw [← HW0.out]
  obtain ⟨b, hb⟩ : ∃ b, b = w.heap.size := ⟨_, rfl⟩
  have HB := Lib.hid hb
  rw [← hb] at HM0 ⊢
  clear hb hmm
  refine HI.out.mono ?_
  rintro e w1 ⟨A1, m1, c1, ids, rfl, his, hml, hsl, hmc, hcm, hb1⟩
  obtain rfl := his.eqV
  have HML := Lib.hid hml
  have HSL := Lib.hid hsl
  have HB1 := Lib.hid (HA0.out.trans (hb1.mono HA0.out.size))
  have hm5 : m1 ≤ 5120 := by rw [← hml]; exact Nat.le_trans (idsV_len vs) (stErr_ok.1 HST.out).1
  obtain ⟨B, hBe⟩ : ∃ B, B = w1.heap.size := ⟨_, rfl⟩
  have hM1 := HM0.out.below hb1
  have hbl : b < w1.heap.size := hM1.mlt
  obtain ⟨D1, hD1, hR1⟩ := hM1.m
  have HD1 := Lib.hid hD1
  have hMS : MapSays w1 B b 0 (preX ((recs vs).take 0)) := by
    rw [List.take_zero, preX_nil]
    exact ⟨fun _ => false, fun _ => nilS, ⟨⟨D1, hD1, hR1⟩, ⟨fun f => World.ownsRow_nil _ _ _ _, fun f g _ => .inl rfl, fun f _ => rfl⟩, by rw [hBe]; exact hbl⟩, fun f hf => by cases hf⟩
  have HMS := Lib.hid hMS
  have HBE := Lib.hid hBe
  have HBL := Lib.hid hbl
  clear his hml hsl hmc hcm hb1 HI hM1 hbl hD1 hR1 hMS hBe
  go_wp2_with fail
  go_loopw [12] (fun i wr => ∃ j nn : Nat, j ≤ m1 ∧ i = .int .i64 j ∧ Hid (nn ≤ 6 * j) ∧ Hid (MapSays wr B b nn (preX ((recs vs).take j))) ∧ Hid (w1.grownBy wr (some b))) (fun i _ => m1 - (intOf i).toNat)
  case atStart => exact ⟨0, 0, Nat.zero_le _, rfl, Nat.zero_le _, HMS.out, ⟨rfl, rfl, rfl, Nat.le_refl _, fun _ _ _ => rfl⟩⟩
  case round =>
    obtain ⟨j, nn, hj, rfl, HN, HMJ, HG⟩ := hrel
    have hbelow : ∀ {wz : World}, w1.grownBy wz (some b) → Below w.heap.size w wz := fun hg => HB1.out.grown hg HB1.out.size (fun k hk => by cases hk; rw [HB.out]; exact Nat.le_refl _)
    have HBLW : Hid (∀ wz : World, w1.grownBy wz (some b) → Below w.heap.size w wz) := fun wz hg => hbelow hg
    clear hbelow
    by_cases hlt : j < m1
    · obtain ⟨id, hid⟩ : ∃ id, (idsV vs)[j]? = some id := ⟨_, List.getElem?_eq_getElem (by rw [HML.out]; exact hlt)⟩
      obtain ⟨b1, o1, rfl, hc1⟩ := (HSL.out.mapX HD1.out HG.out) j id hid
      have hmem := List.mem_of_getElem? hid
      have HBJ := Lib.hid (HBLW.out wr HG.out)
      obtain ⟨t, v, hvt, hgv, hget⟩ := refGet_in c id wr (HV.out.below HBJ.out) HST.out hmem
      have hrj : (recs vs)[j]? = some (recV vs id) := by unfold recs; rw [List.getElem?_map, hid]; rfl
      have HGET := Lib.hid hget
      have hrv := recV_some hgv
      have hidr := recV_id hmem
      have hro := recV_ok HOK.out hmem
      obtain ⟨r, hr⟩ : ∃ r, recV vs id = r := ⟨_, rfl⟩
      rw [hr] at hrj hrv hidr hro
      obtain ⟨fs, hfs⟩ : ∃ fs, r.fs = fs := ⟨_, rfl⟩
      have hfo := hro.fs
      have hfl := hro.nf
      rw [hfs] at hfo hfl
      have HFO := Lib.hid hfo
      have HRJ := Lib.hid hrj
      have HIDR := Lib.hid hidr
      have HFS := Lib.hid hfs
      have i1 : (0 : Int) ≤ (j : Int) := by omega
      have i2 : (j : Int) < (m1 : Int) := by omega
      obtain ⟨l, hlv, hln, hsw⟩ := HV.out
      obtain ⟨x, hx, hxv⟩ : ∃ x, l[t]? = some x ∧ x.v = v := by
        rw [← hlv, List.getElem?_map] at hvt
        obtain ⟨x, hx, e⟩ := Option.map_eq_some_iff.1 hvt
        exact ⟨x, hx, e⟩
      have htn : t < n := by rw [← hln]; exact (List.getElem?_eq_some_iff.1 hx).1
      obtain ⟨hxi, bx, ox, hax, d0, d1, d2, d3, d4⟩ := hsw t x hx
      obtain ⟨fa, hfa⟩ : ∃ fa, x.p.fa = fa := ⟨_, rfl⟩
      obtain ⟨fc, hfc⟩ : ∃ fc, x.p.fc = fc := ⟨_, rfl⟩
      have hvr : v.r.fs = fs := by rw [← hrv, hfs]
      have hfx : SlF w fa fs := by
        have := hxi.hf
        rw [hxv, hvr, hfa] at this
        exact this
      rw [hxv, hvr, hfa, hfc] at d2
      have HFX := Lib.hid hfx
      have HD2 := Lib.hid d2
      have t1 : (0 : Int) ≤ (t : Int) := by omega
      have t2 : (t : Int) < (n : Int) := by omega
      clear hid hget hvt hgv hfo hfs hlv hln hsw hx hxv hxi d0 d1 d2 d3 d4 hfa hfc hfx hmem hrj hrv hidr hro hr hvr
      subst hax
      go_wp2_with fail
      refine HGET.out.mono ?_
      rintro e w2 ⟨rfl, hb2⟩
      have HB2 := Lib.hid (HBJ.out.trans (hb2.mono HBJ.out.size))
      have d2 := (HB2.out.cell (p := ⟨bx, ox + t * 5 + 2, none⟩) (cell_lt HD2.out)).trans HD2.out
      have HM2 := Lib.hid (HMJ.out.below hb2)
      have HG2 := Lib.hid (HG.out.andThen (grown_of_below hb2) (fun j hj => by cases hj))
      clear hb2 HGET hc1
      go_wp2_with fail
      obtain ⟨F, hF⟩ : ∃ F, fs.length = F := ⟨_, rfl⟩
      have HF := Lib.hid hF
      rw [hF] at hfl ⊢
      clear hF d2
      go_loopw [25] (fun i wq => ∃ k nq : Nat, k ≤ F ∧ i = .int .i64 k ∧ Hid (nq ≤ 6 * j + k) ∧ Hid (MapSays wq B b nq (addX (preX ((recs vs).take j)) (fs.take k) id)) ∧ Hid (w1.grownBy wq (some b))) (fun i _ => F - (intOf i).toNat)
      case atStart => exact ⟨0, nn, Nat.zero_le _, rfl, HN.out, (by show MapSays _ _ _ _ _; rw [List.take_zero, addX_nil]; exact HM2.out), HG2.out⟩
      case round =>
        obtain ⟨k, nq, hk, rfl, HNQ, HMK, HGK⟩ := hrel
        by_cases hkl : k < F
        · obtain ⟨f, hf⟩ : ∃ f, fs[k]? = some f := ⟨_, List.getElem?_eq_getElem (by rw [HF.out]; exact hkl)⟩
          have hfd : isFd f = true := fOk_all HFO.out f (List.mem_of_getElem? hf)
          have hnk : f ∉ fs.take k := key_once HFO.out hf
          obtain ⟨bf, off, rfl, z0, z1⟩ := (HFX.out.below (HBLW.out wr HGK.out)) k f hf
          have hXk : addX (preX ((recs vs).take j)) (fs.take k) id f = preX ((recs vs).take j) f := addX_at hnk
          have hXs : addX (preX ((recs vs).take j)) (fs.take (k + 1)) id = putX (addX (preX ((recs vs).take j)) (fs.take k) id) f (preX ((recs vs).take j) f ++ [id]) := by
            rw [take_snoc hf, addX_step hnk, insN_end]
            have := preX_below HRJ.out f
            rwa [HIDR.out] at this
          have j1 : (0 : Int) ≤ (k : Int) := by omega
          have j2 : (k : Int) < (F : Int) := by omega
          obtain ⟨lX, hlX⟩ : ∃ lX, preX ((recs vs).take j) f = lX := ⟨_, rfl⟩
          obtain ⟨q, hq⟩ : ∃ q, lX.length = q := ⟨_, rfl⟩
          have hqb : q ≤ 5120 := by
            have := preX_len ((recs vs).take j) f
            rw [hlX, hq, List.length_take] at this
            omega
          rw [hlX] at hXk hXs
          obtain ⟨W3, hW3⟩ : ∃ W3, W3 = (wr.alloc (.cells #[.string f.key, .string f.val] 24)).alloc (.cells #[.string id] 9) := ⟨_, rfl⟩
          have hb3 : Below wr.heap.size wr W3 := by rw [hW3]; exact ((Below.refl _ _).alloc (Nat.le_refl _) _).alloc (by simp) _
          have hM3 := HMK.out.below hb3
          have hc3 : W3.cell? ⟨wr.heap.size + 1, 0, none⟩ = some (.string id) := by rw [hW3]; simp [go_sem]
          obtain ⟨A, cA, st, w4, hrun, hg4, hrow4, hent⟩ := hM3.entry (by have := HNQ.out; unfold maxLen; omega) hfd
          rw [hXk, hq] at hrun
          have hrow5 := hrow4.out
          have hent5 := hent.out
          rw [hXk, hq] at hrow5 hent5
          obtain ⟨H3, V3, him3, _⟩ := hM3
          obtain ⟨D3, hD3, _⟩ := him3.m
          have hc4 := cell_mapped hD3 hg4.out hc3
          have hnews : ∀ y u, (cellsS [id])[y]? = some u → w4.cell? ((⟨wr.heap.size + 1, 0, none⟩ : Addr).add y) = some u := by
            intro y u hy
            rw [addr_at]
            match y, hy with
            | 0, hy => cases hy; exact hc4
          have hrow6 : w4.ownsRow B 9 1 (.slice A q cA) q (cellsS lX) := by
            have := hrow5
            unfold OwnS at this
            rwa [hq] at this
          have HNEWS := Lib.hid hnews
          have HROW := Lib.hid hrow6
          have HENT := Lib.hid hent5
          have HG4 := Lib.hid ((HGK.out.andThen (grown_of_below hb3) (fun j hj => by cases hj)).andThen hg4.out (fun j hj => by cases hj; exact .inr rfl))
          have HBS : Hid (B ≤ w4.heap.size) := by
            have h1 := HGK.out.size
            have h2 := hb3.size
            have h3 := hg4.out.size
            have h4 := HBE.out
            show B ≤ _
            omega
          have HXS := Lib.hid hXs
          have HQ := Lib.hid hq
          rw [hW3] at hrun
          clear hf hfd hnk hXk hXs hlX hq hb3 hc3 hg4 hrow4 hent hrow5 hent5 him3 hD3 hc4 hnews hrow6 hW3
          go_wp2_with (at_builtin; refine wpList_append_own_at _ rfl _ _ 25 rfl B 9 i0 _ 1 16 Tryd.underlying25 hi hz0 hz1 hz2 rfl (by decide) _ _ _ rfl HROW.out ⟨wr.heap.size + 1, 0, none⟩ 1 1 (cellsS [id]) rfl rfl HNEWS.out (cellsS_one [id]) ?c3 ?c4 HBS.out ?_)
          case c3 => unfold maxLen; omega
          case c4 => omega
          all_goals
            intro v' w5 hown5 hgrow5 hnv5 hat5
            have ho5 : OwnS B w5 v' (lX ++ [id]) := by
              unfold OwnS
              rw [cellsS_app, List.length_append, HQ.out]
              exact hown5
            obtain ⟨w6, hst6, HM6, HG6⟩ := HENT.out w5 v' (lX ++ [id]) (by simp) ho5 hgrow5 hat5
            have HG7 := Lib.hid ((HG4.out.andThen hgrow5 (fun y hy => .inl (by have h1 := (World.ownsRow.lt HROW.out y hy).1; have h2 := HBE.out; omega))).andThen HG6.out (fun y hy => by cases hy; exact .inr rfl))
            clear hown5 hgrow5 hnv5 hat5 ho5 HG6 hrun z0 z1
            go_wp2_with fail
            go_roundw
            case rel => exact ⟨k + 1, nq + 1, by omega, by go_num, (show nq + 1 ≤ 6 * j + (k + 1) by have := HNQ.out; omega), (by show MapSays _ _ _ _ _; rw [HXS.out]; exact HM6.out), HG7.out⟩
            case measure => simp [intOf]; omega
        · obtain rfl : k = F := by omega
          have hall : fs.take k = fs := List.take_of_length_le (by rw [HF.out]; exact Nat.le_refl _)
          have hX : preX ((recs vs).take (j + 1)) = addX (preX ((recs vs).take j)) (fs.take k) id := by
            rw [hall, take_snoc HRJ.out, preX_snoc (recs_below HRJ.out), HFS.out, HIDR.out]
          have HX := Lib.hid hX
          clear hall hX
          go_wp2_with fail
          go_roundw
          case rel => exact ⟨j + 1, nq, by omega, by go_num, (show nq ≤ 6 * (j + 1) by have := HNQ.out; omega), (by show MapSays _ _ _ _ _; rw [HX.out]; exact HMK.out), HGK.out⟩
          case measure => simp [intOf]; omega
    · obtain rfl : j = m1 := by omega
      have hall : (recs vs).take j = recs vs := List.take_of_length_le (by rw [recs_len, HML.out]; exact Nat.le_refl _)
      have HME : Hid (MapSays wr B b 40000 (newX vs)) := by
        have h1 := HMJ.out
        rw [hall, preX_all] at h1
        exact h1.more (by have := HN.out; omega)
      have HBF := Lib.hid (HBLW.out wr HG.out)
      clear hall
      go_wp2_with fail
      go_ret
      exact ⟨b, B, rfl, (by rw [HB.out]; exact Nat.le_refl _), HME.out, HBF.out⟩
end Go.Proofs.YtodlabohijabnaaDoor

namespace Go.Proofs.YtodlabohijabnaaDoor
open Go.RowKit Go.Sort Go.Maps Go.Shelf

theorem namesIn_asc {ss : List (List UInt8)} (hnd : ss.Nodup) : Asc (namesIn ss) := by
  have tr : ∀ a b c : List UInt8, decide (a ≤ b) = true → decide (b ≤ c) = true → decide (a ≤ c) = true := fun a b c h1 h2 => by simp only [decide_eq_true_eq] at *; exact List.le_trans h1 h2
  have tt : ∀ a b : List UInt8, (decide (a ≤ b) || decide (b ≤ a)) = true := fun a b => by simp only [Bool.or_eq_true, decide_eq_true_eq]; exact List.le_total a b
  have hs := List.pairwise_mergeSort tr tt ss
  have hn : (ss.mergeSort fun x y => decide (x ≤ y)).Nodup := (List.mergeSort_perm ss _).nodup_iff.2 hnd
  have hb := List.Pairwise.and hs hn
  unfold namesIn Asc
  refine List.pairwise_map.2 (List.Pairwise.imp ?_ hb)
  rintro a b ⟨hab, hne⟩
  have hba : sLt ⟨b.toArray⟩ ⟨a.toArray⟩ = false := le_iff.1 (by simpa using hab)
  rcases sLt_tri ⟨a.toArray⟩ ⟨b.toArray⟩ with k | k | k
  · exact k
  · exact absurd (by simpa using k) hne
  · rw [hba] at k; cases k
theorem namesIn_mem {ss : List (List UInt8)} {s : ByteArray} : s ∈ namesIn ss ↔ s.data.toList ∈ ss := by
  unfold namesIn
  rw [List.mem_map]
  constructor
  · rintro ⟨x, hx, rfl⟩
    simpa using List.mem_mergeSort.1 hx
  · intro hx
    exact ⟨_, List.mem_mergeSort.2 hx, by simp⟩
theorem namesIn_len (ss : List (List UInt8)) : (namesIn ss).length = ss.length := by simp [namesIn]

theorem row_form {w : World} {rr s n : Nat} {e : TypeId} {v : Value} {xs : List Value} (h : w.ownsRow rr e s v n xs) : ∃ A c, v = .slice A n c := by
  rcases h.2 with ⟨e, h0⟩ | ⟨g, cap, cur, e, _⟩
  · exact ⟨none, 0, by rw [e, h0]⟩
  · exact ⟨_, _, e⟩
/-- sort.Strings of names that one owns -/
theorem sortStr_is {rr m : Nat} (A : Option Addr) (c : Nat) (ss : List (List UInt8)) (w : World) (h : w.ownsRow rr 9 1 (.slice A m c) m (ss.map encStr)) (hm : ss.length = m) (hm6 : m ≤ 1000000) :
    Calls Tryd.prog 27 #[.slice A m c] w fun e w' => e = .returned (.tuple #[]) ∧ OwnS rr w' (.slice A m c) (namesIn ss) ∧ w.grownBy w' (A.map (·.block)) := by
  subst hm
  have hl : (namesIn ss).length = ss.length := namesIn_len ss
  rcases h.2 with ⟨e1, h0⟩ | ⟨g, cap, cur, e1, hbase, hb, h1, h2, h3, h4⟩
  · obtain rfl : ss = [] := List.eq_nil_of_length_eq_zero h0
    injection e1 with e1 _ e3
    subst e1 e3
    refine (strings_nil none 0 w).mono ?_
    rintro e w' ⟨rfl, rfl⟩
    have hn0 : namesIn [] = [] := by simp [namesIn]
    rw [hn0]
    exact ⟨rfl, World.ownsRow_nil _ _ _ _, ⟨rfl, rfl, rfl, Nat.le_refl _, fun _ _ _ => rfl⟩⟩
  · injection e1 with ea _ ec
    subst ea ec
    have hgw : g < w.heap.size := (Array.getElem?_eq_some_iff.1 hb).1
    refine (Any.sort_Strings Tryd.lays192 g 0 c ss w (holds_of_block hb (by simpa using h4)) hgw (by omega)).mono fun e w' ⟨he, nn, os, hw⟩ => ?_
    have hgr : w.grownBy (grow (putRow encStr (Sort.ahead w nn) g 0 (ss.mergeSort fun x y => decide (x ≤ y)).toArray) os) (some g) := grownBy_sorted _
    rw [← hw] at hgr
    have hs := ownsRow_sorted (w := w) (n := nn) (os := os) (ss := ss) (ts := ss.mergeSort (fun x y => decide (x ≤ y))) (by simp) hbase hb h1 h2 h3
    have hc : (ss.mergeSort (fun x y => decide (x ≤ y))).map encStr = cellsS (namesIn ss) := by
      unfold cellsS namesIn
      rw [List.map_map]
      rfl
    rw [hc, ← hw] at hs
    refine ⟨he, ?_, hgr⟩
    unfold OwnS
    rw [hl]
    exact hs

/-- the keys of these fields -/
def keysOf (fs : List FieldL) (s : ByteArray) : Bool := fs.any fun f => sEq f.key s
theorem keysOf_snoc (fs : List FieldL) (f : FieldL) (s : ByteArray) : (if sEq f.key s = true then true else keysOf fs s) = keysOf (fs ++ [f]) s := by
  unfold keysOf
  rw [List.any_append]
  cases h : sEq f.key s <;> simp [h]
theorem keysOf_iff {fs : List FieldL} {s : ByteArray} : keysOf fs s = true ↔ ∃ f ∈ fs, f.key = s := by
  unfold keysOf
  rw [List.any_eq_true]
  simp only [sEq_iff]

set_option maxHeartbeats 8000000 in
theorem says_is {S p M B b nn : Nat} {X : SaysX} {gs : List FieldL} (w : World) (h : Idx w S p M X) (hm : MapSays w B b nn X) (hnn : nn ≤ 2000000000) (hgs : Lists X gs) (hgl : gs.length ≤ 50000) (hT : total X ≤ 1000000000) (hlen : ∀ f, (X f).length ≤ 1000000) :
    Calls Tryd.prog 22 #[.pointer (some ⟨p, 0, none⟩), .map (some b)] w fun e w' => e = .returned (.bool true) ∧ Below w.heap.size w w' := by
  obtain ⟨H, V, him, hfin⟩ := hm
  obtain ⟨D, hown, hrd⟩ := him.m
  obtain ⟨W0, hW0⟩ : ∃ W0, W0 = w.alloc (.map #[] 0) := ⟨_, rfl⟩
  have hb0 : Below w.heap.size w W0 := by rw [hW0]; exact (Below.refl _ _).alloc (Nat.le_refl _) _
  have hs0 : W0.heap.size = w.heap.size + 1 := by rw [hW0]; simp
  have hown0 : mIdx W0 b nn D := hown.kept (grown_of_below hb0) (by simp)
  have hns0 : NSet W0 w.heap.size 0 (.map []) (keysOf []) := by rw [hW0]; exact (nset_made w).congr fun s => rfl
  have hblt := him.mlt
  obtain ⟨N, hN⟩ : ∃ N, total X = N := ⟨_, rfl⟩
  rw [hN] at hT
  have HI := Lib.hid h
  have HIM := Lib.hid him
  have HFIN := Lib.hid hfin
  have HRD := Lib.hid hrd
  have HGS := Lib.hid hgs
  have HGL := Lib.hid hgl
  have HTN := Lib.hid hN
  have HTB := Lib.hid hT
  have HLEN := Lib.hid hlen
  have HB0 := Lib.hid hb0
  have HNS0 := Lib.hid hns0
  have HBLT := Lib.hid hblt
  have HNN := Lib.hid hnn
  have hTsum : Hid (∀ fs : List FieldL, fs.Nodup → (∀ f ∈ fs, H f = true) → countOf X fs ≤ N) := fun fs hnd hall => by
    rw [← hN, hgs.total]
    exact countOf_le hnd fun f hf => (hgs.mem f).2 (hfin f (hall f hf)).1
  have HSUM := hTsum
  have hmm := @run_makeMap Tryd.prog
  have HW0 := Lib.hid hW0
  clear h him hfin hrd hgs hgl hN hT hlen hb0 hns0 hblt hnn hTsum hown hs0
  obtain ⟨bk, hbk⟩ : ∃ bk, bk = w.heap.size := ⟨_, rfl⟩
  have HBK := Lib.hid hbk
  rw [hW0] at hown0
  clear hW0
  go_enter Tryd.func22, Tryd.ntmps22
  go_wp2_with (at_range; refine wpList_range_own _ rfl _ 45 rfl 24 25 lawFd Tryd.underlying45 rawE b nn D rfl hown0 ?_; intro w2 hrg0 hg0 hs0)
  go_frame
  rw [← HW0.out] at hrg0 hg0 hs0
  rw [← hbk]
  have hB2 : Below w.heap.size w w2 := HB0.out.grown hg0 HB0.out.size (fun j hj => by cases hj)
  have hns2 : NSet w2 bk 0 (.map []) (keysOf []) := by
    rw [hbk]
    exact ⟨HNS0.out.own.kept hg0 (by simp), HNS0.out.has, HNS0.out.all⟩
  have HB2 := Lib.hid hB2
  have HNS2 := Lib.hid hns2
  obtain ⟨rr, hr⟩ : ∃ rr, rr = W0.heap.size := ⟨_, rfl⟩
  rw [← hr] at hrg0 hs0
  have hrk : rr = bk + 1 := by rw [hr, HW0.out, hbk]; simp
  have HRK := Lib.hid hrk
  rw [← HW0.out, ← hr]
  have hlb : b < rr := by have := HBLT.out; omega
  obtain ⟨i0, hi, hz0, hz1, hz2⟩ := info_parts Tryd.infoStr
  clear hg0 hB2 hns2 hr hrk hbk hown0 hmm
  go_loopw [5] (fun v wq => ∃ (left : Lit → Bool) (cnt nk : Nat) (fs : List FieldL) (Dk : DataW Unit), v = .int .i64 (countOf X fs : Nat) ∧ wq.ranges Tryd.prog 24 rawE b rr nn D left cnt ∧ Hid (Met H left fs) ∧ Hid (NSet wq bk nk Dk (keysOf fs)) ∧ Hid (nk ≤ fs.length) ∧ Hid (Below w.heap.size w wq)) (fun _ wq => wq.rangeLeft b rr)
  case atStart => exact ⟨_, _, 0, [], _, by rw [countOf_nil]; rfl, hrg0, Met.start HRD.out, HNS2.out, Nat.zero_le _, HB2.out⟩
  case round =>
    clear hrg0 HB2 hs0 HNS2
    obtain ⟨left, cnt, nk, fs, Dk, rfl, hrg, HMT, HNS, HNK, HB⟩ := hrel
    go_wp2_with (at_next; refine wpList_next_ranges _ rfl _ rfl 24 lawFd rawE (fun f : FieldL => f.v) (fun v : Value => v) (fun key kl hk => by obtain ⟨f, e⟩ := fd_inv hk; exact ⟨f, e⟩) (fun v y hv => ⟨v, rfl⟩) b rr nn _ _ _ rfl hrg ?_ ?_)
    · intro _ hl0
      have hl : Lists X fs := by
        refine ⟨HMT.out.nodup, fun f => ⟨fun hf => (HFIN.out f (HMT.out.sound f hf).1).1, fun hX => ?_⟩⟩
        have hH : H f = true := by
          cases hh : H f with
          | true => rfl
          | false => exact absurd (HIM.out.rows.off f hh) hX
        obtain ⟨k, hk⟩ := fd_key f (short_fd (HFIN.out f hH).2)
        rcases HMT.out.full f k hk hH with h6 | h6
        · rw [hl0 k] at h6
          cases h6
        · exact h6
      have hc : countOf X fs = N := by rw [← HTN.out, hl.total]
      rw [hc]
      have hkl := HNS.out.own
      have hkhas := HNS.out.has
      have hfl : nk ≤ 50000 := by
        have h1 := nodup_len HMT.out.nodup fun g hg => (HGS.out.mem g).2 (HFIN.out g (HMT.out.sound g hg).1).1
        have h2 := HNK.out
        have h3 := HGL.out
        omega
      have hkw := hkl.lt
      have hkD := hkl.size_le
      have HKH : Hid (∀ s : ByteArray, Maps.has Dk (.string s.data.toList) = true ↔ ∃ g, X g ≠ [] ∧ g.key = s) := fun s => by
        rw [hkhas s, keysOf_iff]
        constructor
        · rintro ⟨g, hg, e⟩
          exact ⟨g, (hl.mem g).1 hg, e⟩
        · rintro ⟨g, hg, e⟩
          exact ⟨g, (hl.mem g).2 hg, e⟩
      have HFS := Lib.hid hl
      have HKD := Lib.hid hkD
      clear hc hl0 hl hrg hkhas hkD HNS HMT HNK HRD
      go_wp2_with (at_range; refine wpList_range_own _ rfl _ 80 rfl 9 4 lawStrB Tryd.underlying80 _ bk nk _ rfl hkl ?_; intro w2 hrg0 hg0 hs0)
      go_frame
      have hB2 : Below w.heap.size w w2 := HB.out.grown hg0 HB.out.size (fun j hj => by cases hj)
      obtain ⟨r2, hr2⟩ : ∃ r2, r2 = wr.heap.size := ⟨_, rfl⟩
      have hrs : r2 ≤ w2.heap.size := by omega
      rw [← hr2] at hrg0 hkw ⊢
      have hwr : w.heap.size ≤ r2 := by have := HB.out.size; omega
      have HB2 := Lib.hid hB2
      clear hkl hg0 hs0 HB hr2 hB2
      go_loopw [11] (fun v wq => ∃ (left : Lit → Bool) (cnt : Nat) (ss : List (List UInt8)), wq.ranges Tryd.prog 9 (plainElem Tryd.prog 4) bk r2 nk Dk left cnt ∧ ss.length + cnt ≤ nk ∧
          wq.ownsRow r2 9 1 v ss.length (ss.map encStr) ∧ Hid (Collected Dk left ss) ∧ Hid (Below w.heap.size w wq) ∧ r2 ≤ wq.heap.size)
        (fun _ wq => wq.rangeLeft bk r2)
      case atStart => exact ⟨_, _, [], hrg0, by simpa using HKD.out, World.ownsRow_nil _ _ _ _, Collected.start Dk, HB2.out, hrs⟩
      case round =>
        clear hrg0 HB2 hrs
        obtain ⟨left, cnt, ss, hrg, hcs, hrow, hC, hB, hrs⟩ := hrel
        go_wp2_with (at_next; refine wpList_next_ranges _ rfl _ rfl 9 lawStrB (plainElem Tryd.prog 4) encStr Value.bool (fun key kl hk => by obtain ⟨x, hx, _⟩ := Maps.keyOf_str Tryd.underlying9 hk; exact ⟨x, hx⟩) (fun v y hv => by obtain ⟨c, e, _⟩ := plainElem_bool_inv Tryd.underlying4 hv; exact ⟨c, e⟩) bk r2 nk _ _ _ rfl hrg ?_ ?_)
        · intro _ hl0
          have hik : IsKeys X (namesIn ss) := ⟨namesIn_asc hC.out.1, fun s => by
            rw [namesIn_mem, hC.out.2, hl0, HKH.out s]
            simp⟩
          have HIK := Lib.hid hik
          obtain ⟨Av, cv, rfl⟩ := row_form hrow
          obtain ⟨m, hm⟩ : ∃ m, ss.length = m := ⟨_, rfl⟩
          rw [hm] at hrow hcs ⊢
          have hso := sortStr_is Av cv ss wr hrow hm (by omega)
          have hlow : ∀ j, Av.map (·.block) = some j → w.heap.size ≤ j := fun j hj => by
            have := (hrow.lt j (by rw [ob]; exact hj)).1
            omega
          have HSO := Lib.hid hso
          have HLOW := Lib.hid hlow
          have HNL : Hid ((namesIn ss).length = m) := (namesIn_len ss).trans hm
          clear hso hlow hcs hrg hrow hl0 hC hik hm
          go_wp2_with fail
          (with_reducible refine HSO.out.mono ?_)
          rintro e w4 ⟨rfl, ho4, hg4⟩
          obtain ⟨s1, s2, s3⟩ := OwnS.at_ ho4 HNL.out
          have hB4 := hB.out.grown hg4 hB.out.size HLOW.out
          have HS1 := Lib.hid s1
          have HM1 := Lib.hid (Nat.le_trans s2 s3)
          have HB4 := Lib.hid hB4
          have HCN := Lib.hid (idxCount_is w4 (HI.out.below hB4) ⟨gs, HGS.out⟩ HTN.out HTB.out)
          clear ho4 hg4 s1 s2 s3 hB4 HSO hB
          go_wp2_with fail
          (with_reducible refine HCN.out.mono ?_)
          rintro e w5 ⟨rfl, hb5⟩
          have HB5 := Lib.hid (HB4.out.trans (hb5.mono HB4.out.size))
          have HS5 := Lib.hid (HS1.out.below hb5)
          have HKY := Lib.hid (idxKeys_is w5 (HI.out.below HB5.out) HGS.out HGL.out)
          clear hb5 HCN HS1
          go_wp2_with fail
          (with_reducible refine HKY.out.mono ?_)
          rintro e w6 ⟨A6, k6, c6, ks, rfl, hks, hkl, hks6, hkm, hb6⟩
          obtain rfl : ks = namesIn ss := hks.ext HIK.out
          obtain rfl : k6 = m := hkl.out.symm.trans HNL.out
          have hEQ := eqS_is (b := true) A6 Av (namesIn ss) (namesIn ss) c6 cv w6 hks6.out (HS5.out.below hb6.out) (by rw [HNL.out]; exact HM1.out) (by rw [HNL.out]; exact HM1.out) (by simp)
          rw [HNL.out] at hEQ
          have HEQ := Lib.hid hEQ
          have HB6 := Lib.hid (HB5.out.trans (hb6.out.mono HB5.out.size))
          clear hks hkl hks6 hkm hb6 hEQ HKY HS5
          go_wp2_with fail
          (with_reducible refine HEQ.out.mono ?_)
          rintro e w7 ⟨rfl, hb7⟩
          have HB7 := Lib.hid (HB6.out.trans (hb7.mono HB6.out.size))
          clear hb7 HEQ
          go_wp2_with fail
          go_ret
          exact ⟨rfl, HB7.out⟩
        · intro x
          constructor
          all_goals
            intro kl y1 y2 w4 cnt4 hkey hlk hR hat hrg4 hlt4 hg4 hs4 hen
            obtain ⟨x', ex, rfl, _⟩ := Maps.keyOf_str Tryd.underlying9 hkey
            obtain rfl : x = x' := encStr_inj ex
            have hrow4 := hrow.kept hg4 (Or.inr (row_ne_iter hrow hrg).symm)
            have HB4 := Lib.hid (hB.out.grown hg4 hB.out.size (fun j hj => by cases hj; omega))
            have HCS := Lib.hid (hC.out.step hlk hat)
            have hw4 : r2 ≤ w4.heap.size := by omega
            have hww : w.heap.size ≤ w4.heap.size := by omega
            clear hkey hlk hR hat hg4 hs4 hB hC hrs hrow ex
            go_wp2_with (at_builtin; refine wpList_append_own _ rfl _ _ 25 rfl r2 9 i0 (.string ⟨#[]⟩) 1 16 Tryd.underlying25 hi hz0 hz1 hz2 rfl (by decide) _ _ _ rfl (hrow4.alloc _) ⟨w4.heap.size, 0, none⟩ 1 1 [encStr x] rfl rfl ?cc (by simp [Value.oneCell', encStr]) ?c1 ?c2 ?c3 ?_)
            case cc => intro j u hj; rw [addr_at]; match j, hj with | 0, hj => cases hj; simp [go_sem] | j + 1, hj => simp at hj
            case c1 => unfold maxLen; omega
            case c2 => omega
            case c3 => simp; omega
            intro v' w5 hown5 hg5 _
            have hr5 : w5.ranges Tryd.prog 9 (plainElem Tryd.prog 4) bk r2 nk Dk _ cnt4 := (hrg4.alloc _).kept hg5 (row_ne_low hrow4 hkw) (row_ne_iter hrow4 hrg4)
            have hR5 := Lib.hid hr5
            have HB5 := Lib.hid ((HB4.out.alloc hww _).grown hg5 (HB4.out.alloc hww _).size (fun j hj => by have := (hrow4.lt j hj).1; omega))
            have hs5 : r2 ≤ w5.heap.size := by have := hg5.size; simp at this; omega
            clear hr5 hg5 hrow4
            go_wp2_with fail
            go_roundw
            case rel => exact ⟨_, cnt4, ss ++ [x], hR5.out, by simp; omega, by simpa using hown5, HCS.out, HB5.out, hs5⟩
            case measure => rw [hR5.out.left_eq, hrg.left_eq]; exact hlt4
    · intro f c kl y ps w3 cnt' hkey hlk hv hat hrg3 hlt3 hg3 hs3 hent
      have hy : y = .held c := (Prod.mk.inj (raw_inv c (y, ps) hv)).1
      have hat2 : ∀ z, D.atKey kl z = .held c := fun z => by rw [hat z, hy]
      obtain ⟨r1, r2⟩ := HRD.out f kl hkey
      have hcV : c = V f := by
        have := (hat2 (.held nilS)).symm.trans r1
        injection this
      have hH : H f = true := by rw [← r2]; exact has_true_of_atKey hat2
      have hfd := (HFIN.out f hH).2
      have hstep := HMT.out.step hkey hlk hH
      obtain ⟨A, cc, hVf⟩ := (HIM.out.rows.row f).form
      have hro := HIM.out.rows.row f
      rw [hVf] at hro
      obtain ⟨s1, s2, s3⟩ := OwnS.sl hro
      rw [hcV, hVf] at hent ⊢
      have hsum : countOf X fs + (X f).length ≤ N := by
        rw [← countOf_snoc]
        exact HSUM.out _ hstep.nodup fun g hg => (hstep.sound g hg).1
      have hfg : fs.length ≤ gs.length := nodup_len HMT.out.nodup fun g hg => (HGS.out.mem g).2 (HFIN.out g (HMT.out.sound g hg).1).1
      obtain ⟨q, hq⟩ : ∃ q, countOf X fs = q := ⟨_, rfl⟩
      obtain ⟨l, hl⟩ : ∃ l, X f = l := ⟨_, rfl⟩
      obtain ⟨ll, hll⟩ : ∃ ll, l.length = ll := ⟨_, rfl⟩
      have hnx : countOf X (fs ++ [f]) = q + ll := by rw [countOf_snoc, hq, hl, hll]
      rw [hq, hl, hll] at hsum
      rw [hq]
      rw [hl] at s1 s2
      rw [hll] at s2
      rw [hl, hll] at hent ⊢
      have hTB := HTB.out
      have hw1 : wrap64 ((q : Int) + (ll : Int)) = (q : Int) + (ll : Int) := by unfold wrap64; omega
      have hb3 : Below w.heap.size w w3 := HB.out.grown hg3 HB.out.size (fun j hj => by cases hj; have h1 := HRK.out; have h2 := HBK.out; omega)
      obtain ⟨W4, hW4⟩ : ∃ W4, W4 = w3.alloc (.cells #[.string f.key, .string f.val] 24) := ⟨_, rfl⟩
      have hb34 : Below w3.heap.size w3 W4 := by rw [hW4]; exact (Below.refl _ _).alloc (Nat.le_refl _) _
      have hb4 : Below w.heap.size w W4 := hb3.trans (hb34.mono hb3.size)
      have x0 : W4.cell? ⟨w3.heap.size, 0, none⟩ = some (.string f.key) := by rw [hW4]; simp [go_sem]
      have hrg4 : W4.ranges Tryd.prog 24 rawE b rr nn D (fun z => left z && !z.sameKey kl) cnt' := by rw [hW4]; exact hrg3.alloc _
      have hns4 : NSet W4 bk nk Dk (keysOf fs) := (⟨HNS.out.own.kept hg3 (fun e => by cases e; have := HRK.out; omega), HNS.out.has, HNS.out.all⟩ : NSet w3 bk nk Dk (keysOf fs)).keep hb34
      have hbyL : byX X f = l := by unfold byX; rw [if_pos hfd, hl]
      have hbyE : byE f = 0 := by unfold byE; rw [if_pos hfd]
      have hBY := idxBy_is f W4 (HI.out.below hb4) (HLEN.out f) hbyL hbyE
      have hksz : f.key.size ≤ maxLen := (short_fd hfd).1
      have HSTEP := Lib.hid hstep
      have HNX := Lib.hid hnx
      have HRG := Lib.hid hrg
      have HRG4 := Lib.hid hrg4
      have HLT := Lib.hid hlt3
      have HNS4 := Lib.hid hns4
      have HB4 := Lib.hid hb4
      have HX0 := Lib.hid x0
      have HS1 := Lib.hid s1
      have HL1 := Lib.hid hll
      have HL2 := Lib.hid (Nat.le_trans s2 s3)
      have HBY := Lib.hid hBY
      have HKS := Lib.hid hksz
      have HFG := Lib.hid hfg
      have HW4 := Lib.hid hW4
      have hlw : rr < W4.heap.size := hrg4.lt
      clear hy hat2 r1 r2 hcV hH hfd hstep hVf hro s1 s2 s3 hq hl hll hnx hb3 hb34 hb4 x0 hrg4 hns4 hbyL hbyE hBY hksz hrg hrg3 hkey hlk hv hat hg3 hs3 hlt3 hfg hsum hTB hW4
      go_wp2_with fail
      rw [← HW4.out]
      (with_reducible refine HBY.out.mono ?_)
      rintro e w5 ⟨A5, k5, c5, rfl, hk5, ho5, hb5⟩
      obtain ⟨t1, t2, t3⟩ := OwnS.at_ ho5 hk5
      obtain rfl : k5 = ll := hk5.symm.trans HL1.out
      have hEQ := eqS_is (b := true) A5 A l l c5 cc w5 t1 ((HS1.out.below HB4.out).below hb5) (by rw [HL1.out]; exact HL2.out) (by rw [HL1.out]; exact HL2.out) (by simp)
      rw [HL1.out] at hEQ
      have HEQ := Lib.hid hEQ
      have x5 := (hb5.cell (p := ⟨w3.heap.size, 0, none⟩) (cell_lt HX0.out)).trans HX0.out
      have HX5 := Lib.hid x5
      have hrg5 := HRG4.out.kept (row := none) (grown_of_below hb5) (by simp) (by simp)
      have HRG5 := Lib.hid hrg5
      have HNS5 := Lib.hid (HNS4.out.keep hb5)
      have HB5 := Lib.hid (HB4.out.trans (hb5.mono HB4.out.size))
      clear hk5 ho5 t1 t2 t3 hEQ x5 hrg5 hb5 HBY
      go_wp2_with fail
      (with_reducible refine HEQ.out.mono ?_)
      rintro e w6 ⟨rfl, hb6⟩
      have x6 := (hb6.cell (p := ⟨w3.heap.size, 0, none⟩) (cell_lt HX5.out)).trans HX5.out
      have hrg6 := HRG5.out.kept (row := none) (grown_of_below hb6) (by simp) (by simp)
      have hB6 := HB5.out.trans (hb6.mono HB5.out.size)
      obtain ⟨w7, D7, hup, hns7, hg7⟩ := (HNS5.out.keep hb6).note (by have h1 := HNK.out; have h2 := HFG.out; have h3 := HGL.out; unfold maxLen; omega) f.key HKS.out
      have hrg7 := hrg6.kept hg7 (fun e => by cases e; have h1 := HBLT.out; have h2 := HBK.out; omega) (fun e => by cases e; have h1 := HRK.out; omega)
      have HRG7 := Lib.hid hrg7
      have HNS7 := Lib.hid hns7
      have HB7 := Lib.hid (hB6.grown hg7 hB6.size (fun j hj => by cases hj; rw [HBK.out]; exact Nat.le_refl _))
      clear hb6 HEQ hrg6 hB6 hns7 hg7 hrg7
      go_wp2_with fail
      go_roundw
      case rel => exact ⟨_, cnt', nk + 1, fs ++ [f], D7, by rw [HNX.out]; go_num, HRG7.out, HSTEP.out, HNS7.out.congr (keysOf_snoc fs f), (by show nk + 1 ≤ _; rw [List.length_append]; have := HNK.out; simp; omega), HB7.out⟩
      case measure => rw [HRG7.out.left_eq, HRG.out.left_eq]; exact HLT.out
end Go.Proofs.YtodlabohijabnaaDoor

namespace Go.Proofs.YtodlabohijabnaaDoor
open Go.RowKit Go.Sort Go.Maps Go.WideShapes

open Classical in
theorem nodup_full {α : Type} : ∀ {l m : List α}, l.Nodup → (∀ x ∈ l, x ∈ m) → m.length ≤ l.length → ∀ x ∈ m, x ∈ l := by
  intro l
  induction l with
  | nil =>
    intro m _ _ hl x hx
    have : m = [] := List.eq_nil_of_length_eq_zero (Nat.le_zero.1 hl)
    rw [this] at hx
    cases hx
  | cons a r ih =>
    intro m hn hs hl x hx
    obtain ⟨h1, h2⟩ := List.nodup_cons.1 hn
    by_cases e : x = a
    · rw [e]; exact List.mem_cons_self
    · have ha := hs a List.mem_cons_self
      refine List.mem_cons_of_mem _ (ih (m := m.erase a) h2 (fun y hy => (List.mem_erase_of_ne (fun k => h1 (by rw [← k]; exact hy))).2 (hs y (List.mem_cons_of_mem _ hy))) ?_ x ((List.mem_erase_of_ne e).2 hx))
      rw [List.length_erase_of_mem ha]
      rw [List.length_cons] at hl
      omega
theorem has_mem {l : List (Lit × DataW Value)} {k : Lit} (hl : ∀ p ∈ l, WideAt.IsKeyLit p.1) : k ∈ l.map Prod.fst ↔ (WideAt.IsKeyLit k ∧ has (.map l) k = true) := by
  rw [has_eq, List.any_eq_true, List.mem_map]
  constructor
  · rintro ⟨p, hp, rfl⟩
    exact ⟨hl p hp, p, hp, WideAt.sameKey_self (hl p hp)⟩
  · rintro ⟨_, p, hp, hk⟩
    exact ⟨p, hp, WideAt.sameKey_eq hk⟩
theorem size_full {D D' : DataW Value} (h1 : Canon D) (h2 : Canon D') (hh : ∀ k, has D k = true → has D' k = true) (hs : size D = size D') {k : Lit} (hk : WideAt.IsKeyLit k) (h : has D' k = true) : has D k = true := by
  obtain ⟨es, rfl, s1, k1⟩ := h1
  obtain ⟨es', rfl, s2, k2⟩ := h2
  rw [size_eq, size_eq] at hs
  have hn : (es.map Prod.fst).Nodup := List.pairwise_map.2 (Maps.apart_of_rising s1)
  have := nodup_full (l := es.map Prod.fst) (m := es'.map Prod.fst) hn (fun x hx => by
    obtain ⟨hx1, hx2⟩ := (has_mem k1).1 hx
    exact (has_mem k2).2 ⟨hx1, hh x hx2⟩) (by rw [List.length_map, List.length_map]; omega) k ((has_mem k2).2 ⟨hk, h⟩)
  exact ((has_mem k1).1 this).2
/-- as many entries, and each of the one is one of the other: each of the other is one of the one -/
theorem imap_full {w w' : World} {b n b' n' : Nat} {D D' : DataW Value} {H H' : FieldL → Bool} {V V' : FieldL → Value} (h : mIdx w b n D) (h' : mIdx w' b' n' D') (r : Reads D H V) (r' : Reads D' H' V') (hh : ∀ f, H f = true → H' f = true) (hs : size D = size D') {f : FieldL} (hf : f.short) (hf' : H' f = true) : H f = true := by
  obtain ⟨k, hk⟩ := fd_key f hf
  rw [← (r f k hk).2]
  refine size_full (h.canon lawFd) (h'.canon lawFd) (fun k hk => ?_) hs (lawFd.key hk) (by rw [(r' f k hk).2]; exact hf')
  obtain ⟨g, hg⟩ := has_field h hk
  rw [(r g k hg).2] at hk
  rw [(r' g k hg).2]
  exact hh g hk

theorem IMap.look_no {w : World} {B b n : Nat} {X : SaysX} {H : FieldL → Bool} {V : FieldL → Value} (h : IMap w B b n X H V) {f : FieldL} (hf : f.short) (hH : H f = false) :
    ∃ v, (Instr.lookup 45 (.map (some b)) (.agg #[.string f.key, .string f.val]) true).run Tryd.prog w = .ok (.tuple #[v, .bool false]) w := by
  obtain ⟨D, h1, k1⟩ := h.m
  obtain ⟨k, hk⟩ := fd_key f hf
  obtain ⟨v, ps, hrun, hv⟩ := h1.look_ok lawFd Tryd.underlying45 (zeroStrs w) (zd := .held nilS) (zp := []) rfl hk
  rw [(k1 f k hk).2, hH] at hrun
  exact ⟨v, hrun⟩

set_option maxHeartbeats 4000000 in
theorem eqFunc_diff {B b n B' b' n' : Nat} {X Y : SaysX} {H H' : FieldL → Bool} {V V' : FieldL → Value} (w : World) (h : IMap w B b n X H V) (h' : IMap w B' b' n' Y H' V') (hf : ∀ f, H f = true → X f ≠ [] ∧ isFd f = true) (hf' : ∀ f, H' f = true → Y f ≠ [] ∧ isFd f = true)
    (hlen : ∀ f, (X f).length ≤ 1000000) (hlen' : ∀ f, (Y f).length ≤ 1000000) (hne : X ≠ Y) :
    Calls Tryd.prog 58 #[.map (some b), .map (some b'), .func (.func 13) #[] #[]] w fun e w' => e = .returned (.bool false) ∧ Below w.heap.size w w' := by
  obtain ⟨D, hown, hrd⟩ := h.m
  obtain ⟨D', hown', hrd'⟩ := h'.m
  have l1 := fun ty => hown.len Tryd.underlying45 ty
  have l2 := fun ty => hown'.len Tryd.underlying45 ty
  by_cases hsz : size D = size D'
  · have hbad : ¬ (∀ f, H f = true → H' f = true ∧ X f = Y f) := fun hall => hne (funext fun f => by
      cases e : H f with
      | true => exact (hall f e).2
      | false =>
        rw [h.rows.off f e]
        cases e' : H' f with
        | false => exact (h'.rows.off f e').symm
        | true =>
          have := imap_full hown hown' hrd hrd' (fun g hg => (hall g hg).1) hsz (short_fd (hf' f e').2) e'
          rw [e] at this
          cases this)
    rw [← hsz] at l2
    have HRD := Lib.hid hrd
    have HH := Lib.hid h
    have HH' := Lib.hid h'
    have HF := Lib.hid hf
    have HBAD := Lib.hid hbad
    have HLN := Lib.hid hlen
    have HLN' := Lib.hid hlen'
    clear hsz hrd hrd' h h' hf hf' hlen hlen' hown' hne hbad
    go_enter Tryd.func58, Tryd.ntmps58
    go_wp2_with (at_range; refine wpList_range_own _ rfl _ 45 rfl 24 25 lawFd Tryd.underlying45 rawE b n D rfl hown ?_; intro w2 hrg0 hg0 hs0)
    go_frame
    have hB2 : Below w.heap.size w w2 := (Below.refl _ _).grown hg0 (Nat.le_refl _) (fun j hj => by cases hj)
    have HB2 := Lib.hid hB2
    have hlb := hown.lt
    obtain ⟨rr, hr⟩ : ∃ rr, rr = w.heap.size := ⟨_, rfl⟩
    rw [← hr] at hrg0 hs0 ⊢
    have HRR := Lib.hid hr
    clear hg0 hB2 hr l1 l2 hown
    go_loopw [] (fun wq => ∃ (left : Lit → Bool) (cnt : Nat) (fs : List FieldL), wq.ranges Tryd.prog 24 rawE b rr n D left cnt ∧ Hid (Met H left fs) ∧ Hid (∀ f ∈ fs, H' f = true ∧ X f = Y f) ∧ Hid (Below w.heap.size w wq)) (fun wq => wq.rangeLeft b rr)
    case atStart => exact ⟨_, _, [], hrg0, Met.start HRD.out, (fun f hf => by cases hf), HB2.out⟩
    case round =>
      clear hrg0 HB2 hs0
      obtain ⟨left, cnt, fs, hrg, HM, HEQF, HB⟩ := hrel
      go_wp2_with (at_next; refine wpList_next_ranges _ rfl _ rfl 24 lawFd rawE (fun f : FieldL => f.v) (fun v : Value => v) (fun key kl hk => by obtain ⟨f, e⟩ := fd_inv hk; exact ⟨f, e⟩) (fun v y hv => ⟨v, rfl⟩) b rr n _ _ _ rfl hrg ?_ ?_)
      · intro _ hl0
        exfalso
        refine HBAD.out fun f hH => ?_
        obtain ⟨k, hk⟩ := fd_key f (short_fd (HF.out f hH).2)
        rcases HM.out.full f k hk hH with h6 | h6
        · rw [hl0 k] at h6
          cases h6
        · exact HEQF.out f h6
      · intro f c kl y ps w3 cnt' hkey hlk hv hat hrg3 hlt3 hg3 hs3 hent
        have hy : y = .held c := (Prod.mk.inj (raw_inv c (y, ps) hv)).1
        have hat2 : ∀ z, D.atKey kl z = .held c := fun z => by rw [hat z, hy]
        obtain ⟨r1, r2⟩ := HRD.out f kl hkey
        have hcV : c = V f := by
          have := (hat2 (.held nilS)).symm.trans r1
          injection this
        have hH : H f = true := by rw [← r2]; exact has_true_of_atKey hat2
        have hstep := HM.out.step hkey hlk hH
        have hsf := short_fd (HF.out f hH).2
        have hb3 : Below w.heap.size w w3 := HB.out.grown hg3 HB.out.size (fun j hj => by cases hj; rw [HRR.out]; exact Nat.le_refl _)
        obtain ⟨A, cc, hVf⟩ := (HH.out.rows.row f).form
        obtain ⟨A', cc', hVf'⟩ := (HH'.out.rows.row f).form
        have hro := HH.out.rows.row f
        have hro' := HH'.out.rows.row f
        rw [hVf] at hro
        rw [hVf'] at hro'
        obtain ⟨W4, hW4⟩ : ∃ W4, W4 = w3.alloc (.cells #[.string f.key, .string f.val] 24) := ⟨_, rfl⟩
        have hb4 : Below w.heap.size w W4 := by rw [hW4]; exact hb3.alloc hb3.size _
        obtain ⟨s1, s2, s3⟩ := OwnS.sl hro
        obtain ⟨s1', s2', s3'⟩ := OwnS.sl hro'
        obtain ⟨t, ht⟩ : ∃ t, decide (X f = Y f) = t := ⟨_, rfl⟩
        have hEQ := eqS_is (b := t) A A' (X f) (Y f) cc cc' W4 (s1.below hb4) (s1'.below hb4) (Nat.le_trans s2 s3) (Nat.le_trans s2' s3') ht
        have hrg4 : W4.ranges Tryd.prog 24 rawE b rr n D (fun z => left z && !z.sameKey kl) cnt' := by rw [hW4]; exact hrg3.alloc _
        rw [hcV, hVf] at hent ⊢
        obtain ⟨l, hl⟩ : ∃ l, (X f).length = l := ⟨_, rfl⟩
        obtain ⟨l', hl'⟩ : ∃ l', (Y f).length = l' := ⟨_, rfl⟩
        have hlk3 := fun (k : H' f = true) => (HH'.out.below hb4).look_ok hsf k
        have hlk4 := fun (k : H' f = false) => (HH'.out.below hb4).look_no hsf k
        rw [hVf', hl', hW4] at hlk3
        rw [hW4] at hlk4
        rw [hl] at hent ⊢
        rw [hl, hl'] at hEQ
        have HEQ := Lib.hid hEQ
        have HRG := Lib.hid hrg
        have HRG4 := Lib.hid hrg4
        have HB4 := Lib.hid hb4
        have HLT := Lib.hid hlt3
        have HTT := Lib.hid ht
        have HSTEP := Lib.hid hstep
        have HLK3 := Lib.hid hlk3
        have HLK4 := Lib.hid hlk4
        have HW4 := Lib.hid hW4
        have hrw : rr < W4.heap.size := by have := hrg4.lt; exact this
        clear hy hat2 r1 r2 hcV hH hsf hb3 hVf hVf' hro hro' hW4 hb4 s1 s2 s3 s1' s2' s3' hEQ hl hl' hrg hrg3 hrg4 hkey hlk hv hat hg3 hs3 hlt3 ht hstep hlk3 hlk4
        cases hHf : H' f with
        | false =>
          obtain ⟨v, hlook⟩ := HLK4.out hHf
          clear hHf
          go_wp2_with fail
          go_ret
          exact ⟨rfl, by rw [← HW4.out]; exact HB4.out⟩
        | true =>
          have hlook := HLK3.out hHf
          have HHF := Lib.hid hHf
          clear hHf
          cases t with
          | false =>
            go_wp2_with fail
            rw [← HW4.out]
            (with_reducible refine HEQ.out.mono ?_)
            rintro e w5 ⟨rfl, hb5⟩
            have HB5 := Lib.hid (HB4.out.trans (hb5.mono HB4.out.size))
            clear hb5 hlook
            go_wp2_with fail
            go_ret
            exact ⟨rfl, HB5.out⟩
          | true =>
            go_wp2_with fail
            rw [← HW4.out]
            (with_reducible refine HEQ.out.mono ?_)
            rintro e w5 ⟨rfl, hb5⟩
            have hrg5 := HRG4.out.kept (row := none) (grown_of_below hb5) (by simp) (by simp)
            have HRG5 := Lib.hid hrg5
            have HB5 := Lib.hid (HB4.out.trans (hb5.mono HB4.out.size))
            clear hb5 hrg5 hlook
            go_wp2_with fail
            go_roundw
            case rel =>
              refine ⟨_, cnt', fs ++ [f], HRG5.out, HSTEP.out, fun g hg => ?_, HB5.out⟩
              rcases List.mem_append.1 hg with hg | hg
              · exact HEQF.out g hg
              · rw [List.mem_singleton] at hg
                rw [hg]
                exact ⟨HHF.out, of_decide_eq_true HTT.out⟩
            case measure => rw [HRG5.out.left_eq, HRG.out.left_eq]; exact HLT.out
  · have hz : ((size D : Int) == (size D' : Int)) = false := by
      simp only [beq_eq_false_iff_ne, ne_eq]
      omega
    have hz2 : ¬ (size D : Int) = (size D' : Int) := by omega
    clear h h' hf hf' hlen hlen' hne hrd hrd' hown hown'
    go_enter Tryd.func58, Tryd.ntmps58
    go_wp2_with fail
    go_ret
    exact ⟨rfl, Below.refl _ _⟩
theorem eqFunc_len (w : World) (m m' : Option Nat) (L L' : Nat) (h1 : ∀ ty, (Builtin.len_ #[45] ty #[.map m]).run Tryd.prog w = .ok (.int .i64 (L : Int)) w) (h2 : ∀ ty, (Builtin.len_ #[45] ty #[.map m']).run Tryd.prog w = .ok (.int .i64 (L' : Int)) w) (hne : L ≠ L') :
    Calls Tryd.prog 58 #[.map m, .map m', .func (.func 13) #[] #[]] w fun e w' => e = .returned (.bool false) ∧ Below w.heap.size w w' := by
  have hz : ((L : Int) == (L' : Int)) = false := by
    simp only [beq_eq_false_iff_ne, ne_eq]
    omega
  have hz2 : ¬ (L : Int) = (L' : Int) := by omega
  go_enter Tryd.func58, Tryd.ntmps58
  go_wp2_with fail
  go_ret
  exact ⟨rfl, Below.refl _ _⟩
theorem size_some {w : World} {b n : Nat} {D : DataW Value} {H : FieldL → Bool} {V : FieldL → Value} (h : mIdx w b n D) (r : Reads D H V) {f : FieldL} (hf : f.short) (hH : H f = true) : 0 ≠ size D := fun e => by
  obtain ⟨k, hk⟩ := fd_key f hf
  have := size_full (D := .map []) (D' := D) canon_empty (h.canon lawFd) (fun k hk => by cases hk) e (lawFd.key hk) (by rw [(r f k hk).2]; exact hH)
  cases this
/-- two indexes that don't say the same: their maps are not equal -/
theorem idxDiff_is {S p M S' p' M' : Nat} {X Y : SaysX} {w : World} (h : Idx w S p M X) (h' : Idx w S' p' M' Y) (hlen : ∀ f, (X f).length ≤ 1000000) (hlen' : ∀ f, (Y f).length ≤ 1000000) (hne : X ≠ Y) :
    ∃ m m', w.cell? ⟨p, 0, none⟩ = some (.map m) ∧ w.cell? ⟨p', 0, none⟩ = some (.map m') ∧
      Calls Tryd.prog 58 #[.map m, .map m', .func (.func 13) #[] #[]] w fun e w' => e = .returned (.bool false) ∧ Below w.heap.size w w' := by
  have hex : ∀ {B b n : Nat} {Z : SaysX} {H : FieldL → Bool} {V : FieldL → Value}, IMap w B b n Z H V → (∀ f, H f = true → Z f ≠ [] ∧ isFd f = true) → Z ≠ (fun _ => []) → ∃ D, mIdx w b n D ∧ 0 ≠ size D := fun {B b n Z H V} hm hf hz => by
    obtain ⟨D, h1, h2⟩ := hm.m
    by_cases hall : ∀ f, H f = false
    · exact absurd (funext fun f => hm.rows.off f (hall f)) hz
    · obtain ⟨f, hf2⟩ := Classical.not_forall.1 hall
      have hH : H f = true := by simpa using hf2
      exact ⟨D, h1, size_some h1 h2 (short_fd (hf f hH).2) hH⟩
  cases h with
  | bare c0 f0 hp hX =>
    have hX0 : X = fun _ => [] := funext hX
    cases h' with
    | bare c0' f0' hp' hX' => exact absurd (hX0.trans (funext hX').symm) hne
    | full h' =>
      obtain ⟨b, c0', f0', h1, h2, B, n, H, V, h3, h4, h5⟩ := h'
      obtain ⟨D, hown, hsz⟩ := hex h4 h5 (fun e => hne (by rw [hX0, e]))
      exact ⟨none, some b, c0, c0', eqFunc_len w none (some b) 0 (size D) (len_nil w) (fun ty => hown.len Tryd.underlying45 ty) hsz⟩
  | full h =>
    obtain ⟨b, c0, f0, h1, h2, B, n, H, V, h3, h4, h5⟩ := h
    cases h' with
    | bare c0' f0' hp' hX' =>
      have hY0 : Y = fun _ => [] := funext hX'
      obtain ⟨D, hown, hsz⟩ := hex h4 h5 (fun e => hne (by rw [hY0, e]))
      exact ⟨some b, none, c0, c0', eqFunc_len w (some b) none (size D) 0 (fun ty => hown.len Tryd.underlying45 ty) (len_nil w) (Ne.symm hsz)⟩
    | full h' =>
      obtain ⟨b', c0', f0', h1', h2', B', n', H', V', h3', h4', h5'⟩ := h'
      exact ⟨some b, some b', c0, c0', eqFunc_diff w h4 h4' h5 h5' hlen hlen' hne⟩

set_option maxHeartbeats 2000000 in
/-- Same, of whatever store -/
theorem same_is {S p M n : Nat} {X : SaysX} {t : Bool} {a : Option Addr} {vs : List VerL} (c : Nat) (w : World) (h : Idx w S p M X) (hv : VsAt w a n vs) (hst : stErr vs = 0) (hlen : ∀ f, (X f).length ≤ 1000000) (ht : X = newX vs ↔ t = true) :
    Calls Tryd.prog 25 #[.pointer (some ⟨p, 0, none⟩), .slice a n c] w fun e w' => e = .returned (.tuple #[.bool t, .int .i64 0]) ∧ Below w.heap.size w w' := by
  cases t with
  | true =>
    obtain rfl := ht.2 rfl
    exact same_ok c w h hv hst hlen
  | false =>
    have hne : X ≠ newX vs := fun e => by cases ht.1 e
    have HC := Lib.hid (new_ok c w hv hst)
    have HI := Lib.hid h
    have HLN := Lib.hid hlen
    have HLN' : Hid (∀ f, (newX vs f).length ≤ 1000000) := fun f => Nat.le_trans (newX_len vs f) (Nat.le_trans (stErr_ok.1 hst).1 (by omega))
    have HNE := Lib.hid hne
    clear h hv hst hlen ht hne
    go_enter Tryd.func25, Tryd.ntmps25
    go_wp2_with fail
    refine HC.out.mono ?_
    rintro e w1 ⟨p', rfl, hidx, hb1⟩
    have h1d : Below w1.heap.size w1 w1.drew := (Below.refl _ _).drew
    obtain ⟨mm, mm', c0, c1, hEQ⟩ := idxDiff_is ((HI.out.below hb1).below h1d) (hidx.below h1d) HLN.out HLN'.out HNE.out
    have k0 : w1.cell? ⟨p, 0, none⟩ = some (.map mm) := c0
    have k1 : w1.cell? ⟨p', 0, none⟩ = some (.map mm') := c1
    have HEQ := Lib.hid hEQ
    have HB1 := Lib.hid (hb1.trans (h1d.mono hb1.size))
    clear hidx hb1 h1d hEQ c0 c1 HC
    go_wp2_with fail
    go_region_with (go_at_call 58; (with_reducible refine HEQ.out.mono ?_); rintro e w' ⟨rfl, hb'⟩)
    all_goals
      have HB2 := Lib.hid (HB1.out.trans (hb'.mono HB1.out.size))
      clear hb'
      go_wp2_with fail
      go_ret2
      exact ⟨rfl, HB2.out⟩
end Go.Proofs.YtodlabohijabnaaDoor

namespace Go.Proofs.YtodlabohijabnaaDoor
open Go.RowKit Go.Sort Go.Maps

/-- block b is a map that says X; of the blocks Z none is its own -/
def MapZ (w : World) (b n : Nat) (X : SaysX) (Z : Nat → Prop) : Prop := ∃ H V, IMap w (b + 1) b n X H V ∧ (∀ f, H f = true → X f ≠ [] ∧ isFd f = true) ∧ (∀ g j, (V g).ownBlock = some j → ¬ Z j) ∧ ¬ Z b
theorem MapZ.says {w : World} {b n : Nat} {X : SaysX} {Z : Nat → Prop} (h : MapZ w b n X Z) : MapSays w (b + 1) b n X := by
  obtain ⟨H, V, h1, h2, _⟩ := h
  exact ⟨H, V, h1, h2⟩
theorem MapSays.low {w : World} {B b n : Nat} {X : SaysX} (h : MapSays w B b n X) : MapSays w (b + 1) b n X := by
  obtain ⟨H, V, h1, h2⟩ := h
  exact ⟨H, V, ⟨h1.m, ⟨fun f => own_low (h1.rows.row f) h1.lt, h1.rows.ap, h1.rows.off⟩, Nat.lt_succ_self b⟩, h2⟩
theorem MapZ.lt {w : World} {b n : Nat} {X : SaysX} {Z : Nat → Prop} (h : MapZ w b n X Z) : b < w.heap.size := by
  obtain ⟨H, V, h1, _⟩ := h
  exact h1.mlt
theorem MapZ.below {w w' : World} {b n : Nat} {X : SaysX} {Z : Nat → Prop} (h : MapZ w b n X Z) (hb : Below w.heap.size w w') : MapZ w' b n X Z := by
  obtain ⟨H, V, h1, h2, h3, h4⟩ := h
  exact ⟨H, V, h1.below hb, h2, h3, h4⟩
theorem MapZ.wide {w : World} {b n : Nat} {X : SaysX} {Z : Nat → Prop} (h : MapZ w b n X Z) : MapZ w b n X (fun z => Z z ∨ w.heap.size ≤ z) := by
  obtain ⟨H, V, h1, h2, h3, h4⟩ := h
  exact ⟨H, V, h1, h2, fun g j hj k => k.elim (h3 g j hj) (fun k => by have := (World.ownsRow.lt (h1.rows.row g) j hj).2; omega), fun k => k.elim h4 (fun k => by have := h1.mlt; omega)⟩
theorem MapZ.sub {w : World} {b n : Nat} {X : SaysX} {Z Z' : Nat → Prop} (h : MapZ w b n X Z) (hz : ∀ z, Z' z → Z z) : MapZ w b n X Z' := by
  obtain ⟨H, V, h1, h2, h3, h4⟩ := h
  exact ⟨H, V, h1, h2, fun g j hj k => h3 g j hj (hz _ k), fun k => h4 (hz _ k)⟩
theorem MapZ.congr {w : World} {b n : Nat} {X Y : SaysX} {Z : Nat → Prop} (h : MapZ w b n X Z) (e : X = Y) : MapZ w b n Y Z := e ▸ h
theorem mapZ_made (w : World) : MapZ (w.alloc (.map #[] 0)) w.heap.size 0 (fun _ => []) (fun z => z ≠ w.heap.size) := ⟨_, _, imap_made w, fun f h => (by cases h), fun g j h => (by cases h), fun k => k rfl⟩
theorem MapZ.keys {w : World} {b n : Nat} {X : SaysX} {Z : Nat → Prop} (h : MapZ w b n X Z) {f : FieldL} (hX : X f ≠ []) : isFd f = true := by
  obtain ⟨H, V, h1, h2, _⟩ := h
  cases e : H f with
  | true => exact (h2 f e).2
  | false => exact absurd (h1.rows.off f e) hX
/-- what stands at a field, and what becomes of the map when that list is turned in its place -/
theorem MapZ.look {w : World} {b n : Nat} {X : SaysX} {Z : Nat → Prop} (h : MapZ w b n X Z) {f : FieldL} (hf : isFd f = true) :
    ∃ (A : Option Addr) (c : Nat), Hid (∀ wd : World, Below w.heap.size w wd → (Instr.lookup 45 (.map (some b)) (.agg #[.string f.key, .string f.val]) false).run Tryd.prog wd = .ok (.slice A (X f).length c) wd) ∧ Hid (OwnS (b + 1) w (.slice A (X f).length c) (X f)) ∧ Hid (∀ j, A.map (·.block) = some j → ¬ Z j ∧ b < j) ∧
      Hid (X f ≠ [] → ∀ (w' : World) (l : List ByteArray), l ≠ [] → w.grownBy w' (A.map (·.block)) → OwnS (b + 1) w' (.slice A (X f).length c) l → MapZ w' b n (putX X f l) Z) := by
  obtain ⟨H, V, h1, h2, h3, h4⟩ := h
  obtain ⟨A, c, hV⟩ := (h1.rows.row f).form
  have hrow := h1.rows.row f
  rw [hV] at hrow
  have hVo : (V f).ownBlock = A.map (·.block) := by rw [hV, ob]
  refine ⟨A, c, fun wd hb => ?_, hrow, fun j hj => ⟨h3 f j (by rw [hVo]; exact hj), by have := (World.ownsRow.lt hrow j (by rw [ob]; exact hj)).1; omega⟩, fun hX w' l hl hg ho => ?_⟩
  · have := (h1.below hb).look (short_fd hf)
    rw [hV] at this
    exact this
  · have hH : H f = true := by
      cases e : H f with
      | true => rfl
      | false => exact absurd (h1.rows.off f e) hX
    obtain ⟨D, k1, k2⟩ := h1.m
    have hbne : some b ≠ A.map (·.block) := fun e => by
      have := (World.ownsRow.lt hrow b (by rw [ob]; exact e.symm)).1
      omega
    refine ⟨H, V, ⟨⟨D, k1.kept hg hbne, k2⟩, ⟨fun g => ?_, h1.rows.ap, fun g hg0 => ?_⟩, h1.lt⟩, fun g hg0 => ?_, h3, h4⟩
    · unfold putX
      by_cases e : g = f
      · rw [if_pos e, e, hV]; exact ho
      · rw [if_neg e]
        refine World.ownsRow.kept (h1.rows.row g) hg ?_
        rw [← hVo]
        exact h1.rows.ap g f e
    · unfold putX
      by_cases e : g = f
      · rw [e, hH] at hg0; cases hg0
      · rw [if_neg e]; exact h1.rows.off g hg0
    · unfold putX
      by_cases e : g = f
      · rw [if_pos e, e]; exact ⟨hl, hf⟩
      · rw [if_neg e]; exact h2 g hg0
/-- m[f] = append(m[f], ..) -/
theorem MapZ.entry {w : World} {b n : Nat} {X : SaysX} {Z : Nat → Prop} (h : MapZ w b n X Z) (hz : ∀ z, Z z → z < w.heap.size) (hn : n < maxLen) {f : FieldL} (hf : isFd f = true) :
    ∃ (A : Option Addr) (c st : Nat) (w1 : World), (Instr.mapEntry 45 (.map (some b)) (.agg #[.string f.key, .string f.val])).run Tryd.prog w = .ok (.tuple #[.slice A (X f).length c, .int .i64 (st : Int)]) w1 ∧ Hid (w.grownBy w1 (some b)) ∧ Hid (OwnS (b + 1) w1 (.slice A (X f).length c) (X f)) ∧
      Hid (∀ j, A.map (·.block) = some j → ¬ Z j) ∧
      Hid (∀ (w5 : World) (v' : Value) (l : List ByteArray), l ≠ [] → OwnS (b + 1) w5 v' l → w1.grownBy w5 (Value.slice A (X f).length c).ownBlock → (v'.ownBlock = (Value.slice A (X f).length c).ownBlock ∨ v'.ownBlock = some w1.heap.size) →
        ∃ w6, (Instr.entryStore 45 (.map (some b)) (.int .i64 (st : Int)) v').run Tryd.prog w5 = .ok () w6 ∧ Hid (MapZ w6 b (n + 1) (putX X f l) Z) ∧ Hid (w5.grownBy w6 (some b))) := by
  obtain ⟨H, V, h1, h2, h3, h4⟩ := h
  obtain ⟨A, c, hV⟩ := (h1.rows.row f).form
  obtain ⟨st, w1, hrun, hg, hent⟩ := h1.entry hn (short_fd hf)
  have hlt := h1.lt
  have hrow := (h1.rows.grown hlt hg.out).row f
  have hVo : (V f).ownBlock = A.map (·.block) := by rw [hV, ob]
  rw [hV] at hrun hent hrow
  refine ⟨A, c, st, w1, hrun, hg, hrow, fun j hj => h3 f j (by rw [hVo]; exact hj), fun w5 v' l hl ho hg5 hat => ?_⟩
  obtain ⟨w6, hrun6, hm6, hg6⟩ := hent.out w5 v' l ho hg5 (by
    rcases hat with e | e
    · exact .inl e.symm
    · exact .inr fun j hj => by rw [e] at hj; cases hj; exact Nat.le_refl _)
  refine ⟨w6, hrun6, ⟨_, _, hm6.out, fun g hH => ?_, fun g j hj => ?_, h4⟩, hg6⟩
  · unfold putH at hH
    unfold putX
    by_cases e : g = f
    · rw [if_pos e, e]
      exact ⟨hl, hf⟩
    · rw [if_neg e] at hH ⊢
      exact h2 g hH
  · unfold putV at hj
    by_cases e : g = f
    · rw [if_pos e] at hj
      rcases hat with k | k
      · exact h3 f j (by rw [hV]; exact k.symm.trans hj)
      · rw [k] at hj
        cases hj
        intro hzj
        have h7 := hz _ hzj
        have h8 := hg.out.size
        omega
    · rw [if_neg e] at hj
      exact h3 g j hj
theorem own_keeps {B : Nat} {w w' : World} {v : Value} {l : List ByteArray} (h : OwnS B w v l) (hk : ∀ g, B ≤ g → g < w.heap.size → w'.heap[g]? = w.heap[g]?) : OwnS B w' v l :=
  ⟨h.1, h.2.imp id fun ⟨g, cap, cur, e, hb, hg, r⟩ => ⟨g, cap, cur, e, hb, (hk g hb (Array.getElem?_eq_some_iff.1 hg).1).trans hg, r⟩⟩
/-- a map whose blocks all lie from T on -/
theorem MapSays.keeps {w w' : World} {B b n T : Nat} {X : SaysX} {Z : Nat → Prop} (h : MapSays w B b n X) (hT : T ≤ b) (k : Keeps Z w w') (hz : ∀ z, T ≤ z → z < w.heap.size → Z z) : MapSays w' B b n X := by
  obtain ⟨H, V, ⟨⟨D, ⟨es, clock, hb, r⟩, k2⟩, h3, h4⟩, h5⟩ := h
  have hbl : b < w.heap.size := (Array.getElem?_eq_some_iff.1 hb).1
  refine ⟨H, V, ⟨⟨D, ⟨es, clock, (k.block b (hz b hT hbl) hbl).trans hb, r⟩, k2⟩, ⟨fun f => own_keeps (h3.row f) fun g hg hl => k.block g (hz g (by omega) hl) hl, h3.ap, h3.off⟩, h4⟩, h5⟩
theorem MapZ.other {w w' : World} {b n z : Nat} {X : SaysX} {Z : Nat → Prop} (h : MapZ w b n X Z) (hg : w.grownBy w' (some z)) (hz : Z z) : MapZ w' b n X Z := by
  obtain ⟨H, V, h1, h2, h3, h4⟩ := h
  obtain ⟨D, k1, k2⟩ := h1.m
  refine ⟨H, V, ⟨⟨D, k1.kept hg (fun e => by cases e; exact h4 hz), k2⟩, ⟨fun f => World.ownsRow.kept (h1.rows.row f) hg ?_, h1.rows.ap, h1.rows.off⟩, h1.lt⟩, h2, h3, h4⟩
  cases hv : (V f).ownBlock with
  | none => exact .inl rfl
  | some k => exact .inr fun e => by cases e; exact h3 f _ hv hz
/-- one name more at a field, and nothing of Z has turned -/
theorem MapZ.add {w : World} {b n : Nat} {X : SaysX} {Z : Nat → Prop} (h : MapZ w b n X Z) (hz : ∀ z, Z z → z < w.heap.size) (hn : n < maxLen) {f : FieldL} (hf : isFd f = true) :
    ∃ (A : Option Addr) (c st : Nat) (w1 : World), (Instr.mapEntry 45 (.map (some b)) (.agg #[.string f.key, .string f.val])).run Tryd.prog w = .ok (.tuple #[.slice A (X f).length c, .int .i64 (st : Int)]) w1 ∧ Hid (w1.ownsRow (b + 1) 9 1 (.slice A (X f).length c) (X f).length (cellsS (X f))) ∧ Hid (Keeps Z w w1) ∧ Hid (b + 1 ≤ w1.heap.size) ∧
      Hid (∀ (w5 : World) (v' : Value) (l : List ByteArray), l ≠ [] → OwnS (b + 1) w5 v' l → w1.grownBy w5 (Value.slice A (X f).length c).ownBlock → (v'.ownBlock = (Value.slice A (X f).length c).ownBlock ∨ v'.ownBlock = some w1.heap.size) →
        ∃ w6, (Instr.entryStore 45 (.map (some b)) (.int .i64 (st : Int)) v').run Tryd.prog w5 = .ok () w6 ∧ Hid (MapZ w6 b (n + 1) (putX X f l) Z) ∧ Hid (Keeps Z w w6)) := by
  have hbz : ¬ Z b := by obtain ⟨H, V, _, _, _, h4⟩ := h; exact h4
  have hbl := h.lt
  obtain ⟨A, c, st, w1, h1, h2, h3, h4, h5⟩ := h.entry hz hn hf
  have hk1 : Keeps Z w w1 := Keeps.grown h2.out fun z k e => by cases e; exact hbz k
  refine ⟨A, c, st, w1, h1, h3.out, hk1, (Nat.le_trans hbl h2.out.size : b + 1 ≤ w1.heap.size), fun w5 v' l hl ho hg hat => ?_⟩
  obtain ⟨w6, k1, k2, k3⟩ := h5.out w5 v' l hl ho hg hat
  refine ⟨w6, k1, k2, (hk1.trans (Keeps.grown hg fun z k e => ?_)).trans (Keeps.grown k3.out fun z k e => by cases e; exact hbz k)⟩
  rw [ob] at e
  exact h4.out z e.symm k
theorem ranges_congr {H : Type} {P : Program} {k : TypeId} {R : Value → Option (DataW H × List MemPlace)} {w w' : World} {b r n cnt : Nat} {D : DataW H} {left : Lit → Bool} (h : w.ranges P k R b r n D left cnt) (e1 : w'.heap[b]? = w.heap[b]?) (e2 : w'.heap[r]? = w.heap[r]?) : w'.ranges P k R b r n D left cnt := by
  obtain ⟨es, clock, since, seen, c0, hb, F, hs, hD, hr, x1, x2, x3, x4, x5, x6⟩ := h
  exact ⟨es, clock, since, seen, c0, e1.trans hb, F, hs, hD, e2.trans hr, x1, x2, x3, x4, x5, x6⟩
end Go.Proofs.YtodlabohijabnaaDoor
