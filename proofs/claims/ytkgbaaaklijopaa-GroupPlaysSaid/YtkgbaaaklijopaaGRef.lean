/- The document's answer for a group (wyref.Group) in memory, beside a group: its lists are never changed where they lie. -/
import Derived.Test.YtkgbaaaklijopaaGLoop2
import Derived.Test.YtkgbaaaklijopaaGSureP
import Derived.Deep.OwnRows
set_option linter.unusedVariables false
set_option linter.unusedSimpArgs false
set_option maxRecDepth 100000
namespace Go.Proofs.Ytkgbaaaklijopaa
open Go.RowKit Go.Sort

/-- block p is the answer for a group that has X: its lists are told by block h, what was told by block k; none of the blocks O is its own -/
structure RefA (w : World) (O : Nat → Prop) (S p h k : Nat) (X : GrpX) (A : Nat → Option Addr) (C : Nat → Nat) : Prop where
  ph : p ≠ h
  pk : p ≠ k
  hk : h ≠ k
  sp : S ≤ p
  sh : S ≤ h
  sk : S ≤ k
  lp : p < w.heap.size
  lh : h < w.heap.size
  lk : k < w.heap.size
  np : ¬ O p
  nh : ¬ O h
  nk : ¬ O k
  fh : ∀ o, w.frozen? ⟨h, o, none⟩ = false
  fk : ∀ o, w.frozen? ⟨k, o, none⟩ = false
  c0 : w.cell? ⟨p, 0, none⟩ = some (.slice (some ⟨h, 0, none⟩) (X.n + 1) (X.n + 1))
  c1 : w.cell? ⟨p, 1, none⟩ = some (.slice (some ⟨k, 0, none⟩) (X.n + 1) (X.n + 1))
  cl : ∀ j, j ≤ X.n → w.cell? ⟨h, j, none⟩ = some (.slice (A j) (X.L j).length (C j))
  ct : ∀ j, j ≤ X.n → w.cell? ⟨k, j, none⟩ = some (.int .i64 (X.tell j : Int))
  sl : ∀ j, j ≤ X.n → SlS w (A j) (X.L j) ∧ (X.L j).length ≤ C j
  al : ∀ j, j ≤ X.n → ∀ d, A j = some d → ¬ O d.block ∧ d.block ≠ h ∧ d.block ≠ k ∧ d.block < w.heap.size
theorem RefA.keep {w w' : World} {O O' : Nat → Prop} {S p h k : Nat} {X : GrpX} {A : Nat → Option Addr} {C : Nat → Nat} (r : RefA w O S p h k X A C) (hkp : Kept (fun z => ¬ O z) w w') (hO : ∀ z, z < w.heap.size → ¬ O z → ¬ O' z) : RefA w' O' S p h k X A C where
  ph := r.ph
  pk := r.pk
  hk := r.hk
  sp := r.sp
  sh := r.sh
  sk := r.sk
  lp := Nat.lt_of_lt_of_le r.lp hkp.size
  lh := Nat.lt_of_lt_of_le r.lh hkp.size
  lk := Nat.lt_of_lt_of_le r.lk hkp.size
  np := hO _ r.lp r.np
  nh := hO _ r.lh r.nh
  nk := hO _ r.lk r.nk
  fh o := (hkp.frozen r.nh r.lh).trans (r.fh o)
  fk o := (hkp.frozen r.nk r.lk).trans (r.fk o)
  c0 := hkp.cell r.np r.c0
  c1 := hkp.cell r.np r.c1
  cl j hj := hkp.cell r.nh (r.cl j hj)
  ct j hj := hkp.cell r.nk (r.ct j hj)
  sl j hj := ⟨(r.sl j hj).1.kept hkp (fun b off e _ => (r.al j hj _ e).1), (r.sl j hj).2⟩
  al j hj d e := ⟨hO _ (r.al j hj d e).2.2.2 (r.al j hj d e).1, (r.al j hj d e).2.1, (r.al j hj d e).2.2.1, Nat.lt_of_lt_of_le (r.al j hj d e).2.2.2 hkp.size⟩
theorem RefA.below {w w' : World} {O : Nat → Prop} {S p h k : Nat} {X : GrpX} {A : Nat → Option Addr} {C : Nat → Nat} (r : RefA w O S p h k X A C) (hb : Below w.heap.size w w') : RefA w' O S p h k X A C := r.keep (Kept.of hb) fun _ _ e => e
/-- another list of node j, that lies where nothing of all that lies -/
theorem RefA.setL {w : World} {O : Nat → Prop} {S p h k : Nat} {X : GrpX} {A : Nat → Option Addr} {C : Nat → Nat} (r : RefA w O S p h k X A C) {j : Nat} (hj : j ≤ X.n) (h0 : 0 < j) {a : Option Addr} {l : List ByteArray} {m c : Nat} (hm : l.length = m) (hs : SlS w a l) (hc : m ≤ c)
    (ha : ∀ d, a = some d → ¬ O d.block ∧ d.block ≠ h ∧ d.block ≠ k ∧ d.block < w.heap.size) :
    RefA (w.setCell ⟨h, j, none⟩ (.slice a m c)) O S p h k (X.setL j l) (fun i => if i = j then a else A i) (fun i => if i = j then c else C i) := by
  subst hm
  have hne : ¬ 0 = j := by omega
  refine ⟨r.ph, r.pk, r.hk, r.sp, r.sh, r.sk, by simpa [World.setCell] using r.lp, by simpa [World.setCell] using r.lh, by simpa [World.setCell] using r.lk, r.np, r.nh, r.nk, fun o => by rw [World.frozen?_setCell]; exact r.fh o, fun o => by rw [World.frozen?_setCell]; exact r.fk o, ?_, ?_, ?_, ?_, ?_, ?_⟩
  · exact (World.cell?_setCell_other _ _ _ _ (fun e => by injection e with e1; exact r.ph e1.symm)).trans r.c0
  · exact (World.cell?_setCell_other _ _ _ _ (fun e => by injection e with e1; exact r.ph e1.symm)).trans r.c1
  · intro i hi
    by_cases e : i = j
    · subst e
      have h1 := r.cl i hi
      simp [GrpX.setL, go_sem, h1]
    · simp only [GrpX.setL, if_neg e]
      exact (World.cell?_setCell_other _ _ _ _ (fun e1 => by injection e1 with _ e2; exact e e2.symm)).trans (r.cl i hi)
  · intro i hi
    have e : (X.setL j l).tell i = X.tell i := by
      unfold GrpX.tell GrpX.setL
      simp only [if_neg hne]
    rw [e]
    exact (World.cell?_setCell_other _ _ _ _ (fun e => by injection e with e1; exact r.hk e1)).trans (r.ct i hi)
  · intro i hi
    by_cases e : i = j
    · subst e
      simp only [GrpX.setL, if_true]
      exact ⟨hs.far (fun b off e => (ha _ e).2.1) _, hc⟩
    · simp only [GrpX.setL, if_neg e]
      exact ⟨(r.sl i hi).1.far (fun b off e => (r.al i hi _ e).2.1) _, (r.sl i hi).2⟩
  · intro i hi d hd
    by_cases e : i = j
    · rw [if_pos e] at hd
      obtain ⟨h1, h2, h3, h4⟩ := ha d hd
      exact ⟨h1, h2, h3, by simpa [World.setCell] using h4⟩
    · rw [if_neg e] at hd
      obtain ⟨h1, h2, h3, h4⟩ := r.al i hi d hd
      exact ⟨h1, h2, h3, by simpa [World.setCell] using h4⟩
/-- the leader has l, and tells so -/
theorem RefA.setL0 {w : World} {O : Nat → Prop} {S p h k : Nat} {X : GrpX} {A : Nat → Option Addr} {C : Nat → Nat} (r : RefA w O S p h k X A C) {a : Option Addr} {l : List ByteArray} {m c : Nat} (hm : l.length = m) (hs : SlS w a l) (hc : m ≤ c)
    (ha : ∀ d, a = some d → ¬ O d.block ∧ d.block ≠ h ∧ d.block ≠ k ∧ d.block < w.heap.size) :
    RefA ((w.setCell ⟨h, 0, none⟩ (.slice a m c)).setCell ⟨k, 0, none⟩ (.int .i64 (m : Int))) O S p h k (X.setL 0 l) (fun i => if i = 0 then a else A i) (fun i => if i = 0 then c else C i) := by
  subst hm
  have oth : ∀ {b o : Nat} {v : Value}, b ≠ h → b ≠ k → w.cell? ⟨b, o, none⟩ = some v → ((w.setCell ⟨h, 0, none⟩ (.slice a l.length c)).setCell ⟨k, 0, none⟩ (.int .i64 (l.length : Int))).cell? ⟨b, o, none⟩ = some v := fun {b o v} h1 h2 hc =>
    (World.cell?_setCell_other _ _ _ _ (fun e => by injection e with e1; exact h2 e1.symm)).trans ((World.cell?_setCell_other _ _ _ _ (fun e => by injection e with e1; exact h1 e1.symm)).trans hc)
  refine ⟨r.ph, r.pk, r.hk, r.sp, r.sh, r.sk, by simpa [World.setCell] using r.lp, by simpa [World.setCell] using r.lh, by simpa [World.setCell] using r.lk, r.np, r.nh, r.nk, fun o => by rw [World.frozen?_setCell, World.frozen?_setCell]; exact r.fh o, fun o => by rw [World.frozen?_setCell, World.frozen?_setCell]; exact r.fk o, oth r.ph r.pk r.c0, oth r.ph r.pk r.c1, ?_, ?_, ?_, ?_⟩
  · intro i hi
    refine (World.cell?_setCell_other _ _ _ _ (fun e => by injection e with e1; exact r.hk e1.symm)).trans ?_
    by_cases e : i = 0
    · subst e
      have h1 := r.cl 0 hi
      simp [GrpX.setL, go_sem, h1]
    · simp only [GrpX.setL, if_neg e]
      exact (World.cell?_setCell_other _ _ _ _ (fun e1 => by injection e1 with _ e2; exact e e2.symm)).trans (r.cl i hi)
  · intro i hi
    by_cases e : i = 0
    · subst e
      have h1 := (World.cell?_setCell_other w ⟨h, 0, none⟩ ⟨k, 0, none⟩ (.slice a l.length c) (fun e => by injection e with e1; exact r.hk e1)).trans (r.ct 0 hi)
      simp [GrpX.setL, GrpX.tell, go_sem, h1]
    · have e2 : (X.setL 0 l).tell i = X.tell i := by
        unfold GrpX.tell GrpX.setL
        simp only [if_neg e]
      rw [e2]
      exact (World.cell?_setCell_other _ _ _ _ (fun e1 => by injection e1 with _ e2; exact e e2.symm)).trans ((World.cell?_setCell_other _ _ _ _ (fun e1 => by injection e1 with e3; exact r.hk e3)).trans (r.ct i hi))
  · intro i hi
    by_cases e : i = 0
    · subst e
      simp only [GrpX.setL, if_true]
      exact ⟨(hs.far (fun b off e => (ha _ e).2.1) _).far (fun b off e => (ha _ e).2.2.1) _, hc⟩
    · simp only [GrpX.setL, if_neg e]
      exact ⟨((r.sl i hi).1.far (fun b off e => (r.al i hi _ e).2.1) _).far (fun b off e => (r.al i hi _ e).2.2.1) _, (r.sl i hi).2⟩
  · intro i hi d hd
    by_cases e : i = 0
    · rw [if_pos e] at hd
      obtain ⟨h1, h2, h3, h4⟩ := ha d hd
      exact ⟨h1, h2, h3, by simpa [World.setCell] using h4⟩
    · rw [if_neg e] at hd
      obtain ⟨h1, h2, h3, h4⟩ := r.al i hi d hd
      exact ⟨h1, h2, h3, by simpa [World.setCell] using h4⟩
/-- node j told m -/
theorem RefA.setT {w : World} {O : Nat → Prop} {S p h k : Nat} {X : GrpX} {A : Nat → Option Addr} {C : Nat → Nat} (r : RefA w O S p h k X A C) {j m : Nat} (hj : j ≤ X.n) (h0 : 0 < j) :
    RefA (w.setCell ⟨k, j, none⟩ (.int .i64 (m : Int))) O S p h k (X.setT j m) A C := by
  refine ⟨r.ph, r.pk, r.hk, r.sp, r.sh, r.sk, by simpa [World.setCell] using r.lp, by simpa [World.setCell] using r.lh, by simpa [World.setCell] using r.lk, r.np, r.nh, r.nk, fun o => by rw [World.frozen?_setCell]; exact r.fh o, fun o => by rw [World.frozen?_setCell]; exact r.fk o, ?_, ?_, ?_, ?_, ?_, ?_⟩
  · exact (World.cell?_setCell_other _ _ _ _ (fun e => by injection e with e1; exact r.pk e1.symm)).trans r.c0
  · exact (World.cell?_setCell_other _ _ _ _ (fun e => by injection e with e1; exact r.pk e1.symm)).trans r.c1
  · intro i hi
    exact (World.cell?_setCell_other _ _ _ _ (fun e => by injection e with e1; exact r.hk e1.symm)).trans (r.cl i hi)
  · intro i hi
    by_cases e : i = j
    · subst e
      have h1 := r.ct i hi
      have e0 : ¬ i = 0 := by omega
      simp [GrpX.setT, GrpX.tell, go_sem, h1, e0]
    · have e2 : (X.setT j m).tell i = X.tell i := by
        unfold GrpX.tell GrpX.setT
        simp only [if_neg e]
      rw [e2]
      exact (World.cell?_setCell_other _ _ _ _ (fun e1 => by injection e1 with _ e3; exact e e3.symm)).trans (r.ct i hi)
  · intro i hi
    exact ⟨(r.sl i hi).1.far (fun b off e => (r.al i hi _ e).2.2.1) _, (r.sl i hi).2⟩
  · intro i hi d hd
    obtain ⟨h1, h2, h3, h4⟩ := r.al i hi d hd
    exact ⟨h1, h2, h3, by simpa [World.setCell] using h4⟩

/-! ## both -/
/-- a group that has X, and the answer for one that has Y; since the world w3 nothing has changed that lay below block S -/
def Both (S p q pm h k : Nat) (w3 : World) (X Y : GrpX) (w : World) : Prop := ∃ O A C, Grp w O p q X ∧ (∀ z, O z → S ≤ z) ∧ Below S w3 w ∧ RefA w O S pm h k Y A C
section
variable {S p q pm h k : Nat} {w3 w w' : World} {X X' Y Y' : GrpX}
theorem Both.below (b : Both S p q pm h k w3 X Y w) (hS : S ≤ w3.heap.size) (hb : Below w.heap.size w w') : Both S p q pm h k w3 X Y w' := by
  obtain ⟨O, A, C, h1, h2, h3, h4⟩ := b
  exact ⟨O, A, C, h1.below hb, h2, h3.trans (hb.mono (Nat.le_trans hS h3.size)), h4.below hb⟩
theorem Both.base (b : Both S p q pm h k w3 X Y w) : Below S w3 w := by
  obtain ⟨O, A, C, h1, h2, h3, h4⟩ := b
  exact h3
theorem Both.ok (b : Both S p q pm h k w3 X Y w) : X.Ok := by
  obtain ⟨O, A, C, h1, h2, h3, h4⟩ := b
  exact h1.ok
theorem Both.step {O : Nat → Prop} {A : Nat → Option Addr} {C : Nat → Nat} (h1 : Grp w O p q X) (h2 : ∀ z, O z → S ≤ z) (h3 : Below S w3 w) (h4 : RefA w O S pm h k Y A C) (hS : S ≤ w3.heap.size) (hg : GTo O p q X' w w') : Both S p q pm h k w3 X' Y w' := by
  obtain ⟨O', g1, g2, g3⟩ := hg
  have hw := Nat.le_trans hS h3.size
  refine ⟨O', A, C, g1, fun z hz => ?_, h3.trans (g3.to (fun z hz k => ?_) hw), h4.keep g3 (fun z hz k k2 => ?_)⟩
  · rcases g2 z hz with k | k
    · exact h2 z k
    · omega
  · have := h2 z k
    omega
  · rcases g2 z k2 with k3 | k3
    · exact k k3
    · omega
end
end Go.Proofs.Ytkgbaaaklijopaa
