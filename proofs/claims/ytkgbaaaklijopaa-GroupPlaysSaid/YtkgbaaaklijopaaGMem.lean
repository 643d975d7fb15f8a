/- A group of nodes in memory: its own block, its followers' block, a list for each node. -/
import Derived.Test.YtkgbaaaklijopaaGBase
set_option linter.unusedVariables false
set_option linter.unusedSimpArgs false
set_option maxRecDepth 100000
namespace Go.Proofs.Ytkgbaaaklijopaa
open Go.RowKit Go.Sort

/-- a group: n followers; what each node has (0 leads); what each told -/
structure GrpX where
  n : Nat
  L : Nat → List ByteArray
  told : Nat → Nat
structure GrpX.Ok (X : GrpX) : Prop where
  n4 : X.n ≤ 4
  few : ∀ j, j ≤ X.n → (X.L j).length ≤ 60
  tl : ∀ j, 1 ≤ j → j ≤ X.n → X.told j ≤ (X.L j).length ∧ X.told j ≤ (X.L 0).length
/-- node j has l -/
def GrpX.setL (X : GrpX) (j : Nat) (l : List ByteArray) : GrpX := ⟨X.n, fun k => if k = j then l else X.L k, X.told⟩
/-- node j told m -/
def GrpX.setT (X : GrpX) (j m : Nat) : GrpX := ⟨X.n, X.L, fun k => if k = j then m else X.told k⟩
def GrpX.new (n : Nat) : GrpX := ⟨n, fun _ => [], fun _ => 0⟩
theorem GrpX.new_ok {n : Nat} (h : n ≤ 4) : (GrpX.new n).Ok := ⟨h, fun _ _ => Nat.zero_le _, fun _ _ _ => ⟨Nat.zero_le _, Nat.zero_le _⟩⟩

/-- where the list of node j stands -/
def gloc (p q j : Nat) : Addr := if j = 0 then ⟨p, 0, none⟩ else ⟨q, (j - 1) * 2, none⟩
theorem gloc_zero (p q : Nat) : gloc p q 0 = ⟨p, 0, none⟩ := rfl
theorem gloc_succ (p q j : Nat) : gloc p q (j + 1) = ⟨q, j * 2, none⟩ := rfl
theorem gloc_block (p q j : Nat) : (gloc p q j).block = p ∨ (gloc p q j).block = q := by
  unfold gloc
  split
  · exact .inl rfl
  · exact .inr rfl
theorem gloc_inj {p q i j : Nat} (hpq : p ≠ q) (h : gloc p q i = gloc p q j) : i = j := by
  unfold gloc at h
  split at h <;> split at h
  · omega
  · injection h with h1; exact absurd h1 hpq
  · injection h with h1; exact absurd h1.symm hpq
  · injection h with h1 h2; omega
theorem gloc_one {p q j : Nat} (hpq : p ≠ q) : gloc p q j ≠ ⟨p, 1, none⟩ := fun h => by
  unfold gloc at h
  split at h
  · injection h with _ h2; cases h2
  · injection h with h1; exact hpq h1.symm
theorem gloc_told {p q j i : Nat} (hpq : p ≠ q) : gloc p q j ≠ ⟨q, i * 2 + 1, none⟩ := fun h => by
  unfold gloc at h
  split at h
  · injection h with h1; exact hpq h1
  · injection h with _ h2; omega

/-- block p is a group that has X, block q its followers; of the blocks O it is made; A, C: where the lists lie -/
structure GrpA (w : World) (O : Nat → Prop) (p q : Nat) (X : GrpX) (A : Nat → Option Addr) (C : Nat → Nat) : Prop where
  op : O p
  oq : O q
  pq : p ≠ q
  lt : ∀ z, O z → z < w.heap.size
  zp : ∀ o, w.frozen? ⟨p, o, none⟩ = false
  zq : ∀ o, w.frozen? ⟨q, o, none⟩ = false
  ok : X.Ok
  c1 : w.cell? ⟨p, 1, none⟩ = some (.slice (some ⟨q, 0, none⟩) X.n X.n)
  cl : ∀ j, j ≤ X.n → w.cell? (gloc p q j) = some (.slice (A j) (X.L j).length (C j))
  ct : ∀ j, j < X.n → w.cell? ⟨q, j * 2 + 1, none⟩ = some (.int .i64 (X.told (j + 1)))
  ow : ∀ j, j ≤ X.n → OwnS 0 w (.slice (A j) (X.L j).length (C j)) (X.L j)
  ob : ∀ j, j ≤ X.n → ∀ d, A j = some d → O d.block ∧ d.block ≠ p ∧ d.block ≠ q
  di : ∀ i j, i ≤ X.n → j ≤ X.n → i ≠ j → ∀ d e, A i = some d → A j = some e → d.block ≠ e.block
def Grp (w : World) (O : Nat → Prop) (p q : Nat) (X : GrpX) : Prop := ∃ A C, GrpA w O p q X A C

theorem ownBlock_slice {a : Option Addr} {n c b : Nat} (h : (Value.slice a n c).ownBlock = some b) : ∃ d, a = some d ∧ d.block = b := by
  cases a with
  | none => cases h
  | some d => exact ⟨d, rfl, by injection h⟩
theorem own_set {B size n : Nat} {e : TypeId} {w : World} {a : Option Addr} {m c : Nat} {xs : List Value} (h : w.ownsRow B e size (.slice a m c) n xs) {x : Addr} (hx : ∀ d, a = some d → d.block ≠ x.block) (u : Value) : (w.setCell x u).ownsRow B e size (.slice a m c) n xs := by
  refine World.ownsRow.kept h (grown_setCell w x u) ?_
  cases a with
  | none => exact .inl rfl
  | some d => exact .inr fun k => hx d rfl (by injection k)

theorem Kept.cellA {Z : Nat → Prop} {w w' : World} {x : Addr} {v : Value} (h : Kept Z w w') (hz : Z x.block) (hx : x.spot = none) (hc : w.cell? x = some v) : w'.cell? x = some v := by
  obtain ⟨b, o, s⟩ := x
  cases hx
  exact h.cell hz hc
theorem gloc_spot (p q j : Nat) : (gloc p q j).spot = none := by unfold gloc; split <;> rfl

theorem GrpA.keep {w w' : World} {O : Nat → Prop} {p q : Nat} {X : GrpX} {A : Nat → Option Addr} {C : Nat → Nat} (h : GrpA w O p q X A C) (k : Kept O w w') : GrpA w' O p q X A C where
  op := h.op
  oq := h.oq
  pq := h.pq
  lt z hz := Nat.lt_of_lt_of_le (h.lt z hz) k.size
  zp o := (k.frozen h.op (h.lt _ h.op)).trans (h.zp o)
  zq o := (k.frozen h.oq (h.lt _ h.oq)).trans (h.zq o)
  ok := h.ok
  c1 := k.cell h.op h.c1
  cl j hj := k.cellA (by rcases gloc_block p q j with e | e <;> rw [e]; exact h.op; exact h.oq) (gloc_spot p q j) (h.cl j hj)
  ct j hj := k.cell h.oq (h.ct j hj)
  ow j hj := own_kept (h.ow j hj) k fun b hb => by
    obtain ⟨d, e1, e2⟩ := ownBlock_slice hb
    rw [← e2]
    exact (h.ob j hj d e1).1
  ob := h.ob
  di := h.di
theorem Grp.keep {w w' : World} {O : Nat → Prop} {p q : Nat} {X : GrpX} (h : Grp w O p q X) (k : Kept O w w') : Grp w' O p q X := by
  obtain ⟨A, C, h⟩ := h
  exact ⟨A, C, h.keep k⟩
theorem Grp.below {w w' : World} {O : Nat → Prop} {p q : Nat} {X : GrpX} (h : Grp w O p q X) (k : Below w.heap.size w w') : Grp w' O p q X := h.keep (Kept.of k)
theorem Grp.ok {w : World} {O : Nat → Prop} {p q : Nat} {X : GrpX} (h : Grp w O p q X) : X.Ok := by
  obtain ⟨A, C, h⟩ := h
  exact h.ok
theorem Grp.lt {w : World} {O : Nat → Prop} {p q : Nat} {X : GrpX} (h : Grp w O p q X) : ∀ z, O z → z < w.heap.size := by
  obtain ⟨A, C, h⟩ := h
  exact h.lt

/-- the blocks of which the group is made behind a change that made new ones -/
def Onew (O : Nat → Prop) (w w1 : World) (z : Nat) : Prop := O z ∨ (w.heap.size ≤ z ∧ z < w1.heap.size)

/-- another list of node j: at a, in the block where it lay, or in a new one -/
theorem GrpA.setL {w w1 : World} {O : Nat → Prop} {p q : Nat} {X : GrpX} {A : Nat → Option Addr} {C : Nat → Nat} (h : GrpA w O p q X A C) {j : Nat} (hj : j ≤ X.n) {a : Option Addr} {l : List ByteArray} {m c : Nat} (hm : l.length = m)
    (k : Kept (fun z => ∀ d, A j = some d → z ≠ d.block) w w1) (ho : OwnS 0 w1 (.slice a m c) l) (ha : ∀ d, a = some d → (∃ e, A j = some e ∧ d.block = e.block) ∨ w.heap.size ≤ d.block) (hok : (X.setL j l).Ok) :
    GrpA (w1.setCell (gloc p q j) (.slice a m c)) (Onew O w w1) p q (X.setL j l) (fun i => if i = j then a else A i) (fun i => if i = j then c else C i) := by
  subst hm
  have hpz : ∀ d, A j = some d → p ≠ d.block := fun d e => (h.ob j hj d e).2.1.symm
  have hqz : ∀ d, A j = some d → q ≠ d.block := fun d e => (h.ob j hj d e).2.2.symm
  have hpl := h.lt _ h.op
  have hql := h.lt _ h.oq
  have hsz := k.size
  have hab : ∀ d, a = some d → d.block ≠ p ∧ d.block ≠ q ∧ d.block < w1.heap.size := fun d e => by
    have hlt := (World.ownsRow.lt ho d.block (by rw [e]; rfl)).2
    rcases ha d e with ⟨e0, h1, h2⟩ | h1
    · rw [h2]
      exact ⟨(h.ob j hj e0 h1).2.1, (h.ob j hj e0 h1).2.2, by rw [← h2]; exact hlt⟩
    · exact ⟨by omega, by omega, hlt⟩
  have hgb : ∀ d : Addr, d.block ≠ p → d.block ≠ q → d.block ≠ (gloc p q j).block := fun d h1 h2 => by
    rcases gloc_block p q j with e | e <;> rw [e] <;> assumption
  have hgz : ∀ i, (fun z => ∀ d, A j = some d → z ≠ d.block) (gloc p q i).block := fun i => by
    rcases gloc_block p q i with e | e <;> rw [e] <;> assumption
  refine ⟨.inl h.op, .inl h.oq, h.pq, ?_, fun o => by rw [World.frozen?_setCell]; exact (k.frozen hpz hpl).trans (h.zp o), fun o => by rw [World.frozen?_setCell]; exact (k.frozen hqz hql).trans (h.zq o), hok, ?_, ?_, ?_, ?_, ?_, ?_⟩
  · rintro z (hz | ⟨_, hz⟩)
    · have := h.lt z hz
      simp [World.setCell]; omega
    · simpa [World.setCell] using hz
  · exact (World.cell?_setCell_other _ _ _ _ (gloc_one h.pq)).trans (k.cell hpz h.c1)
  · intro i hi
    by_cases e : i = j
    · subst e
      have h0 := k.cellA (hgz i) (gloc_spot p q i) (h.cl i hi)
      simp [GrpX.setL, go_sem, h0]
    · simp only [GrpX.setL, if_neg e]
      exact (World.cell?_setCell_other _ _ _ _ (fun e1 => e (gloc_inj h.pq e1).symm)).trans (k.cellA (hgz i) (gloc_spot p q i) (h.cl i hi))
  · intro i hi
    exact (World.cell?_setCell_other _ _ _ _ (gloc_told h.pq)).trans (k.cell hqz (h.ct i hi))
  · intro i hi
    by_cases e : i = j
    · subst e
      simp only [GrpX.setL, if_true]
      exact own_set ho (fun d e1 => hgb d (hab d e1).1 (hab d e1).2.1) _
    · simp only [GrpX.setL, if_neg e]
      refine own_set (own_kept (h.ow i hi) k fun b hb d e1 => ?_) (fun d e1 => hgb d (h.ob i hi d e1).2.1 (h.ob i hi d e1).2.2) _
      obtain ⟨d0, e2, e3⟩ := ownBlock_slice hb
      rw [← e3]
      exact h.di i j hi hj e d0 d e2 e1
  · intro i hi d hd
    by_cases e : i = j
    · subst e
      rw [if_pos rfl] at hd
      refine ⟨?_, (hab d hd).1, (hab d hd).2.1⟩
      rcases ha d hd with ⟨e0, h1, h2⟩ | h1
      · exact .inl (by rw [h2]; exact (h.ob i hi e0 h1).1)
      · exact .inr ⟨h1, (hab d hd).2.2⟩
    · rw [if_neg e] at hd
      obtain ⟨h1, h2, h3⟩ := h.ob i hi d hd
      exact ⟨.inl h1, h2, h3⟩
  · intro i i2 hi hi2 hne d d2 hd hd2
    have key : ∀ i, i ≤ X.n → i ≠ j → ∀ d d2, A i = some d → a = some d2 → d.block ≠ d2.block := fun i hi e d d2 hd hd2 => by
      rcases ha d2 hd2 with ⟨e0, h1, h2⟩ | h1
      · rw [h2]; exact h.di i j hi hj e d e0 hd h1
      · have := h.lt _ (h.ob i hi d hd).1
        omega
    by_cases e : i = j
    · subst e
      rw [if_pos rfl] at hd
      rw [if_neg (Ne.symm hne)] at hd2
      exact (key i2 hi2 (Ne.symm hne) d2 d hd2 hd).symm
    · rw [if_neg e] at hd
      by_cases e2 : i2 = j
      · subst e2
        rw [if_pos rfl] at hd2
        exact key i hi e d d2 hd hd2
      · rw [if_neg e2] at hd2
        exact h.di i i2 hi hi2 hne d d2 hd hd2

/-- node j + 1 told m -/
theorem GrpA.setT {w : World} {O : Nat → Prop} {p q : Nat} {X : GrpX} {A : Nat → Option Addr} {C : Nat → Nat} (h : GrpA w O p q X A C) {j m : Nat} (hj : j < X.n) (hok : (X.setT (j + 1) m).Ok) :
    GrpA (w.setCell ⟨q, j * 2 + 1, none⟩ (.int .i64 m)) O p q (X.setT (j + 1) m) A C where
  op := h.op
  oq := h.oq
  pq := h.pq
  lt z hz := by simpa [World.setCell] using h.lt z hz
  zp o := by rw [World.frozen?_setCell]; exact h.zp o
  zq o := by rw [World.frozen?_setCell]; exact h.zq o
  ok := hok
  c1 := (World.cell?_setCell_other _ _ _ _ (fun e => by injection e with e1; exact h.pq e1.symm)).trans h.c1
  cl i hi := (World.cell?_setCell_other _ _ _ _ (fun e => gloc_told h.pq e.symm)).trans (h.cl i hi)
  ct i hi := by
    by_cases e : i = j
    · subst e
      have h0 := h.ct i hj
      simp [GrpX.setT, go_sem, h0]
    · have e' : ¬ i + 1 = j + 1 := by omega
      simp only [GrpX.setT, if_neg e']
      exact (World.cell?_setCell_other _ _ _ _ (fun e1 => by injection e1 with _ e2; omega)).trans (h.ct i hi)
  ow i hi := own_set (h.ow i hi) (fun d e => (h.ob i hi d e).2.2) _
  ob := h.ob
  di := h.di
end Go.Proofs.Ytkgbaaaklijopaa
