/- Lists of fields and of strings that a call owns: cloned, copied within. -/
import Derived.Test.YtepenlciaanoeaaGreatDoorRMem
import Derived.Lib.Walk
import Derived.Deep.AppendLies
import Derived.Laws.AppendOwnNone
import Derived.Laws.CopyOwn
import Derived.Laws.IdiomCopy
import Derived.Deep.RegionLaw
set_option linter.unusedVariables false
set_option linter.unusedSimpArgs false
set_option maxRecDepth 100000
namespace Go.Proofs.YtepenlciaanoeaaGreatDoor
open Go.RowKit Go.Sort

theorem Tryz.infoField : (Tryz.prog.info? 41).map (fun i => (i.zero, i.size, i.bytes)) = some (some (.agg #[.string ⟨#[]⟩, .string ⟨#[]⟩]), 2, 32) := by kernel_rfl
theorem Tryz.infoStr : (Tryz.prog.info? 9).map (fun i => (i.zero, i.size, i.bytes)) = some (some (.string ⟨#[]⟩), 1, 16) := by kernel_rfl

theorem addr_at (g k : Nat) : (⟨g, 0, none⟩ : Addr).add k = ⟨g, k, none⟩ := by unfold Addr.add; split <;> simp_all
theorem addr_off (g o k : Nat) : (⟨g, o, none⟩ : Addr).add k = ⟨g, o + k, none⟩ := by unfold Addr.add; split <;> simp_all

def cellsF (fs : List FieldL) : List Value := fs.flatMap FieldL.cells
def cellsS (rs : List ByteArray) : List Value := rs.map Value.string

theorem cellsF_len : ∀ fs : List FieldL, (cellsF fs).length = fs.length * 2
  | [] => rfl
  | f :: r => by
    have := cellsF_len r
    unfold cellsF at this ⊢
    rw [List.flatMap_cons, List.length_append, this, List.length_cons]
    show 2 + _ = _
    omega
theorem cellsS_len (rs : List ByteArray) : (cellsS rs).length = rs.length * 1 := by unfold cellsS; simp
theorem cellsF_cons (f : FieldL) (r : List FieldL) : cellsF (f :: r) = .string f.key :: .string f.val :: cellsF r := rfl
theorem cellsF_append (a b : List FieldL) : cellsF (a ++ b) = cellsF a ++ cellsF b := by unfold cellsF; rw [List.flatMap_append]
theorem cellsF_one : ∀ fs : List FieldL, ∀ u ∈ cellsF fs, u.oneCell' = true
  | [], u, h => by cases h
  | f :: r, u, h => by
    rw [cellsF_cons] at h
    rcases List.mem_cons.1 h with rfl | h
    · rfl
    · rcases List.mem_cons.1 h with rfl | h
      · rfl
      · exact cellsF_one r u h
theorem cellsS_one (rs : List ByteArray) : ∀ u ∈ cellsS rs, u.oneCell' = true := fun u h => by
  unfold cellsS at h
  obtain ⟨s, _, rfl⟩ := List.mem_map.1 h
  rfl
theorem cellsF_at : ∀ {fs : List FieldL} {k : Nat} {f : FieldL}, fs[k]? = some f → (cellsF fs)[k * 2]? = some (.string f.key) ∧ (cellsF fs)[k * 2 + 1]? = some (.string f.val)
  | [], k, f, h => by simp at h
  | g :: r, 0, f, h => by
    simp only [List.getElem?_cons_zero, Option.some.injEq] at h
    subst h
    exact ⟨rfl, rfl⟩
  | g :: r, k + 1, f, h => by
    rw [List.getElem?_cons_succ] at h
    obtain ⟨h1, h2⟩ := cellsF_at h
    rw [cellsF_cons]
    rw [show (k + 1) * 2 = k * 2 + 1 + 1 by omega]
    exact ⟨by rw [List.getElem?_cons_succ, List.getElem?_cons_succ]; exact h1, by rw [List.getElem?_cons_succ, List.getElem?_cons_succ]; exact h2⟩
theorem cellsF_of : ∀ {fs : List FieldL} {j : Nat} {u : Value}, (cellsF fs)[j]? = some u → ∃ k f, fs[k]? = some f ∧ ((j = k * 2 ∧ u = .string f.key) ∨ (j = k * 2 + 1 ∧ u = .string f.val))
  | [], j, u, h => by simp [cellsF] at h
  | g :: r, 0, u, h => by
    rw [cellsF_cons] at h
    simp only [List.getElem?_cons_zero, Option.some.injEq] at h
    exact ⟨0, g, rfl, .inl ⟨rfl, h.symm⟩⟩
  | g :: r, 1, u, h => by
    rw [cellsF_cons] at h
    simp only [List.getElem?_cons_succ, List.getElem?_cons_zero, Option.some.injEq] at h
    exact ⟨0, g, rfl, .inr ⟨rfl, h.symm⟩⟩
  | g :: r, j + 2, u, h => by
    rw [cellsF_cons, List.getElem?_cons_succ, List.getElem?_cons_succ] at h
    obtain ⟨k, f, hf, hj⟩ := cellsF_of h
    exact ⟨k + 1, f, by rw [List.getElem?_cons_succ]; exact hf, by rcases hj with ⟨h1, h2⟩ | ⟨h1, h2⟩; exact .inl ⟨by omega, h2⟩; exact .inr ⟨by omega, h2⟩⟩

theorem SlF.cells {w : World} {ad : Addr} {fs : List FieldL} (h : SlF w (some ad) fs) : ∀ j u, (cellsF fs)[j]? = some u → w.cell? (ad.add j) = some u := fun j u hj => by
  obtain ⟨k, f, hf, hk⟩ := cellsF_of hj
  obtain ⟨b, off, e, h1, h2⟩ := h k f hf
  cases e
  rcases hk with ⟨rfl, rfl⟩ | ⟨rfl, rfl⟩
  · rw [addr_off]; exact h1
  · rw [addr_off, ← Nat.add_assoc]; exact h2
theorem slF_of {w : World} {g o : Nat} {fs : List FieldL} (h : ∀ j u, (cellsF fs)[j]? = some u → w.cell? ⟨g, o + j, none⟩ = some u) : SlF w (some ⟨g, o, none⟩) fs := fun k f hf => by
  obtain ⟨h1, h2⟩ := cellsF_at hf
  exact ⟨g, o, rfl, h _ _ h1, by have := h _ _ h2; rw [← Nat.add_assoc] at this; exact this⟩
theorem SlS.cells {w : World} {ad : Addr} {rs : List ByteArray} (h : SlS w (some ad) rs) : ∀ j u, (cellsS rs)[j]? = some u → w.cell? (ad.add j) = some u := fun j u hj => by
  unfold cellsS at hj
  rw [List.getElem?_map] at hj
  obtain ⟨s, hs, rfl⟩ := Option.map_eq_some_iff.1 hj
  obtain ⟨b, off, e, h1⟩ := h j s hs
  cases e
  rw [addr_off]
  exact h1
theorem slS_of {w : World} {g o : Nat} {rs : List ByteArray} (h : ∀ j u, (cellsS rs)[j]? = some u → w.cell? ⟨g, o + j, none⟩ = some u) : SlS w (some ⟨g, o, none⟩) rs := fun k s hs =>
  ⟨g, o, rfl, h _ _ (by unfold cellsS; rw [List.getElem?_map, hs]; rfl)⟩

/-- the value v owns, from block B on, these fields (these strings) -/
def OwnF (B : Nat) (w : World) (v : Value) (fs : List FieldL) : Prop := w.ownsRow B 41 2 v fs.length (cellsF fs)
def OwnS (B : Nat) (w : World) (v : Value) (rs : List ByteArray) : Prop := w.ownsRow B 9 1 v rs.length (cellsS rs)

theorem OwnF.form {B : Nat} {w : World} {v : Value} {fs : List FieldL} (h : OwnF B w v fs) : ∃ A c, v = .slice A fs.length c := by
  rcases h.2 with ⟨e, h0⟩ | ⟨g, cap, cur, e, _⟩
  · exact ⟨none, 0, by rw [e, h0]⟩
  · exact ⟨_, _, e⟩
theorem OwnS.form {B : Nat} {w : World} {v : Value} {rs : List ByteArray} (h : OwnS B w v rs) : ∃ A c, v = .slice A rs.length c := by
  rcases h.2 with ⟨e, h0⟩ | ⟨g, cap, cur, e, _⟩
  · exact ⟨none, 0, by rw [e, h0]⟩
  · exact ⟨_, _, e⟩
theorem OwnF.sl {B : Nat} {w : World} {A : Option Addr} {c : Nat} {fs : List FieldL} (h : OwnF B w (.slice A fs.length c) fs) : SlF w A fs ∧ fs.length ≤ c ∧ c ≤ maxLen := by
  rcases h.2 with ⟨e, h0⟩ | ⟨g, cap, cur, e, hlo, hg, h1, h2, h3, h4⟩
  · rw [List.eq_nil_of_length_eq_zero h0] at e ⊢
    cases e
    exact ⟨SlF.nil _ _, Nat.le_refl _, Nat.zero_le _⟩
  · have e2 := e
    injection e with e1 _ e3
    subst e1 e3
    refine ⟨slF_of fun j u hj => ?_, h1, h2⟩
    have := World.ownsRow.cells h (g := g) rfl j u hj
    rw [addr_at] at this
    rw [Nat.zero_add]
    exact this
theorem OwnS.sl {B : Nat} {w : World} {A : Option Addr} {c : Nat} {rs : List ByteArray} (h : OwnS B w (.slice A rs.length c) rs) : SlS w A rs ∧ rs.length ≤ c ∧ c ≤ maxLen := by
  rcases h.2 with ⟨e, h0⟩ | ⟨g, cap, cur, e, hlo, hg, h1, h2, h3, h4⟩
  · rw [List.eq_nil_of_length_eq_zero h0] at e ⊢
    cases e
    exact ⟨SlS.nil _ _, Nat.le_refl _, Nat.zero_le _⟩
  · injection e with e1 _ e3
    subst e1 e3
    refine ⟨slS_of fun j u hj => ?_, h1, h2⟩
    have := World.ownsRow.cells h (g := g) rfl j u hj
    rw [addr_at] at this
    rw [Nat.zero_add]
    exact this
theorem own_below {B size n : Nat} {e : TypeId} {w w' : World} {v : Value} {xs : List Value} (h : w.ownsRow B e size v n xs) (hb : Below w.heap.size w w') : w'.ownsRow B e size v n xs :=
  World.ownsRow.kept (row := none) h ⟨hb.os, hb.tape, hb.output, hb.size, fun i hi _ => hb.block i hi⟩ (by cases hv : v.ownBlock with | none => exact .inl rfl | some k => exact .inr (by simp))
theorem OwnF.below {B : Nat} {w w' : World} {v : Value} {fs : List FieldL} (h : OwnF B w v fs) (hb : Below w.heap.size w w') : OwnF B w' v fs := own_below h hb
theorem OwnS.below {B : Nat} {w w' : World} {v : Value} {rs : List ByteArray} (h : OwnS B w v rs) (hb : Below w.heap.size w w') : OwnS B w' v rs := own_below h hb

theorem own_low {B B' size n : Nat} {e : TypeId} {w : World} {v : Value} {xs : List Value} (h : w.ownsRow B e size v n xs) (hB : B' ≤ B) : w.ownsRow B' e size v n xs := by
  obtain ⟨h1, h2⟩ := h
  refine ⟨h1, ?_⟩
  rcases h2 with h2 | ⟨g, cap, cur, e1, hlo, r⟩
  · exact .inl h2
  · exact .inr ⟨g, cap, cur, e1, Nat.le_trans hB hlo, r⟩

theorem SlF.far {w : World} {a : Option Addr} {fs : List FieldL} (h : SlF w a fs) {p : Addr} (hne : ∀ b off, a = some ⟨b, off, none⟩ → b ≠ p.block) (u : Value) : SlF (w.setCell p u) a fs := fun k f hk => by
  obtain ⟨b, off, e, h1, h2⟩ := h k f hk
  have hb := hne b off e
  exact ⟨b, off, e, (World.cell?_setCell_other _ _ _ _ (fun e' => hb (by rw [e']))).trans h1, (World.cell?_setCell_other _ _ _ _ (fun e' => hb (by rw [e']))).trans h2⟩
theorem SlS.far {w : World} {a : Option Addr} {rs : List ByteArray} (h : SlS w a rs) {p : Addr} (hne : ∀ b off, a = some ⟨b, off, none⟩ → b ≠ p.block) (u : Value) : SlS (w.setCell p u) a rs := fun k f hk => by
  obtain ⟨b, off, e, h1⟩ := h k f hk
  have hb := hne b off e
  exact ⟨b, off, e, (World.cell?_setCell_other _ _ _ _ (fun e' => hb (by rw [e']))).trans h1⟩
/-- rows of fields and rows of strings lie in different blocks -/
theorem OwnF.apart {B B' : Nat} {w : World} {A A' : Option Addr} {n m c c' : Nat} {fs : List FieldL} {rs : List ByteArray} (h1 : w.ownsRow B 41 2 (.slice A n c) n (cellsF fs)) (h2 : w.ownsRow B' 9 1 (.slice A' m c') m (cellsS rs)) {b o o' : Nat}
    (e : A = some ⟨b, o, none⟩) (e' : A' = some ⟨b, o', none⟩) : False := by
  rcases h1.2 with ⟨e1, _⟩ | ⟨g1, cap1, cur1, e1, _, hh1, _⟩
  · rw [e] at e1
    cases e1
  · rcases h2.2 with ⟨e2, _⟩ | ⟨g2, cap2, cur2, e2, _, hh2, _⟩
    · rw [e'] at e2
      cases e2
    · rw [e] at e1
      rw [e'] at e2
      injection e1 with e1
      injection e1 with e1
      injection e1 with e1
      injection e2 with e2
      injection e2 with e2
      injection e2 with e2
      subst e1
      rw [← e2, hh1] at hh2
      injection hh2 with hh2
      injection hh2 with _ ht
      exact absurd ht (by decide)

/-- a list of fields (of strings) that is new from block B on -/
def NewF (B : Nat) (fs : List FieldL) (w : World) (e : Ending) (w' : World) : Prop := ∃ A c, e = .returned (.slice A fs.length c) ∧ OwnF B w' (.slice A fs.length c) fs ∧ Below B w w'
def NewS (B : Nat) (rs : List ByteArray) (w : World) (e : Ending) (w' : World) : Prop := ∃ A c, e = .returned (.slice A rs.length c) ∧ OwnS B w' (.slice A rs.length c) rs ∧ Below B w w'

theorem run_copy_rowN {P : Program} (w : World) (dT sT ty elem : TypeId) (sz g o dLen dCap : Nat) (a : Addr) (sLen sCap : Nat) (cur : Array Value) (t : TypeId) (cs : List Value)
    (hu : P.underlying dT = some (.slice elem)) (hs : (P.info? elem).map (·.size) = some sz)
    (hg : w.heap[g]? = some (.cells cur t (0, 0))) (hn : cs.length = Nat.min sLen dLen * sz)
    (hsrc : ∀ j v, cs[j]? = some v → w.cell? (a.add j) = some v) (hfit : o + cs.length ≤ cur.size) (h1 : ∀ v ∈ cs, v.oneCell' = true) :
    (Builtin.copy_ #[dT, sT] ty #[.slice (some ⟨g, o, none⟩) dLen dCap, .slice (some a) sLen sCap]).run P w =
      .ok (goInt (Nat.min sLen dLen)) (w.setRow g (cur.toList.take o ++ cs ++ cur.toList.drop (o + cs.length)).toArray) := by
  have hl := run_loadCells_list (P := P) w a cs hsrc
  have hst := run_storeCells_at P g o t cs 0 cur w hg (by simpa using hfit) h1
  cases hq : P.info? elem with
  | none => simp [hq] at hs
  | some i =>
    have hi : i.size = sz := by simpa [hq] using hs
    simp [Builtin.copy_, run_underlying hu, Builtin.lenOf, Builtin.firstCells, sizeOf, typeInfo, hq, hi, ← hn, hl, hst]

theorem wpList_copy_rowN {P : Program} {w : World} {ops : Array Oper} {rest : List Oper} {o : Oper} {a : Act} {Q : Exit → Act → World → Prop} (hgd : o.guard = none) (d s : Operand) (dT sT : TypeId)
    (ho : o.op = .call { callee := .builtin .copy, args := #[d, s], argTypes := #[dT, sT] }) (elem : TypeId) (sz : Nat) (hu : P.underlying dT = some (.slice elem)) (hsz : (P.info? elem).map (·.size) = some sz)
    (g off dLen dCap : Nat) (ad : Addr) (sLen sCap : Nat) (hd : a.eval d = .slice (some ⟨g, off, none⟩) dLen dCap) (hs : a.eval s = .slice (some ad) sLen sCap)
    (cur : List Value) (t : TypeId) (hg : w.heap[g]? = some (.cells cur.toArray t (0, 0))) (cs : List Value) (hn : cs.length = Nat.min sLen dLen * sz)
    (hsrc : ∀ j v, cs[j]? = some v → w.cell? (ad.add j) = some v) (hfit : off + cs.length ≤ cur.length) (h1 : ∀ v ∈ cs, v.oneCell' = true) (B : Nat) (w0 : World) (hb : Below B w0 w) (hBg : B ≤ g)
    (h : ∀ w', Hid (w'.heap[g]? = some (.cells (splice cur off cs).toArray t (0, 0))) → Below B w0 w' → (∀ b, b ≠ g → w'.heap[b]? = w.heap[b]?) → wpList P ops Q rest (a.put o.dst (goInt (Nat.min sLen dLen))) w') : wpList P ops Q (o :: rest) a w := by
  refine wpList_plain hgd fun K hK => ?_
  have hrun := run_copy_rowN (P := P) w dT sT o.type elem sz g off dLen dCap ad sLen sCap cur.toArray t cs hu hsz hg hn hsrc (by simpa using hfit) h1
  unfold Oper.wp
  simp [execOp, ho, resolve, invoke, builtin, hd, hs, hrun, Result.andThen]
  exact hK _ _ (h _ (show _ = _ by simpa [splice] using setRow_heap w g _ _ t _ hg) (below_setRow hb hBg _) (fun b hne => setRow_other w g b _ hne))

theorem step_copy_rowN {P : Program} {ops : Array Oper} {o : Oper} {a : Act} {w : World} {K : Act → World → Prop} {Q : Exit → Act → World → Prop} {E : Prop} (hgd : o.guard = none) (d s : Operand) (dT sT : TypeId)
    (ho : o.op = .call { callee := .builtin .copy, args := #[d, s], argTypes := #[dT, sT] }) (elem : TypeId) (sz : Nat) (hu : P.underlying dT = some (.slice elem)) (hsz : (P.info? elem).map (·.size) = some sz)
    (g off dLen dCap : Nat) (ad : Addr) (sLen sCap : Nat) (hd : a.eval d = .slice (some ⟨g, off, none⟩) dLen dCap) (hs : a.eval s = .slice (some ad) sLen sCap)
    (cur : List Value) (t : TypeId) (hg : w.heap[g]? = some (.cells cur.toArray t (0, 0))) (cs : List Value) (hn : cs.length = Nat.min sLen dLen * sz)
    (hsrc : ∀ j v, cs[j]? = some v → w.cell? (ad.add j) = some v) (hfit : off + cs.length ≤ cur.length) (h1 : ∀ v ∈ cs, v.oneCell' = true) (B : Nat) (w0 : World) (hb : Below B w0 w) (hBg : B ≤ g)
    (h : ∀ w', Hid (w'.heap[g]? = some (.cells (splice cur off cs).toArray t (0, 0))) → Below B w0 w' → (∀ b, b ≠ g → w'.heap[b]? = w.heap[b]?) → K (a.put o.dst (goInt (Nat.min sLen dLen))) w') :
    if Region.wanted o (yielded ops a.tmps) = true then Oper.wp P o a w K Q else E := by
  have hw : Region.wanted o (yielded ops a.tmps) = true := by simp [Region.wanted, hgd]
  rw [if_pos hw]
  have hrun := run_copy_rowN (P := P) w dT sT o.type elem sz g off dLen dCap ad sLen sCap cur.toArray t cs hu hsz hg hn hsrc (by simpa using hfit) h1
  unfold Oper.wp
  simp [execOp, ho, resolve, invoke, builtin, hd, hs, hrun, Result.andThen]
  exact h _ (show _ = _ by simpa [splice] using setRow_heap w g _ _ t _ hg) (below_setRow hb hBg _) (fun b hne => setRow_other w g b _ hne)
theorem zero_in (w : World) : RecL.zero.in_ At.none w := ⟨SlF.nil _ _, SlS.nil _ _, Nat.le_refl _, Nat.le_refl _, Nat.zero_le _, Nat.zero_le _⟩
end Go.Proofs.YtepenlciaanoeaaGreatDoor
