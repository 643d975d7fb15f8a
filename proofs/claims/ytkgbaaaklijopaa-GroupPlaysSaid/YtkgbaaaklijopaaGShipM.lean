/- What is shipped: how followers' lists begin the leader's; what was sent; in memory. -/
import Derived.Test.YtkgbaaaklijopaaGLoop2
import Derived.Test.YtkgbaaaklijopaaGDec
import Derived.Test.YtkgbaaaklijopaaGOpen
set_option linter.unusedVariables false
set_option linter.unusedSimpArgs false
set_option maxRecDepth 100000
namespace Go.Proofs.Ytkgbaaaklijopaa
open Go.RowKit Go.Sort

/-! ## without memory -/
/-- what was sent: to whom, from where, and which entries (at a, with room c) -/
structure SentL where
  i : Nat
  f : Nat
  l : List ByteArray
  a : Option Addr
  c : Nat
/-- it is part of l -/
def SentL.Of (s : SentL) (n : Nat) (L0 : List ByteArray) : Prop := 1 ≤ s.i ∧ s.i ≤ n ∧ s.f + s.l.length ≤ L0.length ∧ s.l = (L0.drop s.f).take s.l.length
/-- all lists begin the leader's -/
def Begins (X : GrpX) : Prop := ∀ j, j ≤ X.n → X.L j = (X.L 0).take (X.L j).length
theorem Begins.le {X : GrpX} (h : Begins X) {j : Nat} (hj : j ≤ X.n) : (X.L j).length ≤ (X.L 0).length := by
  have := congrArg List.length (h j hj)
  rw [List.length_take] at this
  omega
theorem begins_new (n : Nat) : Begins (GrpX.new n) := fun j _ => rfl
theorem SentL.Of.more {s : SentL} {n : Nat} {L0 : List ByteArray} (h : s.Of n L0) (r : List ByteArray) : s.Of n (L0 ++ r) := by
  obtain ⟨h1, h2, h3, h4⟩ := h
  refine ⟨h1, h2, by rw [List.length_append]; omega, ?_⟩
  rw [List.drop_append, List.take_append_of_le_length (by rw [List.length_drop]; omega)]
  exact h4
theorem Begins.add {X : GrpX} (h : Begins X) (s : ByteArray) : Begins (X.setL 0 (X.L 0 ++ [s])) := fun j hj => by
  by_cases e : j = 0
  · subst e
    simp only [GrpX.setL, if_true]
    exact (List.take_of_length_le (Nat.le_refl _)).symm
  · simp only [GrpX.setL, if_neg e, if_true]
    rw [List.take_append_of_le_length (h.le hj)]
    exact h j hj
theorem Begins.cut {X : GrpX} (h : Begins X) {j k : Nat} (hk : k ≤ (X.L 0).length) : Begins (X.setL (j + 1) ((X.L 0).take k)) := fun i hi => by
  have e0 : ¬ 0 = j + 1 := by omega
  by_cases e : i = j + 1
  · subst e
    simp only [GrpX.setL, if_true, if_neg e0]
    rw [List.length_take, Nat.min_eq_left hk]
  · simp only [GrpX.setL, if_neg e, if_neg e0]
    exact h i hi
theorem Begins.told {X : GrpX} (h : Begins X) (j m : Nat) : Begins (X.setT j m) := h
/-- what was sent is taken, wherever it comes -/
theorem take_sent {L0 L l : List ByteArray} {f h : Nat} (hL : L = L0.take h) (hh : L.length = h) (hf : f + l.length ≤ L0.length) (hl : l = (L0.drop f).take l.length) (hfh : f ≤ h) (h60 : L0.length ≤ 60) :
    takeE L l (f : Int) = 0 ∧ takeL L l f = L0.take (max h (f + l.length)) := by
  have hh0 : h ≤ L0.length := by rw [hL, List.length_take] at hh; omega
  obtain ⟨m, hm⟩ : ∃ m, l.length = m := ⟨_, rfl⟩
  rw [hm] at hf hl
  have hK : thereN L l f = min (h - f) m := by unfold thereN; rw [hh, hm]
  have hag : (L.drop f).take (min (h - f) m) = l.take (min (h - f) m) := by
    rw [hL, hl, List.drop_take, List.take_take, List.take_take]
    congr 1
    omega
  constructor
  · unfold takeE
    rw [Int.toNat_natCast, hK, hm, hh, if_neg (by omega), if_neg (by omega), if_neg (by rw [hag]; simp), if_neg (by omega)]
  · unfold takeL
    rw [hK, hm]
    by_cases h1 : f + m ≤ h
    · rw [Nat.min_eq_right (by omega), List.drop_of_length_le (by omega), List.append_nil, Nat.max_eq_left h1]
      exact hL
    · rw [Nat.min_eq_left (by omega), Nat.max_eq_right (by omega), hL, hl, List.drop_take, List.drop_drop, show f + (h - f) = h by omega, show m - (h - f) = f + m - h by omega]
      rw [← List.take_add]
      congr 1
      omega
/-- X' has come of X: its leader has log more, and nobody told less -/
structure More (X X' : GrpX) (log : List ByteArray) : Prop where
  n : X'.n = X.n
  l0 : X'.L 0 = X.L 0 ++ log
  told : ∀ j, X.told j ≤ X'.told j
theorem More.refl (X : GrpX) : More X X [] := ⟨rfl, by simp, fun _ => Nat.le_refl _⟩
theorem More.add {X X' : GrpX} {log : List ByteArray} (h : More X X' log) (s : ByteArray) : More X (X'.setL 0 (X'.L 0 ++ [s])) (log ++ [s]) := ⟨h.n, by simp only [GrpX.setL, if_true]; rw [h.l0, List.append_assoc], h.told⟩
theorem More.set {X X' : GrpX} {log : List ByteArray} (h : More X X' log) (j : Nat) (l : List ByteArray) : More X (X'.setL (j + 1) l) log := ⟨h.n, by simp only [GrpX.setL]; rw [if_neg (by omega)]; exact h.l0, h.told⟩
theorem More.tell {X X' : GrpX} {log : List ByteArray} (h : More X X' log) (j m : Nat) : More X (X'.setT j (max (X'.told j) m)) log := ⟨h.n, h.l0, fun i => by
  have := h.told i
  simp only [GrpX.setT]
  split
  · rename_i e; subst e; omega
  · exact this⟩

/-! ## in memory -/
def SentL.cells (s : SentL) : List Value := [.int .i64 (s.i : Int), .int .i64 (s.f : Int), .slice s.a s.l.length s.c]
def cellsW (l : List SentL) : List Value := l.flatMap SentL.cells
theorem cellsW_append (a b : List SentL) : cellsW (a ++ b) = cellsW a ++ cellsW b := List.flatMap_append
theorem cellsW_one (l : List SentL) : ∀ u ∈ cellsW l, u.oneCell' = true := fun u hu => by
  obtain ⟨x, _, hx⟩ := List.mem_flatMap.1 hu
  simp only [SentL.cells, List.mem_cons, List.not_mem_nil, or_false] at hx
  rcases hx with rfl | rfl | rfl <;> rfl
theorem cellsW_len : ∀ l : List SentL, (cellsW l).length = l.length * 3
  | [] => rfl
  | x :: r => by
    have ih := cellsW_len r
    have e : cellsW (x :: r) = x.cells ++ cellsW r := rfl
    rw [e, List.length_append, ih, List.length_cons, show x.cells.length = 3 from rfl]
    omega
theorem cellsW_at : ∀ {l : List SentL} {k : Nat} {x : SentL}, l[k]? = some x → ∀ j u, x.cells[j]? = some u → (cellsW l)[k * 3 + j]? = some u
  | [], k, x, h, _, _, _ => by simp at h
  | y :: r, 0, x, h, j, u, hu => by
    simp only [List.getElem?_cons_zero, Option.some.injEq] at h
    subst h
    have e : cellsW (y :: r) = y.cells ++ cellsW r := rfl
    rw [e, Nat.zero_mul, Nat.zero_add, List.getElem?_append_left (List.getElem?_eq_some_iff.1 hu).1]
    exact hu
  | y :: r, k + 1, x, h, j, u, hu => by
    rw [List.getElem?_cons_succ] at h
    have ih := cellsW_at h j u hu
    have e : cellsW (y :: r) = y.cells ++ cellsW r := rfl
    rw [e, List.getElem?_append_right (by show 3 ≤ _; omega), show (k + 1) * 3 + j - y.cells.length = k * 3 + j by show (k + 1) * 3 + j - 3 = _; omega]
    exact ih
/-- the value v owns, from block B on, what was sent -/
def OwnW (B : Nat) (w : World) (v : Value) (l : List SentL) : Prop := w.ownsRow B 73 3 v l.length (cellsW l)
theorem OwnW.at_ {B : Nat} {w : World} {A : Option Addr} {n c : Nat} {l : List SentL} (h : OwnW B w (.slice A n c) l) {k : Nat} {x : SentL} (hk : l[k]? = some x) : ∃ b, A = some ⟨b, 0, none⟩ ∧ w.cell? ⟨b, k * 3, none⟩ = some (.int .i64 (x.i : Int)) ∧ w.cell? ⟨b, k * 3 + 1, none⟩ = some (.int .i64 (x.f : Int)) ∧ w.cell? ⟨b, k * 3 + 2, none⟩ = some (.slice x.a x.l.length x.c) := by
  have hlt := (List.getElem?_eq_some_iff.1 hk).1
  rcases h.2 with ⟨_, h0⟩ | ⟨g, cap, cur, e, hlo, hg, h1, h2, h3, h4⟩
  · omega
  · have e2 := e
    injection e with e1 _ e3
    subst e1
    have key : ∀ j u, x.cells[j]? = some u → w.cell? ⟨g, k * 3 + j, none⟩ = some u := fun j u hu => by
      have := World.ownsRow.cells h (g := g) rfl (k * 3 + j) u (cellsW_at hk j u hu)
      rwa [addr_at] at this
    exact ⟨g, rfl, key 0 _ rfl, key 1 _ rfl, key 2 _ rfl⟩
theorem Try.infoSent : (Try.prog.info? 73).map (fun i => (i.zero, i.size, i.bytes)) = some (some (.agg #[.int .i64 0, .int .i64 0, .slice none 0 0]), 3, 40) := by kernel_rfl
/-- one more was sent -/
theorem run_appW {w : World} (ty : TypeId) {B k c c1 g : Nat} {A : Option Addr} {l : List SentL} {x : SentL} (hown : OwnW B w (.slice A k c) l) (hk : l.length = k) (hx : ∀ j u, x.cells[j]? = some u → w.cell? ⟨g, j, none⟩ = some u) (hn : k ≤ 1000) (hB : B ≤ w.heap.size) :
    ∃ A' c' w', (Builtin.append_ #[70, 70] ty #[.slice A k c, .slice (some ⟨g, 0, none⟩) 1 c1]).run Try.prog w = .ok (.slice A' (k + 1) c') w' ∧ OwnW B w' (.slice A' (k + 1) c') (l ++ [x]) ∧ Kept (fun z => ∀ d, A = some d → z ≠ d.block) w w' ∧
      ∀ d, A' = some d → (∃ e, A = some e ∧ d.block = e.block) ∨ d.block = w.heap.size := by
  obtain ⟨i0, hi, hz0, hz1, hz2⟩ := info_parts Try.infoSent
  subst hk
  obtain ⟨v', w', hrun, hown', hgrow, _, hat⟩ := run_append_own_at (P := Try.prog) w B 70 ty 73 i0 _ 3 40 Try.underlying70 hi hz0 hz1 hz2 rfl (by decide) (.slice A l.length c) l.length (cellsW l) hown ⟨g, 0, none⟩ 1 c1 (cellsW [x]) (cellsW_len [x]) (fun j u hj => by
    rw [addr_at]
    exact hx j u (by simpa [cellsW] using hj)) (cellsW_one [x]) (by unfold maxLen; omega) (by omega) hB
  have ho : OwnW B w' v' (l ++ [x]) := by
    unfold OwnW
    rw [cellsW_append, List.length_append]
    exact hown'
  obtain ⟨A', c', rfl⟩ : ∃ A' c', v' = .slice A' (l.length + 1) c' := by
    rcases ho.2 with ⟨_, h0⟩ | ⟨g', cap, cur, e, _⟩
    · simp at h0
    · exact ⟨some ⟨g', 0, none⟩, cap, by rw [e, List.length_append]; rfl⟩
  refine ⟨A', c', w', hrun, ho, Kept.grown hgrow fun z hz e => ?_, fun d e => ?_⟩
  · cases A with
    | none => cases e
    | some d0 => exact hz d0 rfl (by injection e)
  · subst e
    rcases hat with h | h
    · cases A with
      | none => cases h
      | some d0 => exact .inl ⟨d0, rfl, by injection h⟩
    · exact .inr (by injection h)

/-- a group, a log, and what was sent, each in blocks of its own -/
structure Ship (S p q : Nat) (w3 : World) (X : GrpX) (va : Option Addr) (vc : Nat) (log : List ByteArray) (ya : Option Addr) (yc : Nat) (way : List SentL) (w : World) (O : Nat → Prop) : Prop where
  g : Grp w O p q X
  os : ∀ z, O z → S ≤ z
  base : Below S w3 w
  lo : OwnS S w (.slice va log.length vc) log
  lf : ∀ d, va = some d → ¬ O d.block
  wo : OwnW S w (.slice ya way.length yc) way
  wf : ∀ d, ya = some d → ¬ O d.block ∧ ∀ e, va = some e → d.block ≠ e.block
  wl : ∀ s ∈ way, SlS w s.a s.l ∧ s.l.length ≤ s.c ∧ ∀ d, s.a = some d → ¬ O d.block ∧ d.block < w.heap.size ∧ (∀ e, va = some e → d.block ≠ e.block) ∧ ∀ e, ya = some e → d.block ≠ e.block
theorem Ship.lt {S p q : Nat} {w3 : World} {X : GrpX} {va : Option Addr} {vc : Nat} {log : List ByteArray} {ya : Option Addr} {yc : Nat} {way : List SentL} {w : World} {O : Nat → Prop} (h : Ship S p q w3 X va vc log ya yc way w O) :
    (∀ d, va = some d → S ≤ d.block ∧ d.block < w.heap.size) ∧ ∀ d, ya = some d → S ≤ d.block ∧ d.block < w.heap.size :=
  ⟨fun d e => World.ownsRow.lt h.lo d.block (by rw [e]; rfl), fun d e => World.ownsRow.lt h.wo d.block (by rw [e]; rfl)⟩
theorem Ship.below {S p q : Nat} {w3 : World} {X : GrpX} {va : Option Addr} {vc : Nat} {log : List ByteArray} {ya : Option Addr} {yc : Nat} {way : List SentL} {w w' : World} {O : Nat → Prop} (h : Ship S p q w3 X va vc log ya yc way w O) (hS : S ≤ w3.heap.size) (hb : Below w.heap.size w w') : Ship S p q w3 X va vc log ya yc way w' O where
  g := h.g.below hb
  os := h.os
  base := h.base.trans (hb.mono (Nat.le_trans hS h.base.size))
  lo := OwnS.below h.lo hb
  lf := h.lf
  wo := own_below h.wo hb
  wf := h.wf
  wl s hs := by
    obtain ⟨h1, h2, h3⟩ := h.wl s hs
    exact ⟨h1.below hb, h2, fun d e => ⟨(h3 d e).1, Nat.lt_of_lt_of_le (h3 d e).2.1 hb.size, (h3 d e).2.2⟩⟩
theorem Ship.step {S p q : Nat} {w3 : World} {X X' : GrpX} {va : Option Addr} {vc : Nat} {log : List ByteArray} {ya : Option Addr} {yc : Nat} {way : List SentL} {w w' : World} {O : Nat → Prop} (h : Ship S p q w3 X va vc log ya yc way w O) (hS : S ≤ w3.heap.size) (hg : GTo O p q X' w w') : ∃ O', Ship S p q w3 X' va vc log ya yc way w' O' := by
  obtain ⟨O', g1, g2, g3⟩ := hg
  have hw := Nat.le_trans hS h.base.size
  obtain ⟨hva, hya⟩ := h.lt
  have hO : ∀ z, z < w.heap.size → ¬ O z → ¬ O' z := fun z hz k k2 => by
    rcases g2 z k2 with k3 | k3
    · exact k k3
    · omega
  exact ⟨O', g1, fun z hz => (by
      rcases g2 z hz with k | k
      · exact h.os z k
      · omega), h.base.trans (g3.to (fun z hz k => by have := h.os z k; omega) hw),
    own_kept h.lo g3 (fun b hb => by obtain ⟨d, e1, e2⟩ := ownBlock_slice hb; rw [← e2]; exact h.lf d e1), fun d e => hO _ (hva d e).2 (h.lf d e),
    own_kept h.wo g3 (fun b hb => by obtain ⟨d, e1, e2⟩ := ownBlock_slice hb; rw [← e2]; exact (h.wf d e1).1), fun d e => ⟨hO _ (hya d e).2 (h.wf d e).1, (h.wf d e).2⟩,
    fun s hs => by
      obtain ⟨h1, h2, h3⟩ := h.wl s hs
      exact ⟨h1.kept g3 (fun b off e _ => (h3 _ e).1), h2, fun d e => ⟨hO _ (h3 d e).2.1 (h3 d e).1, Nat.lt_of_lt_of_le (h3 d e).2.1 g3.size, (h3 d e).2.2⟩⟩⟩
/-- the log has one entry more; w1: where that entry was laid -/
theorem Ship.logs {S p q : Nat} {w3 : World} {X : GrpX} {va va' : Option Addr} {vc vc' k : Nat} {log log' : List ByteArray} {ya : Option Addr} {yc : Nat} {way : List SentL} {w w1 w' : World} {O : Nat → Prop} (h : Ship S p q w3 X va vc log ya yc way w O) (hS : S ≤ w3.heap.size) (hb : Below w.heap.size w w1) (hk : log'.length = k)
    (ho : OwnS 0 w' (.slice va' k vc') log') (hkp : Kept (fun z => ∀ d, va = some d → z ≠ d.block) w1 w') (hat : ∀ d, va' = some d → (∃ e, va = some e ∧ d.block = e.block) ∨ w1.heap.size ≤ d.block) :
    Ship S p q w3 X va' vc' log' ya yc way w' O := by
  subst hk
  have hw := Nat.le_trans hS h.base.size
  obtain ⟨hva, hya⟩ := h.lt
  have hk2 : Kept (fun z => ∀ d, va = some d → z ≠ d.block) w w' := (Kept.of hb).trans hkp
  have hnew : ∀ d, va' = some d → S ≤ d.block ∧ ¬ O d.block ∧ ∀ z, z < w.heap.size → (∀ e, va = some e → z ≠ e.block) → z ≠ d.block := fun d e => by
    have hsz := hb.size
    rcases hat d e with ⟨e0, e1, e2⟩ | e1
    · rw [e2]; exact ⟨(hva e0 e1).1, h.lf e0 e1, fun z _ hz => hz e0 e1⟩
    · refine ⟨by omega, fun k => ?_, fun z hz _ => by omega⟩
      have := h.g.lt _ k
      omega
  refine ⟨h.g.keep (hk2.sub fun z _ hz d e k => h.lf d e (by rw [← k]; exact hz)), h.os, h.base.trans (hk2.to (fun z hz d e => by have := (hva d e).1; omega) hw), ?_, fun d e => (hnew d e).2.1, own_kept h.wo hk2 (fun b hb d e => ?_), fun d e => ⟨(h.wf d e).1, fun d2 e2 => (hnew d2 e2).2.2 _ (hya d e).2 (h.wf d e).2⟩, fun s hs => ?_⟩
  · obtain ⟨h1, h2⟩ := ho
    refine ⟨h1, ?_⟩
    rcases h2 with h2 | ⟨g, cap, cur, e1, _, r⟩
    · exact .inl h2
    · refine .inr ⟨g, cap, cur, e1, ?_, r⟩
      injection e1 with e2
      exact (hnew ⟨g, 0, none⟩ e2).1
  · obtain ⟨d0, e1, e2⟩ := ownBlock_slice hb
    rw [← e2]
    exact (h.wf d0 e1).2 d e
  · obtain ⟨h1, h2, h3⟩ := h.wl s hs
    exact ⟨h1.kept hk2 (fun b off e _ d e2 => (h3 _ e).2.2.1 d e2), h2, fun d e => ⟨(h3 d e).1, Nat.lt_of_lt_of_le (h3 d e).2.1 hk2.size, fun d2 e2 => (hnew d2 e2).2.2 _ (h3 d e).2.1 (h3 d e).2.2.1, (h3 d e).2.2.2⟩⟩
/-- something more was sent: x, whose list lies where nothing of all that lies -/
theorem Ship.sends {S p q : Nat} {w3 : World} {X : GrpX} {va : Option Addr} {vc k : Nat} {log : List ByteArray} {ya ya' : Option Addr} {yc yc' : Nat} {way : List SentL} {x : SentL} {w w1 w' : World} {O : Nat → Prop} (h : Ship S p q w3 X va vc log ya yc way w O) (hS : S ≤ w3.heap.size) (hb : Below w.heap.size w w1) (hk : (way ++ [x]).length = k)
    (hx : SlS w x.a x.l ∧ x.l.length ≤ x.c ∧ ∀ d, x.a = some d → ¬ O d.block ∧ d.block < w.heap.size ∧ (∀ e, va = some e → d.block ≠ e.block) ∧ ∀ e, ya = some e → d.block ≠ e.block)
    (ho : OwnW S w' (.slice ya' k yc') (way ++ [x])) (hkp : Kept (fun z => ∀ d, ya = some d → z ≠ d.block) w1 w') (hat : ∀ d, ya' = some d → (∃ e, ya = some e ∧ d.block = e.block) ∨ d.block = w1.heap.size) :
    Ship S p q w3 X va vc log ya' yc' (way ++ [x]) w' O := by
  subst hk
  have hw := Nat.le_trans hS h.base.size
  obtain ⟨hva, hya⟩ := h.lt
  have hk2 : Kept (fun z => ∀ d, ya = some d → z ≠ d.block) w w' := (Kept.of hb).trans hkp
  have hnew : ∀ d, ya' = some d → ¬ O d.block ∧ (∀ e, va = some e → d.block ≠ e.block) ∧ ∀ z, z < w.heap.size → (∀ e, ya = some e → z ≠ e.block) → z ≠ d.block := fun d e => by
    have hsz := hb.size
    rcases hat d e with ⟨e0, e1, e2⟩ | e1
    · rw [e2]; exact ⟨(h.wf e0 e1).1, (h.wf e0 e1).2, fun z _ hz => hz e0 e1⟩
    · refine ⟨fun k => ?_, fun e2 e3 => ?_, fun z hz _ => by omega⟩
      · have := h.g.lt _ k
        omega
      · have := (hva e2 e3).2
        omega
  refine ⟨h.g.keep (hk2.sub fun z _ hz d e k => (h.wf d e).1 (by rw [← k]; exact hz)), h.os, h.base.trans (hk2.to (fun z hz d e => by have := (hya d e).1; omega) hw), own_kept h.lo hk2 (fun b hb d e => ?_), h.lf, ho, fun d e => ⟨(hnew d e).1, (hnew d e).2.1⟩, fun s hs => ?_⟩
  · obtain ⟨d0, e1, e2⟩ := ownBlock_slice hb
    rw [← e2]
    exact ((h.wf d e).2 d0 e1).symm
  · have key : SlS w s.a s.l ∧ s.l.length ≤ s.c ∧ ∀ d, s.a = some d → ¬ O d.block ∧ d.block < w.heap.size ∧ (∀ e, va = some e → d.block ≠ e.block) ∧ ∀ e, ya = some e → d.block ≠ e.block := by
      rcases List.mem_append.1 hs with hs | hs
      · exact h.wl s hs
      · rw [List.mem_singleton.1 hs]; exact hx
    obtain ⟨h1, h2, h3⟩ := key
    exact ⟨h1.kept hk2 (fun b off e _ d e2 => (h3 _ e).2.2.2 d e2), h2, fun d e => ⟨(h3 d e).1, Nat.lt_of_lt_of_le (h3 d e).2.1 hk2.size, (h3 d e).2.2.1, fun d2 e2 => (hnew d2 e2).2.2 _ (h3 d e).2.1 (h3 d e).2.2.2⟩⟩
end Go.Proofs.Ytkgbaaaklijopaa
