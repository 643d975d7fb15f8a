/- Add and Ack: what becomes of a group. -/
import Derived.Test.YtkgbaaaklijopaaGOps
import Derived.Maps.AppendAt
set_option linter.unusedVariables false
set_option linter.unusedSimpArgs false
set_option maxRecDepth 100000
namespace Go.Proofs.Ytkgbaaaklijopaa
open Go.RowKit Go.Sort

/-- append of whatever list of strings onto one's own: in which block it lies then -/
theorem run_appA {w : World} (ty : TypeId) {k k0 m c : Nat} {a0 A : Option Addr} {fs q : List ByteArray} (hown : OwnS 0 w (.slice a0 k k0) fs) (hk : fs.length = k) (hq : SlS w A q) (hm : q.length = m) (hn : k + m ≤ 100000) :
    ∃ A' c' w', (Builtin.append_ #[23, 23] ty #[.slice a0 k k0, .slice A m c]).run Try.prog w = .ok (.slice A' (k + m) c') w' ∧ OwnS 0 w' (.slice A' (k + m) c') (fs ++ q) ∧ Kept (fun z => ∀ d, a0 = some d → z ≠ d.block) w w' ∧
      ∀ d, A' = some d → (∃ e, a0 = some e ∧ d.block = e.block) ∨ w.heap.size ≤ d.block := by
  obtain ⟨i0, hi, hz0, hz1, hz2⟩ := info_parts Try.infoStr
  subst hk hm
  cases A with
  | none =>
    have h0 : q = [] := by
      cases q with
      | nil => rfl
      | cons f q =>
        obtain ⟨b, off, e, _⟩ := hq 0 f rfl
        cases e
    subst h0
    refine ⟨a0, k0, w, ?_, by simpa using hown, Kept.refl _ _, fun d e => .inl ⟨d, e, rfl⟩⟩
    rcases hown.2 with ⟨e, h0⟩ | ⟨g, cap, cur, e, _, _, hnc, _⟩
    · injection e with e1 e2 e3
      subst e1 e3
      simp [Builtin.append_, run_underlying Try.underlying23, sizeOf, typeInfo, hi, Builtin.lenOf, Builtin.firstCells, h0]
    · injection e with e1 e2 e3
      subst e1 e3
      simp [Builtin.append_, run_underlying Try.underlying23, sizeOf, typeInfo, hi, Builtin.lenOf, Builtin.firstCells, hnc, storeCells]
  | some ad =>
    obtain ⟨v', w', hrun, hown', hgrow, _, hat⟩ := run_append_own_at (P := Try.prog) w 0 23 ty 9 i0 _ 1 16 Try.underlying23 hi hz0 hz1 hz2 rfl (by decide) (.slice a0 fs.length k0) fs.length (cellsS fs) hown ad q.length c (cellsS q) (cellsS_len q) hq.cells (cellsS_one q) (by unfold maxLen; omega) (by omega) (Nat.zero_le _)
    have ho : OwnS 0 w' v' (fs ++ q) := by
      unfold OwnS
      rw [cellsS_append, List.length_append]
      exact hown'
    obtain ⟨A', c', rfl⟩ := ho.form
    rw [List.length_append] at ho hrun hat
    refine ⟨A', c', w', hrun, ho, Kept.grown hgrow fun z hz e => ?_, fun d e => ?_⟩
    · cases a0 with
      | none => cases e
      | some d0 => exact hz d0 rfl (by injection e)
    · subst e
      rcases hat with h | h
      · cases a0 with
        | none => cases h
        | some d0 => exact .inl ⟨d0, rfl, by injection h⟩
      · exact .inr (by have : d.block = w.heap.size := by injection h
                       omega)

/-- append, by its run equation, in a list of operations -/
theorem wpList_app_run {P : Program} {w : World} {ops : Array Oper} {rest : List Oper} {o : Oper} {a : Act} {Q : Exit → Act → World → Prop} (hgd : o.guard = none) (s x : Operand) (t : TypeId)
    (ho : o.op = .call { callee := .builtin .append, args := #[s, x], argTypes := #[t, t] }) (v u : Value) (hs : a.eval s = v) (hx : a.eval x = u) {v' : Value} {w' : World} (hr : (Builtin.append_ #[t, t] o.type #[v, u]).run P w = .ok v' w')
    (h : wpList P ops Q rest (a.put o.dst v') w') : wpList P ops Q (o :: rest) a w := by
  refine wpList_plain hgd fun K hK => ?_
  unfold Oper.wp execOp
  simp only [ho, resolve, invoke, builtin, Sem.run_bind, Sem.run_pure, Result.andThen_ok, List.map_toArray, List.map_cons, List.map_nil, hs, hx, hr]
  exact hK _ _ h
/-- .. and in a region that draws its order -/
theorem step_app_run {P : Program} {w : World} {ops : Array Oper} {o : Oper} {a : Act} {K : Act → World → Prop} {Q : Exit → Act → World → Prop} {E : Prop} (hgd : o.guard = none) (s x : Operand) (t : TypeId)
    (ho : o.op = .call { callee := .builtin .append, args := #[s, x], argTypes := #[t, t] }) (v u : Value) (hs : a.eval s = v) (hx : a.eval x = u) {v' : Value} {w' : World} (hr : (Builtin.append_ #[t, t] o.type #[v, u]).run P w = .ok v' w')
    (h : K (a.put o.dst v') w') : if Region.wanted o (yielded ops a.tmps) = true then Oper.wp P o a w K Q else E := by
  have hw : Region.wanted o (yielded ops a.tmps) = true := by simp [Region.wanted, hgd]
  rw [if_pos hw]
  unfold Oper.wp execOp
  simp only [ho, resolve, invoke, builtin, Sem.run_bind, Sem.run_pure, Result.andThen_ok, List.map_toArray, List.map_cons, List.map_nil, hs, hx, hr]
  exact h

/-- what becomes of the group: X' -/
def GTo (O : Nat → Prop) (p q : Nat) (X' : GrpX) (w w' : World) : Prop := ∃ O', Grp w' O' p q X' ∧ (∀ z, O' z → O z ∨ w.heap.size ≤ z) ∧ Kept (fun z => ¬ O z) w w'
theorem GTo.no {O : Nat → Prop} {p q : Nat} {X : GrpX} {w w' : World} (h : Grp w O p q X) (hb : Below w.heap.size w w') : GTo O p q X w w' := ⟨O, h.below hb, fun _ hz => .inl hz, Kept.of hb⟩
/-- a list of node j that was appended to, in the world w1 -/
theorem GTo.app {O : Nat → Prop} {p q : Nat} {X : GrpX} {w W w1 : World} {A : Nat → Option Addr} {C : Nat → Nat} (h : GrpA w O p q X A C) (hb : Below w.heap.size w W) {j : Nat} (hj : j ≤ X.n) {a : Option Addr} {l : List ByteArray} {m c : Nat} (hm : l.length = m)
    (k : Kept (fun z => ∀ d, A j = some d → z ≠ d.block) W w1) (ho : OwnS 0 w1 (.slice a m c) l) (ha : ∀ d, a = some d → (∃ e, A j = some e ∧ d.block = e.block) ∨ w.heap.size ≤ d.block) (hok : (X.setL j l).Ok) :
    GTo O p q (X.setL j l) w (w1.setCell (gloc p q j) (.slice a m c)) := by
  have hk := (Kept.of hb).trans k
  refine ⟨Onew O w w1, ⟨_, _, h.setL hj hm hk ho ha hok⟩, fun z hz => ?_, (hk.sub fun z hz hn d e => ?_).trans (Kept.setCell w1 (fun hz => ?_) _)⟩
  · rcases hz with hz | hz
    · exact .inl hz
    · exact .inr hz.1
  · exact fun e1 => hn (by rw [e1]; exact (h.ob j hj d e).1)
  · rcases gloc_block p q j with e | e
    · exact hz (by rw [e]; exact h.op)
    · exact hz (by rw [e]; exact h.oq)

theorem slS_lit1 (w : World) (s : ByteArray) (t : TypeId) : SlS (w.alloc (.cells #[.string s] t)) (some ⟨w.heap.size, 0, none⟩) [s] := fun k x hk => by
  match k, hk with
  | 0, hk =>
    cases hk
    exact ⟨_, _, rfl, by simp [go_sem]⟩
  | k + 1, hk => simp at hk

def AddTo (O : Nat → Prop) (p q : Nat) (X : GrpX) (s : ByteArray) (w : World) (e : Ending) (w' : World) : Prop :=
  e = .returned (.tuple #[.int .i64 (((X.L 0).length + 1 : Nat) : Int), .int .i64 0]) ∧ GTo O p q (X.setL 0 (X.L 0 ++ [s])) w w'
theorem setL_ok0 {X : GrpX} {l : List ByteArray} (h : X.Ok) (h60 : l.length ≤ 60) (hl : (X.L 0).length ≤ l.length) : (X.setL 0 l).Ok := by
  refine ⟨h.n4, fun j hj => ?_, fun j h1 hj => ?_⟩
  · by_cases e : j = 0
    · simp only [GrpX.setL, if_pos e]; exact h60
    · simp only [GrpX.setL, if_neg e]; exact h.few j hj
  · have e : ¬ j = 0 := by omega
    simp only [GrpX.setL, if_neg e, if_true]
    have := h.tl j h1 hj
    omega

set_option maxHeartbeats 1000000 in
theorem add_yes {w : World} {O : Nat → Prop} {p q : Nat} {X : GrpX} {s : ByteArray} (h : Grp w O p q X) (h60 : (X.L 0).length < 60) :
    Calls Try.prog 14 #[ptr p, .string s] w (AddTo O p q X s w) := by
  obtain ⟨A, C, h⟩ := h
  have c0 := h.cl 0 (Nat.zero_le _)
  rw [gloc_zero] at c0
  have f0 := h.zp 0
  have hpl := h.lt p h.op
  obtain ⟨k, hk⟩ : ∃ k, (X.L 0).length = k := ⟨_, rfl⟩
  have hA : Below w.heap.size w (w.alloc (.cells #[.string s] 9)) := (Below.refl _ _).alloc (Nat.le_refl _) _
  have ho := OwnS.below (h.ow 0 (Nat.zero_le _)) hA
  rw [hk] at c0 h60 ho
  obtain ⟨A', c', w2, hrun, ho2, hk2, hat⟩ := run_appA (m := 1) (c := 1) 23 ho hk (slS_lit1 w s 9) rfl (by omega)
  obtain ⟨k1, hk1⟩ : ∃ k1, k1 = k + 1 := ⟨_, rfl⟩
  have hz : ∀ d, A 0 = some d → p ≠ d.block := fun d e => ((h.ob 0 (Nat.zero_le _) d e).2.1).symm
  have hA2 : Kept (fun z => ∀ d, A 0 = some d → z ≠ d.block) w w2 := (Kept.of hA).trans hk2
  have c2 := hA2.cell hz c0
  have f2 := (hA2.frozen (b := p) (o := 0) hz hpl).trans f0
  have hG : GTo O p q (X.setL 0 (X.L 0 ++ [s])) w (w2.setCell (gloc p q 0) (.slice A' (k + 1) c')) := GTo.app h hA (Nat.zero_le _) (by rw [List.length_append, hk]; rfl) hk2 ho2 (fun d e => by
    rcases hat d e with h1 | h1
    · exact .inl h1
    · exact .inr (by simp at h1; omega)) (setL_ok0 h.ok (by rw [List.length_append, hk]; simp; omega) (by simp))
  rw [gloc_zero] at hG
  unfold AddTo
  rw [hk, ← hk1]
  rw [← hk1] at hrun hG
  have HG := Lib.hid hG
  have n1 : ¬ (60 : Int) ≤ (k : Int) := by omega
  generalize A 0 = a0 at c0 hrun c2
  generalize C 0 = k0 at c0 hrun c2
  clear h hk hA ho ho2 hk2 hat hz hA2 hG hk1 h60
  go_enter Try.func14, Try.ntmps14
  go_wp2_with (at_builtin; refine wpList_app_run rfl (.tmp 16) (.tmp 18) 23 rfl (.slice a0 k k0) (.slice (some ⟨w.heap.size, 0, none⟩) 1 1) (by simp [Act.eval, Act.put]) (by simp [Act.eval, Act.put]) hrun ?_)
  go_ret2
  exact ⟨rfl, HG.out⟩
theorem add_no {w : World} {O : Nat → Prop} {p q : Nat} {X : GrpX} {s : ByteArray} (h : Grp w O p q X) (h60 : 60 ≤ (X.L 0).length) :
    Calls Try.prog 14 #[ptr p, .string s] w fun e w' => e = .returned (.tuple #[.int .i64 0, .int .i64 2]) ∧ w' = w := by
  obtain ⟨A, C, h⟩ := h
  have c0 := h.cl 0 (Nat.zero_le _)
  rw [gloc_zero] at c0
  generalize (X.L 0).length = k at c0 h60
  have n1 : (60 : Int) ≤ (k : Int) := by omega
  clear h h60
  go_enter Try.func14, Try.ntmps14
  go_wp2_with fail
  go_ret2
  exact ⟨rfl, rfl⟩
end Go.Proofs.Ytkgbaaaklijopaa
