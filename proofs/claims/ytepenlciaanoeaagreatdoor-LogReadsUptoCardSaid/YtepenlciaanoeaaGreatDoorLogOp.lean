/- Operations, as data and in memory. -/
import Derived.Test.YtepenlciaanoeaaGreatDoorRuleA
import Derived.Test.YtepenlciaanoeaaGreatDoorRMem
set_option linter.unusedVariables false
set_option linter.unusedSimpArgs false
set_option maxRecDepth 100000
namespace Go.Proofs.YtepenlciaanoeaaGreatDoor
open Go.RowKit Go.Sort

/-- what is asked -/
structure OpL where
  kind : Int
  who : WhoL
  n : Nat
  rs : Nat → RuleL
  r : RecL
  id : ByteArray
  f : FieldL
/-- where the lists of an operation lie -/
structure OpP where
  ra : Option Addr
  rc : Nat
  p : At
abbrev OpL.v (o : OpL) (P : OpP) : Value := .agg #[.int .i64 o.kind, .int .i64 o.who.role, .int .i64 o.who.why, .int .i64 o.who.time, .slice P.ra o.n P.rc, .string o.r.id, .int .i64 o.r.cats, .slice P.p.fa o.r.fs.length P.p.fc, .slice P.p.ra o.r.rs.length P.p.rc, .string o.id, .string o.f.key, .string o.f.val]
structure OpL.in_ (o : OpL) (P : OpP) (w : World) : Prop where
  rs : SlR w P.ra o.n o.rs
  rl : o.n ≤ P.rc
  rm : P.rc ≤ maxLen
  r : o.r.in_ P.p w
  sh : o.r.short
  fsh : o.f.short
theorem OpL.in_.below {o : OpL} {P : OpP} {w w' : World} (h : o.in_ P w) (hb : Below w.heap.size w w') : o.in_ P w' := ⟨h.rs.below hb, h.rl, h.rm, h.r.below hb, h.sh, h.fsh⟩
theorem nm_small {s : ByteArray} (h : isNm s = true) : s.size ≤ maxLen := by
  unfold isNm at h
  simp only [Bool.and_eq_true, decide_eq_true_eq] at h
  unfold maxLen
  omega
theorem vl_small {s : ByteArray} (h : isVl s = true) : s.size ≤ maxLen := by
  unfold isVl at h
  simp only [Bool.and_eq_true, decide_eq_true_eq] at h
  unfold maxLen
  omega
theorem fd_small {f : FieldL} (h : isFd f = true) : f.short := by
  unfold isFd at h
  rw [Bool.and_eq_true] at h
  exact ⟨nm_small h.1, vl_small h.2⟩
theorem RecL.Ok.short {r : RecL} (h : r.Ok) : r.short where
  id := nm_small h.id
  fs f hf := by
    obtain ⟨i, hi⟩ := List.getElem?_of_mem hf
    exact fd_small (h.fs i f (List.getElem?_eq_some_iff.1 hi).1 hi).1
  rs s hs := by
    obtain ⟨i, hi⟩ := List.getElem?_of_mem hs
    exact nm_small (h.rs i s (List.getElem?_eq_some_iff.1 hi).1 hi).1
end Go.Proofs.YtepenlciaanoeaaGreatDoor
namespace Go.Proofs.YtepenlciaanoeaaGreatDoor
open Go.RowKit Go.Sort

theorem Tryz.infoOp : (Tryz.prog.info? 43).map (fun i => (i.zero, i.size, i.bytes)) = some (some (.agg #[.int .i64 0, .int .i64 0, .int .i64 0, .int .i64 0, .slice none 0 0, .string ⟨#[]⟩, .int .i64 0, .slice none 0 0, .slice none 0 0, .string ⟨#[]⟩, .string ⟨#[]⟩, .string ⟨#[]⟩]), 12, 176) := by kernel_rfl
/-- an operation, and where its lists lie -/
structure OO where
  o : OpL
  P : OpP
def OO.cells (x : OO) : List Value := [.int .i64 x.o.kind, .int .i64 x.o.who.role, .int .i64 x.o.who.why, .int .i64 x.o.who.time, .slice x.P.ra x.o.n x.P.rc, .string x.o.r.id, .int .i64 x.o.r.cats, .slice x.P.p.fa x.o.r.fs.length x.P.p.fc, .slice x.P.p.ra x.o.r.rs.length x.P.p.rc, .string x.o.id, .string x.o.f.key, .string x.o.f.val]
def cellsO (l : List OO) : List Value := l.flatMap OO.cells
theorem cellsO_append (a b : List OO) : cellsO (a ++ b) = cellsO a ++ cellsO b := List.flatMap_append
theorem cellsO_cons (x : OO) (r : List OO) : cellsO (x :: r) = x.cells ++ cellsO r := rfl
theorem cellsO_one (l : List OO) : ∀ u ∈ cellsO l, u.oneCell' = true := fun u hu => by
  obtain ⟨x, _, hx⟩ := List.mem_flatMap.1 hu
  simp only [OO.cells, List.mem_cons, List.not_mem_nil, or_false] at hx
  rcases hx with rfl | rfl | rfl | rfl | rfl | rfl | rfl | rfl | rfl | rfl | rfl | rfl <;> rfl
theorem cellsO_len : ∀ l : List OO, (cellsO l).length = l.length * 12
  | [] => rfl
  | x :: r => by
    have ih := cellsO_len r
    rw [cellsO_cons, List.length_append, ih, List.length_cons, show x.cells.length = 12 from rfl]
    omega
theorem cellsO_at : ∀ {l : List OO} {k : Nat} {x : OO}, l[k]? = some x → ∀ j u, x.cells[j]? = some u → (cellsO l)[k * 12 + j]? = some u
  | [], k, x, h, _, _, _ => by simp at h
  | y :: r, 0, x, h, j, u, hu => by
    simp only [List.getElem?_cons_zero, Option.some.injEq] at h
    subst h
    rw [cellsO_cons, Nat.zero_mul, Nat.zero_add, List.getElem?_append_left (List.getElem?_eq_some_iff.1 hu).1]
    exact hu
  | y :: r, k + 1, x, h, j, u, hu => by
    rw [List.getElem?_cons_succ] at h
    have ih := cellsO_at h j u hu
    rw [cellsO_cons, List.getElem?_append_right (by show 12 ≤ _; omega), show (k + 1) * 12 + j - y.cells.length = k * 12 + j by show (k + 1) * 12 + j - 12 = _; omega]
    exact ih
/-- its cells, from off on -/
structure OpAt (w : World) (b off : Nat) (x : OO) : Prop where
  c0 : w.cell? ⟨b, off, none⟩ = some (.int .i64 x.o.kind)
  c1 : w.cell? ⟨b, off + 1, none⟩ = some (.int .i64 x.o.who.role)
  c2 : w.cell? ⟨b, off + 2, none⟩ = some (.int .i64 x.o.who.why)
  c3 : w.cell? ⟨b, off + 3, none⟩ = some (.int .i64 x.o.who.time)
  c4 : w.cell? ⟨b, off + 4, none⟩ = some (.slice x.P.ra x.o.n x.P.rc)
  c5 : w.cell? ⟨b, off + 5, none⟩ = some (.string x.o.r.id)
  c6 : w.cell? ⟨b, off + 6, none⟩ = some (.int .i64 x.o.r.cats)
  c7 : w.cell? ⟨b, off + 7, none⟩ = some (.slice x.P.p.fa x.o.r.fs.length x.P.p.fc)
  c8 : w.cell? ⟨b, off + 8, none⟩ = some (.slice x.P.p.ra x.o.r.rs.length x.P.p.rc)
  c9 : w.cell? ⟨b, off + 9, none⟩ = some (.string x.o.id)
  c10 : w.cell? ⟨b, off + 10, none⟩ = some (.string x.o.f.key)
  c11 : w.cell? ⟨b, off + 11, none⟩ = some (.string x.o.f.val)
theorem OpAt.keep {w w' : World} {b off : Nat} {x : OO} (h : OpAt w b off x) (hb : ∀ o, w'.cell? ⟨b, o, none⟩ = w.cell? ⟨b, o, none⟩) : OpAt w' b off x := by
  obtain ⟨c0, c1, c2, c3, c4, c5, c6, c7, c8, c9, c10, c11⟩ := h
  constructor <;> rw [hb] <;> assumption
theorem OpAt.below {w w' : World} {b off : Nat} {x : OO} (h : OpAt w b off x) (hb : Below w.heap.size w w') : OpAt w' b off x := h.keep fun o => hb.cell (p := ⟨b, o, none⟩) (cell_lt h.c0)
/-- a slice of operations -/
def SlO (w : World) (a : Option Addr) (l : List OO) : Prop := ∀ k x, l[k]? = some x → x.o.in_ x.P w ∧ ∃ b off, a = some ⟨b, off, none⟩ ∧ OpAt w b (off + k * 12) x
theorem SlO.below {w w' : World} {a : Option Addr} {l : List OO} (h : SlO w a l) (hb : Below w.heap.size w w') : SlO w' a l := fun k x hk => by
  obtain ⟨h1, b, off, e, h2⟩ := h k x hk
  exact ⟨h1.below hb, b, off, e, h2.below hb⟩
theorem SlO.nil (w : World) (a : Option Addr) : SlO w a [] := fun k x h => by simp at h
/-- the value v owns, from block B on, these operations' cells -/
def OwnO (B : Nat) (w : World) (v : Value) (l : List OO) : Prop := w.ownsRow B 43 12 v l.length (cellsO l)
theorem OwnO.form {B : Nat} {w : World} {v : Value} {l : List OO} (h : OwnO B w v l) : ∃ A c, v = .slice A l.length c := by
  rcases h.2 with ⟨e, h0⟩ | ⟨g, cap, cur, e, _⟩
  · exact ⟨none, 0, by rw [e, h0]⟩
  · exact ⟨_, _, e⟩
theorem OwnO.sl {B : Nat} {w : World} {A : Option Addr} {n c : Nat} {l : List OO} (h : OwnO B w (.slice A n c) l) (hin : ∀ x ∈ l, x.o.in_ x.P w) : SlO w A l ∧ l.length = n ∧ n ≤ c ∧ c ≤ maxLen := by
  rcases h.2 with ⟨e, h0⟩ | ⟨g, cap, cur, e, hlo, hg, h1, h2, h3, h4⟩
  · rw [List.eq_nil_of_length_eq_zero h0]
    cases e
    exact ⟨SlO.nil _ _, rfl, Nat.le_refl _, Nat.zero_le _⟩
  · cases e
    refine ⟨fun k x hk => ⟨hin x (List.mem_of_getElem? hk), g, 0, rfl, ?_⟩, rfl, h1, h2⟩
    have hc : ∀ j u, x.cells[j]? = some u → w.cell? ⟨g, 0 + k * 12 + j, none⟩ = some u := fun j u hu => by
      have := World.ownsRow.cells h (g := g) rfl _ _ (cellsO_at hk j u hu)
      have hadd : (⟨g, 0, none⟩ : Addr).add (k * 12 + j) = ⟨g, k * 12 + j, none⟩ := by unfold Addr.add; split <;> simp_all
      rw [hadd] at this
      rw [Nat.zero_add]
      exact this
    exact ⟨hc 0 _ rfl, hc 1 _ rfl, hc 2 _ rfl, hc 3 _ rfl, hc 4 _ rfl, hc 5 _ rfl, hc 6 _ rfl, hc 7 _ rfl, hc 8 _ rfl, hc 9 _ rfl, hc 10 _ rfl, hc 11 _ rfl⟩
theorem cell_op (w : World) (x : OO) (t : TypeId) : ∀ j u, (cellsO [x])[j]? = some u → (w.alloc (.cells #[.int .i64 x.o.kind, .int .i64 x.o.who.role, .int .i64 x.o.who.why, .int .i64 x.o.who.time, .slice x.P.ra x.o.n x.P.rc, .string x.o.r.id, .int .i64 x.o.r.cats, .slice x.P.p.fa x.o.r.fs.length x.P.p.fc, .slice x.P.p.ra x.o.r.rs.length x.P.p.rc, .string x.o.id, .string x.o.f.key, .string x.o.f.val] t)).cell? ((⟨w.heap.size, 0, none⟩ : Addr).add j) = some u := fun j u hj => by
  have hadd : (⟨w.heap.size, 0, none⟩ : Addr).add j = ⟨w.heap.size, j, none⟩ := by unfold Addr.add; split <;> simp_all
  rw [hadd]
  have e : cellsO [x] = x.cells := by simp [cellsO]
  rw [e] at hj
  unfold OO.cells at hj
  match j, hj with
  | 0, hj => cases hj; simp [go_sem]
  | 1, hj => cases hj; simp [go_sem]
  | 2, hj => cases hj; simp [go_sem]
  | 3, hj => cases hj; simp [go_sem]
  | 4, hj => cases hj; simp [go_sem]
  | 5, hj => cases hj; simp [go_sem]
  | 6, hj => cases hj; simp [go_sem]
  | 7, hj => cases hj; simp [go_sem]
  | 8, hj => cases hj; simp [go_sem]
  | 9, hj => cases hj; simp [go_sem]
  | 10, hj => cases hj; simp [go_sem]
  | 11, hj => cases hj; simp [go_sem]
end Go.Proofs.YtepenlciaanoeaaGreatDoor
