/- A server, what it is asked and what it tells: mathematics and memory. -/
import Derived.Test.YteimdhkajbldjaaGreatRuleA
import Derived.Test.YteimdhkajbldjaaGreatFMath
import Derived.Test.YteimdhkajbldjaaGreatSFine
set_option linter.unusedVariables false
set_option linter.unusedSimpArgs false
set_option maxRecDepth 100000
namespace Go.Proofs.YteimdhkajbldjaaGreat
open Go.RowKit Go.Sort

structure NoteL where
  who : WhoL
  id : ByteArray
/-- a server: roles, rules, versions, notes -/
structure SrvX where
  m : Nat
  u : Nat → Nat
  n : Nat
  rs : Nat → RuleL
  vs : List VerL
  ns : List NoteL
/-- what is asked -/
structure OpL where
  kind : Int
  who : WhoL
  n : Nat
  rs : Nat → RuleL
  r : RecL
  id : ByteArray
  f : FieldL
/-- what is told -/
structure ToldL where
  code : Int
  vs : List VerL
  ids : List ByteArray
  ns : List NoteL

structure SrvX.Ok (X : SrvX) : Prop where
  roles : rolesErr X.m (fun k => (X.u k : Int)) = 0
  rules : rulesErr X.n X.rs = 0
  st : stErr X.vs = 0
  few : X.ns.length ≤ 60

def SrvX.zi (X : SrvX) (k : Nat) : Int := (X.u k : Int)
def seE (X : SrvX) (x : WhoL) : Int := seesE X.m X.zi X.n X.rs x
def seV (X : SrvX) (x : WhoL) : Nat := seesV X.m X.zi X.n X.rs x
def maE (X : SrvX) (x : WhoL) (c : Int) : Int := mayE X.m X.zi X.n X.rs x c
def maV (X : SrvX) (x : WhoL) (c : Int) : Bool := mayV X.m X.zi X.n X.rs x c
theorem seV_le (X : SrvX) (x : WhoL) : seV X x ≤ 255 := Nat.le_of_lt_succ seesV_lt
/-- P37, P38, P42: may they? -/
def chkE (X : SrvX) (x : WhoL) (c : Int) : Int := if maE X x c ≠ 0 then maE X x c else if maV X x c = true then 0 else 6
noncomputable def seenL (X : SrvX) (x : WhoL) : List VerL := prt X.vs (seV X x)
noncomputable def putC (X : SrvX) (x : WhoL) (r : RecL) : Int := if r.err ≠ 0 then r.err else if chkE X x r.cats ≠ 0 then chkE X x r.cats else putErr X.vs r
noncomputable def cutC (X : SrvX) (x : WhoL) (id : ByteArray) (c : Int) : Int := if chkE X x c ≠ 0 then chkE X x c else cutErr X.vs id c
noncomputable def getC (X : SrvX) (x : WhoL) (id : ByteArray) : Int := if seE X x ≠ 0 then seE X x else getErr (seenL X x) id
noncomputable def getT (X : SrvX) (x : WhoL) (id : ByteArray) : List VerL := if getC X x id = 0 then [⟨getR (seenL X x) id, false⟩] else []
noncomputable def findC (X : SrvX) (x : WhoL) (f : FieldL) : Int := if seE X x ≠ 0 then seE X x else byErr (seenL X x) f
noncomputable def findT (X : SrvX) (x : WhoL) (f : FieldL) : List ByteArray := if findC X x f = 0 then byL (seenL X x) f else []
noncomputable def histC (X : SrvX) (x : WhoL) (id : ByteArray) : Int := if seE X x ≠ 0 then seE X x else histErr (seenL X x) id
noncomputable def histT (X : SrvX) (x : WhoL) (id : ByteArray) : List VerL := if histC X x id = 0 then hist (seenL X x) id else []
noncomputable def needC (X : SrvX) (x : WhoL) (id : ByteArray) : Int := if seE X x ≠ 0 then seE X x else if 60 ≤ X.ns.length then 2 else getErr X.vs id
noncomputable def needT (X : SrvX) (x : WhoL) (id : ByteArray) : List VerL := if needC X x id = 0 then [⟨getR X.vs id, false⟩] else []
def auditT (X : SrvX) (x : WhoL) : List NoteL := if chkE X x 255 = 0 then X.ns else []

/-- P36 to P42: what is told -/
noncomputable def doT (X : SrvX) (o : OpL) : ToldL :=
  if o.kind = 1 then ⟨rulesErr o.n o.rs, [], [], []⟩
  else if o.kind = 2 then ⟨putC X o.who o.r, [], [], []⟩
  else if o.kind = 3 then ⟨cutC X o.who o.id o.r.cats, [], [], []⟩
  else if o.kind = 4 then ⟨getC X o.who o.id, getT X o.who o.id, [], []⟩
  else if o.kind = 5 then ⟨findC X o.who o.f, [], findT X o.who o.f, []⟩
  else if o.kind = 6 then ⟨histC X o.who o.id, histT X o.who o.id, [], []⟩
  else if o.kind = 7 then ⟨needC X o.who o.id, needT X o.who o.id, [], []⟩
  else if o.kind = 8 then ⟨chkE X o.who 255, [], [], auditT X o.who⟩
  else ⟨3, [], [], []⟩
/-- .. and what becomes of the server -/
noncomputable def setS (X : SrvX) (n : Nat) (rs : Nat → RuleL) : SrvX := if rulesErr n rs = 0 then { X with n := n, rs := rs } else X
noncomputable def putS (X : SrvX) (x : WhoL) (r : RecL) : SrvX := if putC X x r = 0 then { X with vs := X.vs ++ [⟨r, false⟩] } else X
noncomputable def cutS (X : SrvX) (x : WhoL) (id : ByteArray) (c : Int) : SrvX := if cutC X x id c = 0 then { X with vs := X.vs ++ [goneV id c] } else X
noncomputable def needS (X : SrvX) (x : WhoL) (id : ByteArray) : SrvX := if needC X x id = 0 then { X with ns := X.ns ++ [⟨x, id⟩] } else X
noncomputable def doX (X : SrvX) (o : OpL) : SrvX :=
  if o.kind = 1 then setS X o.n o.rs
  else if o.kind = 2 then putS X o.who o.r
  else if o.kind = 3 then cutS X o.who o.id o.r.cats
  else if o.kind = 7 then needS X o.who o.id
  else X

/-- no store is so full that there is no room for kinds that have some -/
def lowC (N : Nat) (v : VerL) : Bool := decide (0 ≤ v.r.cats ∧ v.r.cats < (N : Int))
theorem count_succ (l : List VerL) (N : Nat) : l.countP (lowC (N + 1)) ≤ l.countP (lowC N) + same l (N : Int) := by
  unfold same
  induction l with
  | nil => simp
  | cons v l ih =>
    simp only [List.countP_cons]
    have : (if lowC (N + 1) v = true then 1 else 0) ≤ (if lowC N v = true then 1 else 0) + (if decide (v.r.cats = (N : Int)) = true then 1 else 0) := by
      unfold lowC
      simp only [decide_eq_true_eq]
      split <;> split <;> (try split) <;> omega
    omega
theorem count_below {l : List VerL} (h : ∀ c, same l c ≤ 20) : ∀ N : Nat, l.countP (lowC N) ≤ 20 * N
  | 0 => by
    rw [List.countP_eq_zero.2]
    · exact Nat.zero_le _
    · intro v _ hv
      unfold lowC at hv
      have := of_decide_eq_true hv
      omega
  | N + 1 => by
    have ih := count_below h N
    have h1 := h (N : Int)
    have := count_succ l N
    omega
theorem count_room {l : List VerL} (h : ∀ c, same l c ≤ 20) {c : Nat} (hc : same l (c : Int) < 20) : ∀ N : Nat, c < N → l.countP (lowC N) < 20 * N
  | 0, h0 => by omega
  | N + 1, h0 => by
    have := count_succ l N
    have h2 := h (N : Int)
    by_cases e : c = N
    · subst e
      have := count_below h c
      omega
    · have ih := count_room h hc N (by omega)
      omega
theorem count_full {l : List VerL} (h : StOk l) : l.countP (lowC 256) = l.length := by
  rw [List.countP_eq_length]
  intro v hv
  have k0 := (h.ver v hv).c0
  have k1 := (h.ver v hv).c1
  unfold lowC
  rw [decide_eq_true_eq]
  omega
theorem room_for {l : List VerL} (h : StOk l) {c : Int} (h0 : 0 ≤ c) (h1 : c ≤ 255) (hs : same l c < 20) : l.length < 5120 := by
  have := count_room h.few (c := c.toNat) (by rwa [Int.toNat_of_nonneg h0]) 256 (by omega)
  rw [count_full h] at this
  omega

theorem SrvX.Ok.put {X : SrvX} (h : X.Ok) (x : WhoL) (r : RecL) : (putS X x r).Ok := by
  unfold putS
  split
  · rename_i h0
    unfold putC at h0
    split at h0
    · contradiction
    · split at h0
      · contradiction
      · refine ⟨h.roles, h.rules, ?_, h.few⟩
        have h1 := putErr_ok.1 h0
        refine stErr_put h0 (room_for (stErr_ok.1 h.st).2 h1.2.1.c0 h1.2.1.c1 h1.2.2)
  · exact h
theorem SrvX.Ok.cut {X : SrvX} (h : X.Ok) (x : WhoL) (id : ByteArray) (c : Int) : (cutS X x id c).Ok := by
  unfold cutS
  split
  · rename_i h0
    unfold cutC at h0
    split at h0
    · contradiction
    · refine ⟨h.roles, h.rules, ?_, h.few⟩
      have h1 := cutErr_ok.1 h0
      exact stErr_cut h0 (room_for (stErr_ok.1 h.st).2 h1.2.2.1.1 h1.2.2.1.2 h1.2.2.2.2)
  · exact h
theorem SrvX.Ok.set {X : SrvX} (h : X.Ok) (n : Nat) (rs : Nat → RuleL) : (setS X n rs).Ok := by
  unfold setS
  split
  · rename_i h0
    exact ⟨h.roles, h0, h.st, h.few⟩
  · exact h
theorem SrvX.Ok.need {X : SrvX} (h : X.Ok) (x : WhoL) (id : ByteArray) : (needS X x id).Ok := by
  unfold needS
  split
  · rename_i h0
    unfold needC at h0
    split at h0
    · contradiction
    · split at h0
      · contradiction
      · refine ⟨h.roles, h.rules, h.st, ?_⟩
        simp only [List.length_append, List.length_cons, List.length_nil]
        omega
  · exact h
theorem SrvX.Ok.doX {X : SrvX} (h : X.Ok) (o : OpL) : (doX X o).Ok := by
  unfold Go.Proofs.YteimdhkajbldjaaGreat.doX
  split
  · exact h.set _ _
  · split
    · exact h.put _ _
    · split
      · exact h.cut _ _ _
      · split
        · exact h.need _ _
        · exact h
theorem prt_st {vs : List VerL} (h : stErr vs = 0) (s : Int) : stErr (prt vs s) = 0 := by
  obtain ⟨h1, h2⟩ := stErr_ok.1 h
  exact stErr_ok.2 ⟨Nat.le_trans (prt_length _ _) h1, h2.prt s⟩
end Go.Proofs.YteimdhkajbldjaaGreat
namespace Go.Proofs.YteimdhkajbldjaaGreat
open Go.RowKit Go.Sort

/-- of the blocks Z all that are there stay as they are -/
structure Kept (Z : Nat → Prop) (w w' : World) : Prop where
  os : w'.os = w.os
  tape : w'.tape = w.tape
  output : w'.output = w.output
  size : w.heap.size ≤ w'.heap.size
  block : ∀ z, Z z → z < w.heap.size → w'.heap[z]? = w.heap[z]?
theorem Kept.refl (Z : Nat → Prop) (w : World) : Kept Z w w := ⟨rfl, rfl, rfl, Nat.le_refl _, fun _ _ _ => rfl⟩
theorem Kept.trans {Z : Nat → Prop} {w w1 w2 : World} (h : Kept Z w w1) (k : Kept Z w1 w2) : Kept Z w w2 :=
  ⟨k.os.trans h.os, k.tape.trans h.tape, k.output.trans h.output, Nat.le_trans h.size k.size, fun z hz hl => (k.block z hz (Nat.lt_of_lt_of_le hl h.size)).trans (h.block z hz hl)⟩
theorem Kept.sub {Z Z' : Nat → Prop} {w w' : World} (h : Kept Z w w') (hz : ∀ z, z < w.heap.size → Z' z → Z z) : Kept Z' w w' := ⟨h.os, h.tape, h.output, h.size, fun z k hl => h.block z (hz z hl k) hl⟩
theorem Kept.of {Z : Nat → Prop} {w w' : World} (h : Below w.heap.size w w') : Kept Z w w' := ⟨h.os, h.tape, h.output, h.size, fun z _ hl => h.block z hl⟩
theorem Kept.to {Z : Nat → Prop} {w w' : World} {S : Nat} (h : Kept Z w w') (hz : ∀ z, z < S → Z z) (hS : S ≤ w.heap.size) : Below S w w' := ⟨h.os, h.tape, h.output, h.size, fun z hl => h.block z (hz z hl) (Nat.lt_of_lt_of_le hl hS)⟩
theorem Kept.grown {Z : Nat → Prop} {w w' : World} {row : Option Nat} (h : w.grownBy w' row) (hz : ∀ z, Z z → some z ≠ row) : Kept Z w w' := ⟨h.os, h.tape, h.output, h.size, fun z k hl => h.block z hl (hz z k)⟩
theorem Kept.cell {Z : Nat → Prop} {w w' : World} {b o : Nat} {v : Value} (h : Kept Z w w') (hz : Z b) (hc : w.cell? ⟨b, o, none⟩ = some v) : w'.cell? ⟨b, o, none⟩ = some v := (World.cell?_of_block (a := ⟨b, o, none⟩) (h.block b hz (cell_lt hc))).trans hc
theorem Kept.frozen {Z : Nat → Prop} {w w' : World} {b o : Nat} (h : Kept Z w w') (hz : Z b) (hl : b < w.heap.size) : w'.frozen? ⟨b, o, none⟩ = w.frozen? ⟨b, o, none⟩ := World.frozen?_of_block (a := ⟨b, o, none⟩) (h.block b hz hl)
theorem Kept.setCell {Z : Nat → Prop} (w : World) {a : Addr} (hz : ¬ Z a.block) (u : Value) : Kept Z w (w.setCell a u) := Kept.grown (grown_setCell w a u) fun z k e => by cases e; exact hz k
theorem Kept.drew (Z : Nat → Prop) (w : World) : Kept Z w w.drew := ⟨rfl, rfl, rfl, Nat.le_refl _, fun _ _ _ => rfl⟩

/-- so it is in whatever world in which the blocks Z are as they are here -/
def On (Z : Nat → Prop) (P : World → Prop) (w : World) : Prop := ∀ w', Kept Z w w' → P w'
theorem On.here {Z : Nat → Prop} {P : World → Prop} {w : World} (h : On Z P w) : P w := h w (Kept.refl _ _)
theorem On.step {Z Z1 Z2 : Nat → Prop} {P : World → Prop} {w w1 : World} (h : On Z P w) (k : Kept Z1 w w1) (h1 : ∀ z, z < w.heap.size → Z z → Z1 z) (h2 : ∀ z, z < w.heap.size → Z z → Z2 z) : On Z2 P w1 := fun w2 k2 =>
  h w2 ⟨k2.os.trans k.os, k2.tape.trans k.tape, k2.output.trans k.output, Nat.le_trans k.size k2.size, fun z hz hl => (k2.block z (h2 z hl hz) (Nat.lt_of_lt_of_le hl k.size)).trans (k.block z (h1 z hl hz) hl)⟩
theorem own_kept {Z : Nat → Prop} {B size n : Nat} {e : TypeId} {w w' : World} {v : Value} {xs : List Value} (h : w.ownsRow B e size v n xs) (k : Kept Z w w') (hz : ∀ b, v.ownBlock = some b → Z b) : w'.ownsRow B e size v n xs := by
  obtain ⟨h1, h2⟩ := h
  refine ⟨h1, ?_⟩
  rcases h2 with h2 | ⟨g, cap, cur, e1, hlo, hg, r⟩
  · exact .inl h2
  · refine .inr ⟨g, cap, cur, e1, hlo, ?_, r⟩
    rw [k.block g (hz g (by rw [e1]; rfl)) (Array.getElem?_eq_some_iff.1 hg).1]
    exact hg
theorem own_from {B size n : Nat} {e : TypeId} {w : World} {v : Value} {xs : List Value} (h : w.ownsRow B e size v n xs) {Z : Nat → Prop} (hz : ∀ b, B ≤ b → b < w.heap.size → Z b) : ∀ b, v.ownBlock = some b → Z b := fun b hb => by
  obtain ⟨h1, h2⟩ := World.ownsRow.lt h b hb
  exact hz b h1 h2
theorem NewRec.kept {Z : Nat → Prop} {B : Nat} {w w' : World} {r : RecL} {p : At} (h : NewRec B w r p) (k : Kept Z w w') (hz : ∀ b, B ≤ b → b < w.heap.size → Z b) : NewRec B w' r p := ⟨own_kept h.f k (own_from h.f hz), own_kept h.r k (own_from h.r hz)⟩
theorem NewW.kept {Z : Nat → Prop} {B : Nat} {w w' : World} {A : Option Addr} {m c : Nat} {vs : List VerL} (h : NewW B w A m c vs) (k : Kept Z w w') (hz : ∀ b, B ≤ b → b < w.heap.size → Z b) : NewW B w' A m c vs := by
  obtain ⟨q, h1, h2, h3, h4⟩ := h
  exact ⟨q, h1, h2, own_kept h3 k (own_from h3 hz), fun x hx => (h4 x hx).kept k hz⟩

/-! ## roles, rules, notes -/
/-- the value v owns, from block B on, n numbers -/
def OwnI (B : Nat) (w : World) (v : Value) (n : Nat) (z : Nat → Int) : Prop := w.ownsRow B 3 1 v n (flat (fun k => [.int .i64 (z k)]) n)
theorem one_len (z : Nat → Int) (k : Nat) : [Value.int .i64 (z k)].length = 1 := rfl
theorem OwnI.sl {B : Nat} {w : World} {A : Option Addr} {n c : Nat} {z : Nat → Int} (h : OwnI B w (.slice A n c) n z) : Sl w A n z ∧ n ≤ c ∧ c ≤ maxLen := by
  rcases h.2 with ⟨e, h0⟩ | ⟨g, cap, cur, e, hlo, hg, h1, h2, h3, h4⟩
  · subst h0
    cases e
    exact ⟨fun k hk => absurd hk (Nat.not_lt_zero k), Nat.le_refl _, Nat.zero_le _⟩
  · cases e
    refine ⟨fun k hk => ⟨g, 0, rfl, ?_⟩, h1, h2⟩
    have hj : (flat (fun k => [Value.int .i64 (z k)]) n)[k]? = some (.int .i64 (z k)) := by
      have := flat_get (f := fun k => [Value.int .i64 (z k)]) (s := 1) (fun k => rfl) hk (j := 0) (by omega)
      rw [Nat.mul_one, Nat.add_zero] at this
      rw [this]
      rfl
    have := World.ownsRow.cells h (g := g) rfl k _ hj
    have hadd : (⟨g, 0, none⟩ : Addr).add k = ⟨g, k, none⟩ := by unfold Addr.add; split <;> simp_all
    rw [hadd] at this
    rw [Nat.zero_add]
    exact this
def NoteL.cells (x : NoteL) : List Value := [.int .i64 x.who.role, .int .i64 x.who.why, .int .i64 x.who.time, .string x.id]
def cellsN (l : List NoteL) : List Value := l.flatMap NoteL.cells
theorem cellsN_append (a b : List NoteL) : cellsN (a ++ b) = cellsN a ++ cellsN b := List.flatMap_append
theorem cellsN_one (l : List NoteL) : ∀ u ∈ cellsN l, u.oneCell' = true := fun u hu => by
  obtain ⟨x, _, hx⟩ := List.mem_flatMap.1 hu
  simp only [NoteL.cells, List.mem_cons, List.not_mem_nil, or_false] at hx
  rcases hx with rfl | rfl | rfl | rfl <;> rfl
theorem cellsN_len : ∀ l : List NoteL, (cellsN l).length = l.length * 4
  | [] => rfl
  | x :: r => by
    have ih := cellsN_len r
    have e : cellsN (x :: r) = x.cells ++ cellsN r := rfl
    rw [e, List.length_append, ih, List.length_cons, show x.cells.length = 4 from rfl]
    omega
theorem cellsN_at : ∀ {l : List NoteL} {k : Nat} {x : NoteL}, l[k]? = some x → ∀ j u, x.cells[j]? = some u → (cellsN l)[k * 4 + j]? = some u
  | [], k, x, h, _, _, _ => by simp at h
  | y :: r, 0, x, h, j, u, hu => by
    simp only [List.getElem?_cons_zero, Option.some.injEq] at h
    subst h
    have e : cellsN (y :: r) = y.cells ++ cellsN r := rfl
    rw [e, Nat.zero_mul, Nat.zero_add, List.getElem?_append_left (List.getElem?_eq_some_iff.1 hu).1]
    exact hu
  | y :: r, k + 1, x, h, j, u, hu => by
    rw [List.getElem?_cons_succ] at h
    have ih := cellsN_at h j u hu
    have e : cellsN (y :: r) = y.cells ++ cellsN r := rfl
    rw [e, List.getElem?_append_right (by show 4 ≤ _; omega), show (k + 1) * 4 + j - y.cells.length = k * 4 + j by show (k + 1) * 4 + j - 4 = _; omega]
    exact ih
theorem cellsN_of : ∀ {l : List NoteL} {j : Nat} {u : Value}, (cellsN l)[j]? = some u → ∃ k x i, l[k]? = some x ∧ j = k * 4 + i ∧ x.cells[i]? = some u
  | [], j, u, h => by simp [cellsN] at h
  | y :: r, j, u, h => by
    have e : cellsN (y :: r) = y.cells ++ cellsN r := rfl
    rw [e] at h
    by_cases hj : j < 4
    · rw [List.getElem?_append_left (by exact hj)] at h
      exact ⟨0, y, j, rfl, by omega, h⟩
    · rw [List.getElem?_append_right (by show 4 ≤ j; omega)] at h
      obtain ⟨k, x, i, h1, h2, h3⟩ := cellsN_of h
      refine ⟨k + 1, x, i, h1, ?_, h3⟩
      have : y.cells.length = 4 := rfl
      omega
/-- the cells of a slice of notes -/
def SlN (w : World) (a : Option Addr) (l : List NoteL) : Prop :=
  ∀ k x, l[k]? = some x → ∃ b off, a = some ⟨b, off, none⟩ ∧ w.cell? ⟨b, off + k * 4, none⟩ = some (.int .i64 x.who.role) ∧ w.cell? ⟨b, off + k * 4 + 1, none⟩ = some (.int .i64 x.who.why) ∧
    w.cell? ⟨b, off + k * 4 + 2, none⟩ = some (.int .i64 x.who.time) ∧ w.cell? ⟨b, off + k * 4 + 3, none⟩ = some (.string x.id)
theorem SlN.keep {w w' : World} {a : Option Addr} {l : List NoteL} (h : SlN w a l) (hb : ∀ b o, b < w.heap.size → w'.cell? ⟨b, o, none⟩ = w.cell? ⟨b, o, none⟩) : SlN w' a l := fun k x hk => by
  obtain ⟨b, off, rfl, h0, h1, h2, h3⟩ := h k x hk
  exact ⟨b, off, rfl, (hb _ _ (cell_lt h0)).trans h0, (hb _ _ (cell_lt h0)).trans h1, (hb _ _ (cell_lt h0)).trans h2, (hb _ _ (cell_lt h0)).trans h3⟩
theorem SlN.below {w w' : World} {a : Option Addr} {l : List NoteL} (h : SlN w a l) (hb : Below w.heap.size w w') : SlN w' a l := h.keep (bcell hb).1
theorem SlN.nil (w : World) (a : Option Addr) : SlN w a [] := fun k x h => by simp at h
theorem SlN.cells {w : World} {ad : Addr} {l : List NoteL} (h : SlN w (some ad) l) : ∀ j u, (cellsN l)[j]? = some u → w.cell? (ad.add j) = some u := fun j u hj => by
  obtain ⟨k, x, i, h1, rfl, h3⟩ := cellsN_of hj
  obtain ⟨b, off, e, c0, c1, c2, c3⟩ := h k x h1
  cases e
  have hadd : (⟨b, off, none⟩ : Addr).add (k * 4 + i) = ⟨b, off + (k * 4 + i), none⟩ := by unfold Addr.add; split <;> simp_all
  rw [hadd, ← Nat.add_assoc]
  match i, h3 with
  | 0, h3 => cases h3; exact c0
  | 1, h3 => cases h3; exact c1
  | 2, h3 => cases h3; exact c2
  | 3, h3 => cases h3; exact c3
theorem slN_of {w : World} {g o : Nat} {l : List NoteL} (h : ∀ j u, (cellsN l)[j]? = some u → w.cell? ⟨g, o + j, none⟩ = some u) : SlN w (some ⟨g, o, none⟩) l := fun k x hk =>
  ⟨g, o, rfl, h _ _ (cellsN_at hk 0 _ rfl), by rw [Nat.add_assoc]; exact h _ _ (cellsN_at hk 1 _ rfl), by rw [Nat.add_assoc]; exact h _ _ (cellsN_at hk 2 _ rfl), by rw [Nat.add_assoc]; exact h _ _ (cellsN_at hk 3 _ rfl)⟩
/-- the value v owns, from block B on, these notes -/
def OwnN (B : Nat) (w : World) (v : Value) (l : List NoteL) : Prop := w.ownsRow B 112 4 v l.length (cellsN l)
theorem OwnN.form {B : Nat} {w : World} {v : Value} {l : List NoteL} (h : OwnN B w v l) : ∃ A c, v = .slice A l.length c := by
  rcases h.2 with ⟨e, h0⟩ | ⟨g, cap, cur, e, _⟩
  · exact ⟨none, 0, by rw [e, h0]⟩
  · exact ⟨_, _, e⟩
theorem OwnN.sl {B : Nat} {w : World} {A : Option Addr} {n c : Nat} {l : List NoteL} (h : OwnN B w (.slice A n c) l) : SlN w A l ∧ n = l.length ∧ n ≤ c ∧ c ≤ maxLen := by
  rcases h.2 with ⟨e, h0⟩ | ⟨g, cap, cur, e, hlo, hg, h1, h2, h3, h4⟩
  · rw [List.eq_nil_of_length_eq_zero h0]
    cases e
    exact ⟨SlN.nil _ _, rfl, Nat.le_refl _, Nat.zero_le _⟩
  · have e2 := e
    cases e
    refine ⟨slN_of fun j u hj => ?_, rfl, h1, h2⟩
    have := World.ownsRow.cells h (g := g) rfl j u hj
    have hadd : (⟨g, 0, none⟩ : Addr).add j = ⟨g, j, none⟩ := by unfold Addr.add; split <;> simp_all
    rw [hadd] at this
    rw [Nat.zero_add]
    exact this

/-! ## the server -/
/-- the blocks on which a server's reading hangs: not its own cells, not its notes, nothing foreign -/
def Firm (p q : Nat) (F : Nat → Prop) (z : Nat) : Prop := ¬ F z ∧ z ≠ p ∧ z ≠ q
/-- block p is a server that has X; q: where its notes lie (p, if there are none); all that it writes lies from block S on; of the blocks F none is its own -/
structure Srv (w : World) (S p q : Nat) (F : Nat → Prop) (X : SrvX) : Prop where
  sp : S ≤ p
  sq : S ≤ q
  fp : ¬ F p
  fq : ¬ F q
  pw : p < w.heap.size
  qw : q < w.heap.size
  fz : ∀ o, w.frozen? ⟨p, o, none⟩ = false
  c0 : ∃ a c, w.cell? ⟨p, 0, none⟩ = some (.slice a X.m c) ∧ On (Firm p q F) (fun w => SlV w a X.m X.u) w
  c1 : ∃ a c, w.cell? ⟨p, 1, none⟩ = some (.slice a X.n c) ∧ On (Firm p q F) (fun w => SlR w a X.n X.rs) w
  c2 : ∃ a c, w.cell? ⟨p, 2, none⟩ = some (.slice a X.vs.length c) ∧ On (Firm p q F) (fun w => VsAt w a X.vs.length X.vs) w
  c3 : ∃ a c, w.cell? ⟨p, 3, none⟩ = some (.slice a X.ns.length c) ∧ OwnN (p + 1) w (.slice a X.ns.length c) X.ns ∧ ∀ b, (Value.slice a X.ns.length c).ownBlock = some b → b = q
  ok : X.Ok
/-- what is foreign, in a world that is as w was but for blocks that are foreign -/
theorem Srv.keep {w w' : World} {S p q : Nat} {F F' : Nat → Prop} {X : SrvX} (h : Srv w S p q F X) (k : Kept (fun z => ¬ F z) w w') (hF : ∀ z, z < w.heap.size → F' z → F z) : Srv w' S p q F' X where
  sp := h.sp
  sq := h.sq
  fp := fun e => h.fp (hF p h.pw e)
  fq := fun e => h.fq (hF q h.qw e)
  pw := Nat.lt_of_lt_of_le h.pw k.size
  qw := Nat.lt_of_lt_of_le h.qw k.size
  fz o := (k.frozen h.fp h.pw).trans (h.fz o)
  c0 := by
    obtain ⟨a, c, h1, h2⟩ := h.c0
    exact ⟨a, c, k.cell h.fp h1, h2.step k (fun z _ hz => hz.1) (fun z hl hz => ⟨fun e => hz.1 (hF z hl e), hz.2⟩)⟩
  c1 := by
    obtain ⟨a, c, h1, h2⟩ := h.c1
    exact ⟨a, c, k.cell h.fp h1, h2.step k (fun z _ hz => hz.1) (fun z hl hz => ⟨fun e => hz.1 (hF z hl e), hz.2⟩)⟩
  c2 := by
    obtain ⟨a, c, h1, h2⟩ := h.c2
    exact ⟨a, c, k.cell h.fp h1, h2.step k (fun z _ hz => hz.1) (fun z hl hz => ⟨fun e => hz.1 (hF z hl e), hz.2⟩)⟩
  c3 := by
    obtain ⟨a, c, h1, h2, h3⟩ := h.c3
    exact ⟨a, c, k.cell h.fp h1, own_kept h2 k (fun b hb => by rw [h3 b hb]; exact h.fq), h3⟩
  ok := h.ok
theorem Srv.below {w w' : World} {S p q : Nat} {F : Nat → Prop} {X : SrvX} (h : Srv w S p q F X) (hb : Below w.heap.size w w') : Srv w' S p q F X := h.keep (Kept.of hb) fun _ _ e => e
theorem Srv.sub {w : World} {S p q : Nat} {F F' : Nat → Prop} {X : SrvX} (h : Srv w S p q F X) (hF : ∀ z, z < w.heap.size → F' z → F z) : Srv w S p q F' X := h.keep (Kept.refl _ _) hF
/-- new rules: those at a, that lie in memory which is the server's from now on -/
theorem Srv.setRules {w : World} {S p q : Nat} {F : Nat → Prop} {X : SrvX} (h : Srv w S p q F X) {n : Nat} {rs : Nat → RuleL} {a : Option Addr} {c : Nat} (hr : On (Firm p q F) (fun w => SlR w a n rs) w) (h0 : rulesErr n rs = 0) :
    Srv (w.setCell ⟨p, 1, none⟩ (.slice a n c)) S p q F (setS X n rs) := by
  have hk : Kept (Firm p q F) w (w.setCell ⟨p, 1, none⟩ (.slice a n c)) := Kept.setCell w (fun k => k.2.1 rfl) _
  have e : setS X n rs = { X with n := n, rs := rs } := by unfold setS; rw [if_pos h0]
  rw [e]
  have hz1 := h.fz 1
  have hpw := h.pw
  refine ⟨h.sp, h.sq, h.fp, h.fq, by simpa [World.setCell] using h.pw, by simpa [World.setCell] using h.qw, fun o => by rw [World.frozen?_setCell]; exact h.fz o, ?_, ?_, ?_, ?_, ⟨h.ok.roles, h0, h.ok.st, h.ok.few⟩⟩
  · obtain ⟨a', c', h1, h2⟩ := h.c0
    exact ⟨a', c', (World.cell?_setCell_other _ _ _ _ (by simp)).trans h1, h2.step hk (fun z _ hz => hz) (fun z _ hz => hz)⟩
  · obtain ⟨a', c', h1, h2⟩ := h.c1
    exact ⟨a, c, by simp [go_sem, h1], hr.step hk (fun z _ hz => hz) (fun z _ hz => hz)⟩
  · obtain ⟨a', c', h1, h2⟩ := h.c2
    exact ⟨a', c', (World.cell?_setCell_other _ _ _ _ (by simp)).trans h1, h2.step hk (fun z _ hz => hz) (fun z _ hz => hz)⟩
  · obtain ⟨a', c', h1, h2, h3⟩ := h.c3
    exact ⟨a', c', (World.cell?_setCell_other _ _ _ _ (by simp)).trans h1, own_setCell h2 (Nat.lt_succ_self p) _, h3⟩
/-- new versions -/
theorem Srv.setVs {w : World} {S p q : Nat} {F : Nat → Prop} {X : SrvX} (h : Srv w S p q F X) {vs : List VerL} {a : Option Addr} {n c : Nat} (hn : n = vs.length) (hr : On (Firm p q F) (fun w => VsAt w a n vs) w) (h0 : stErr vs = 0) :
    Srv (w.setCell ⟨p, 2, none⟩ (.slice a n c)) S p q F { X with vs := vs } := by
  subst hn
  have hk : Kept (Firm p q F) w (w.setCell ⟨p, 2, none⟩ (.slice a vs.length c)) := Kept.setCell w (fun k => k.2.1 rfl) _
  refine ⟨h.sp, h.sq, h.fp, h.fq, by simpa [World.setCell] using h.pw, by simpa [World.setCell] using h.qw, fun o => by rw [World.frozen?_setCell]; exact h.fz o, ?_, ?_, ?_, ?_, ⟨h.ok.roles, h.ok.rules, h0, h.ok.few⟩⟩
  · obtain ⟨a', c', h1, h2⟩ := h.c0
    exact ⟨a', c', (World.cell?_setCell_other _ _ _ _ (by simp)).trans h1, h2.step hk (fun z _ hz => hz) (fun z _ hz => hz)⟩
  · obtain ⟨a', c', h1, h2⟩ := h.c1
    exact ⟨a', c', (World.cell?_setCell_other _ _ _ _ (by simp)).trans h1, h2.step hk (fun z _ hz => hz) (fun z _ hz => hz)⟩
  · obtain ⟨a', c', h1, h2⟩ := h.c2
    exact ⟨a, c, by simp [go_sem, h1], hr.step hk (fun z _ hz => hz) (fun z _ hz => hz)⟩
  · obtain ⟨a', c', h1, h2, h3⟩ := h.c3
    exact ⟨a', c', (World.cell?_setCell_other _ _ _ _ (by simp)).trans h1, own_setCell h2 (Nat.lt_succ_self p) _, h3⟩
/-- notes that were appended to: q' is where they lie now -/
theorem Srv.setNs {w w1 : World} {S p q q' : Nat} {F : Nat → Prop} {X : SrvX} (h : Srv w S p q F X) {ns : List NoteL} {a : Option Addr} {n c : Nat} (hn : n = ns.length) (hk1 : Kept (fun z => z ≠ q ∨ z = p) w w1) (ho : OwnN (p + 1) w1 (.slice a n c) ns) (hq : ∀ b, (Value.slice a n c).ownBlock = some b → b = q')
    (hqq : q' = q ∨ (w.heap.size ≤ q' ∧ ¬ F q')) (hq1 : q' < w1.heap.size) (h0 : ns.length ≤ 60) :
    Srv (w1.setCell ⟨p, 3, none⟩ (.slice a n c)) S p q' F { X with ns := ns } := by
  subst hn
  have hpk : (fun z => z ≠ q ∨ z = p) p := .inr rfl
  have hk2 : Kept (Firm p q F) w1 (w1.setCell ⟨p, 3, none⟩ (.slice a ns.length c)) := Kept.setCell w1 (fun k => k.2.1 rfl) _
  have hk : Kept (Firm p q F) w (w1.setCell ⟨p, 3, none⟩ (.slice a ns.length c)) := (hk1.sub fun z _ hz => .inl hz.2.2).trans hk2
  have hF : ∀ z, z < w.heap.size → Firm p q F z → Firm p q' F z := fun z hl hz => ⟨hz.1, hz.2.1, fun e => by
    rcases hqq with e1 | ⟨e1, _⟩
    · exact hz.2.2 (e.trans e1)
    · omega⟩
  have hsp := h.sp
  have hpw := h.pw
  have hsq := h.sq
  refine ⟨h.sp, by rcases hqq with e | ⟨e, _⟩ <;> omega, h.fp, by rcases hqq with e | ⟨_, e⟩; rw [e]; exact h.fq; exact e, by have := hk1.size; simp [World.setCell]; omega, by simpa [World.setCell] using hq1, fun o => by rw [World.frozen?_setCell]; exact (hk1.frozen hpk h.pw).trans (h.fz o), ?_, ?_, ?_, ?_, ⟨h.ok.roles, h.ok.rules, h.ok.st, h0⟩⟩
  · obtain ⟨a', c', h1, h2⟩ := h.c0
    exact ⟨a', c', (World.cell?_setCell_other _ _ _ _ (by simp)).trans (hk1.cell hpk h1), h2.step hk (fun z _ hz => hz) hF⟩
  · obtain ⟨a', c', h1, h2⟩ := h.c1
    exact ⟨a', c', (World.cell?_setCell_other _ _ _ _ (by simp)).trans (hk1.cell hpk h1), h2.step hk (fun z _ hz => hz) hF⟩
  · obtain ⟨a', c', h1, h2⟩ := h.c2
    exact ⟨a', c', (World.cell?_setCell_other _ _ _ _ (by simp)).trans (hk1.cell hpk h1), h2.step hk (fun z _ hz => hz) hF⟩
  · obtain ⟨a', c', h1, h2, h3⟩ := h.c3
    have h1' := hk1.cell hpk h1
    exact ⟨a, c, by simp [go_sem, h1'], own_setCell ho (Nat.lt_succ_self p) _, hq⟩
end Go.Proofs.YteimdhkajbldjaaGreat
namespace Go.Proofs.YteimdhkajbldjaaGreat
open Go.RowKit Go.Sort

/-- where the lists of an operation lie -/
structure OpP where
  ra : Option Addr
  rc : Nat
  p : At
abbrev OpL.v (o : OpL) (P : OpP) : Value := .agg #[.int .i64 o.kind, .int .i64 o.who.role, .int .i64 o.who.why, .int .i64 o.who.time, .slice P.ra o.n P.rc, .string o.r.id, .int .i64 o.r.cats, .slice P.p.fa o.r.fs.length P.p.fc, .slice P.p.ra o.r.rs.length P.p.rc, .string o.id, .string o.f.key, .string o.f.val]
structure OpL.in_ (o : OpL) (P : OpP) (w : World) : Prop where
  rs : SlR w P.ra o.n o.rs
  rl : o.n ≤ P.rc
  rm : P.rc ≤ maxLen
  r : o.r.in_ P.p w
  sh : o.r.short
  fsh : o.f.short
theorem OpL.in_.below {o : OpL} {P : OpP} {w w' : World} (h : o.in_ P w) (hb : Below w.heap.size w w') : o.in_ P w' := ⟨h.rs.below hb, h.rl, h.rm, h.r.below hb, h.sh, h.fsh⟩

/-- where what is told lies -/
structure ToldP where
  va : Option Addr
  vc : Nat
  ia : Option Addr
  ic : Nat
  na : Option Addr
  nc : Nat
abbrev ToldL.v (t : ToldL) (P : ToldP) : Value := .agg #[.int .i64 t.code, .slice P.va t.vs.length P.vc, .slice P.ia t.ids.length P.ic, .slice P.na t.ns.length P.nc]
/-- it is new from block B on -/
structure NewTold (B : Nat) (w : World) (t : ToldL) (P : ToldP) : Prop where
  v : NewW B w P.va t.vs.length P.vc t.vs
  i : OwnS B w (.slice P.ia t.ids.length P.ic) t.ids
  n : OwnN B w (.slice P.na t.ns.length P.nc) t.ns
theorem NewTold.kept {Z : Nat → Prop} {B : Nat} {w w' : World} {t : ToldL} {P : ToldP} (h : NewTold B w t P) (k : Kept Z w w') (hz : ∀ b, B ≤ b → b < w.heap.size → Z b) : NewTold B w' t P :=
  ⟨h.v.kept k hz, own_kept h.i k (own_from h.i hz), own_kept h.n k (own_from h.n hz)⟩
theorem NewTold.below {B : Nat} {w w' : World} {t : ToldL} {P : ToldP} (h : NewTold B w t P) (hb : Below w.heap.size w w') : NewTold B w' t P := h.kept (Z := fun _ => True) (Kept.of hb) fun _ _ _ => trivial
theorem NewTold.low {B B' : Nat} {w : World} {t : ToldL} {P : ToldP} (h : NewTold B w t P) (hB : B' ≤ B) : NewTold B' w t P := ⟨h.v.low hB, own_low h.i hB, own_low h.n hB⟩
def ToldP.none : ToldP := ⟨Option.none, 0, Option.none, 0, Option.none, 0⟩
theorem NewTold.bare (B : Nat) (w : World) (c : Int) : NewTold B w ⟨c, [], [], []⟩ ToldP.none := ⟨NewW.nil _ _, World.ownsRow_nil _ _ _ _, World.ownsRow_nil _ _ _ _⟩

/-- what Do leaves: the server that has done it, what is told -/
def DoTo (S p q : Nat) (F : Nat → Prop) (X : SrvX) (o : OpL) (w : World) (e : Ending) (w' : World) : Prop :=
  ∃ P q', e = .returned ((doT X o).v P) ∧ NewTold w.heap.size w' (doT X o) P ∧ Srv w' S p q' F (doX X o) ∧ (q' = q ∨ w.heap.size ≤ q') ∧ Kept (fun z => z ≠ p ∧ z ≠ q) w w'

/-! ## codes and lists of one call -/
theorem getErr_cases {vs : List VerL} (h : stErr vs = 0) (id : ByteArray) : (getErr vs id = 0) ∨ (getErr vs id = 4) := by
  unfold getErr
  rw [if_neg (fun k => k h)]
  split
  · exact .inl rfl
  · exact .inr rfl
theorem Srv.cap2 {w : World} {S p q : Nat} {F : Nat → Prop} {X : SrvX} (h : Srv w S p q F X) : X.vs.length ≤ 5120 := (stErr_ok.1 h.ok.st).1
end Go.Proofs.YteimdhkajbldjaaGreat
namespace Go.Proofs.YteimdhkajbldjaaGreat
open Go.RowKit Go.Sort

theorem Tryz.infoOp : (Tryz.prog.info? 39).map (fun i => (i.zero, i.size, i.bytes)) = some (some (.agg #[.int .i64 0, .int .i64 0, .int .i64 0, .int .i64 0, .slice none 0 0, .string ⟨#[]⟩, .int .i64 0, .slice none 0 0, .slice none 0 0, .string ⟨#[]⟩, .string ⟨#[]⟩, .string ⟨#[]⟩]), 12, 176) := by kernel_rfl
/-- an operation, and where its lists lie -/
structure OO where
  o : OpL
  P : OpP
def OO.cells (x : OO) : List Value := [.int .i64 x.o.kind, .int .i64 x.o.who.role, .int .i64 x.o.who.why, .int .i64 x.o.who.time, .slice x.P.ra x.o.n x.P.rc, .string x.o.r.id, .int .i64 x.o.r.cats, .slice x.P.p.fa x.o.r.fs.length x.P.p.fc, .slice x.P.p.ra x.o.r.rs.length x.P.p.rc, .string x.o.id, .string x.o.f.key, .string x.o.f.val]
def cellsO (l : List OO) : List Value := l.flatMap OO.cells
theorem cellsO_append (a b : List OO) : cellsO (a ++ b) = cellsO a ++ cellsO b := List.flatMap_append
theorem cellsO_cons (x : OO) (r : List OO) : cellsO (x :: r) = x.cells ++ cellsO r := rfl
theorem cellsO_one (l : List OO) : ∀ u ∈ cellsO l, u.oneCell' = true := fun u hu => by
  obtain ⟨x, _, hx⟩ := List.mem_flatMap.1 hu
  simp only [OO.cells, List.mem_cons, List.not_mem_nil, or_false] at hx
  rcases hx with rfl | rfl | rfl | rfl | rfl | rfl | rfl | rfl | rfl | rfl | rfl | rfl <;> rfl
theorem cellsO_len : ∀ l : List OO, (cellsO l).length = l.length * 12
  | [] => rfl
  | x :: r => by
    have ih := cellsO_len r
    rw [cellsO_cons, List.length_append, ih, List.length_cons, show x.cells.length = 12 from rfl]
    omega
theorem cellsO_at : ∀ {l : List OO} {k : Nat} {x : OO}, l[k]? = some x → ∀ j u, x.cells[j]? = some u → (cellsO l)[k * 12 + j]? = some u
  | [], k, x, h, _, _, _ => by simp at h
  | y :: r, 0, x, h, j, u, hu => by
    simp only [List.getElem?_cons_zero, Option.some.injEq] at h
    subst h
    rw [cellsO_cons, Nat.zero_mul, Nat.zero_add, List.getElem?_append_left (List.getElem?_eq_some_iff.1 hu).1]
    exact hu
  | y :: r, k + 1, x, h, j, u, hu => by
    rw [List.getElem?_cons_succ] at h
    have ih := cellsO_at h j u hu
    rw [cellsO_cons, List.getElem?_append_right (by show 12 ≤ _; omega), show (k + 1) * 12 + j - y.cells.length = k * 12 + j by show (k + 1) * 12 + j - 12 = _; omega]
    exact ih
/-- its cells, from off on -/
structure OpAt (w : World) (b off : Nat) (x : OO) : Prop where
  c0 : w.cell? ⟨b, off, none⟩ = some (.int .i64 x.o.kind)
  c1 : w.cell? ⟨b, off + 1, none⟩ = some (.int .i64 x.o.who.role)
  c2 : w.cell? ⟨b, off + 2, none⟩ = some (.int .i64 x.o.who.why)
  c3 : w.cell? ⟨b, off + 3, none⟩ = some (.int .i64 x.o.who.time)
  c4 : w.cell? ⟨b, off + 4, none⟩ = some (.slice x.P.ra x.o.n x.P.rc)
  c5 : w.cell? ⟨b, off + 5, none⟩ = some (.string x.o.r.id)
  c6 : w.cell? ⟨b, off + 6, none⟩ = some (.int .i64 x.o.r.cats)
  c7 : w.cell? ⟨b, off + 7, none⟩ = some (.slice x.P.p.fa x.o.r.fs.length x.P.p.fc)
  c8 : w.cell? ⟨b, off + 8, none⟩ = some (.slice x.P.p.ra x.o.r.rs.length x.P.p.rc)
  c9 : w.cell? ⟨b, off + 9, none⟩ = some (.string x.o.id)
  c10 : w.cell? ⟨b, off + 10, none⟩ = some (.string x.o.f.key)
  c11 : w.cell? ⟨b, off + 11, none⟩ = some (.string x.o.f.val)
theorem OpAt.keep {w w' : World} {b off : Nat} {x : OO} (h : OpAt w b off x) (hb : ∀ o, w'.cell? ⟨b, o, none⟩ = w.cell? ⟨b, o, none⟩) : OpAt w' b off x := by
  obtain ⟨c0, c1, c2, c3, c4, c5, c6, c7, c8, c9, c10, c11⟩ := h
  constructor <;> rw [hb] <;> assumption
theorem OpAt.below {w w' : World} {b off : Nat} {x : OO} (h : OpAt w b off x) (hb : Below w.heap.size w w') : OpAt w' b off x := h.keep fun o => hb.cell (p := ⟨b, o, none⟩) (cell_lt h.c0)
theorem OpAt.kept {Z : Nat → Prop} {w w' : World} {b off : Nat} {x : OO} (h : OpAt w b off x) (k : Kept Z w w') (hz : Z b) : OpAt w' b off x := h.keep fun o => World.cell?_of_block (a := ⟨b, o, none⟩) (k.block b hz (cell_lt h.c0))
/-- a slice of operations -/
def SlO (w : World) (a : Option Addr) (l : List OO) : Prop := ∀ k x, l[k]? = some x → x.o.in_ x.P w ∧ ∃ b off, a = some ⟨b, off, none⟩ ∧ OpAt w b (off + k * 12) x
theorem SlO.below {w w' : World} {a : Option Addr} {l : List OO} (h : SlO w a l) (hb : Below w.heap.size w w') : SlO w' a l := fun k x hk => by
  obtain ⟨h1, b, off, e, h2⟩ := h k x hk
  exact ⟨h1.below hb, b, off, e, h2.below hb⟩
theorem SlO.nil (w : World) (a : Option Addr) : SlO w a [] := fun k x h => by simp at h
/-- the value v owns, from block B on, these operations' cells -/
def OwnO (B : Nat) (w : World) (v : Value) (l : List OO) : Prop := w.ownsRow B 39 12 v l.length (cellsO l)
theorem OwnO.form {B : Nat} {w : World} {v : Value} {l : List OO} (h : OwnO B w v l) : ∃ A c, v = .slice A l.length c := by
  rcases h.2 with ⟨e, h0⟩ | ⟨g, cap, cur, e, _⟩
  · exact ⟨none, 0, by rw [e, h0]⟩
  · exact ⟨_, _, e⟩
/-- its lists are new from block B on -/
structure NewOp (B : Nat) (w : World) (x : OO) : Prop where
  rs : OwnR B w (.slice x.P.ra x.o.n x.P.rc) x.o.n x.o.rs
  r : NewRec B w x.o.r x.P.p
theorem NewOp.below {B : Nat} {w w' : World} {x : OO} (h : NewOp B w x) (hb : Below w.heap.size w w') : NewOp B w' x := ⟨own_below h.rs hb, h.r.below hb⟩
theorem NewOp.grown {B B' : Nat} {w w' : World} {x : OO} {v : Value} {l : List OO} (h : NewOp B w x) (hr : OwnO B' w v l) (hg : w.grownBy w' v.ownBlock) : NewOp B w' x :=
  ⟨World.ownsRow.kept h.rs hg (row_apart h.rs hr (by decide)), World.ownsRow.kept h.r.f hg (row_apart h.r.f hr (by decide)), World.ownsRow.kept h.r.r hg (row_apart h.r.r hr (by decide))⟩

/-- what is known of each operation that the laws ask -/
structure AskOk (o : OpL) : Prop where
  r0 : 0 ≤ o.who.role
  r3 : o.who.role < 3
  y0 : 0 ≤ o.who.why
  y2 : o.who.why < 2
  t0 : 0 ≤ o.who.time
  t40 : o.who.time < 40
  k1 : 1 ≤ o.kind
  k8 : o.kind ≤ 8
  id : isNm o.id = true
  rid : o.r.id = o.id
  ok : o.r.Ok
  fd : isFd o.f = true
  rules : rulesErr o.n o.rs = 0
theorem nm_small {s : ByteArray} (h : isNm s = true) : s.size ≤ maxLen := by
  unfold isNm at h
  simp only [Bool.and_eq_true, decide_eq_true_eq] at h
  unfold maxLen
  omega
theorem vl_small {s : ByteArray} (h : isVl s = true) : s.size ≤ maxLen := by
  unfold isVl at h
  simp only [Bool.and_eq_true, decide_eq_true_eq] at h
  unfold maxLen
  omega
theorem fd_small {f : FieldL} (h : isFd f = true) : f.short := by
  unfold isFd at h
  rw [Bool.and_eq_true] at h
  exact ⟨nm_small h.1, vl_small h.2⟩
theorem RecL.Ok.short {r : RecL} (h : r.Ok) : r.short where
  id := nm_small h.id
  fs f hf := by
    obtain ⟨i, hi⟩ := List.getElem?_of_mem hf
    exact fd_small (h.fs i f (List.getElem?_eq_some_iff.1 hi).1 hi).1
  rs s hs := by
    obtain ⟨i, hi⟩ := List.getElem?_of_mem hs
    exact nm_small (h.rs i s (List.getElem?_eq_some_iff.1 hi).1 hi).1
theorem NewOp.in_ {B : Nat} {w : World} {x : OO} (h : NewOp B w x) (ha : AskOk x.o) : x.o.in_ x.P w := ⟨(OwnR.slr h.rs).1, (OwnR.slr h.rs).2.1, (OwnR.slr h.rs).2.2, h.r.in_, ha.ok.short, fd_small ha.fd⟩
theorem OwnO.sl {B : Nat} {w : World} {A : Option Addr} {n c : Nat} {l : List OO} (h : OwnO B w (.slice A n c) l) (hin : ∀ x ∈ l, x.o.in_ x.P w) : SlO w A l ∧ l.length = n ∧ n ≤ c ∧ c ≤ maxLen := by
  rcases h.2 with ⟨e, h0⟩ | ⟨g, cap, cur, e, hlo, hg, h1, h2, h3, h4⟩
  · rw [List.eq_nil_of_length_eq_zero h0]
    cases e
    exact ⟨SlO.nil _ _, rfl, Nat.le_refl _, Nat.zero_le _⟩
  · cases e
    refine ⟨fun k x hk => ⟨hin x (List.mem_of_getElem? hk), g, 0, rfl, ?_⟩, rfl, h1, h2⟩
    have hc : ∀ j u, x.cells[j]? = some u → w.cell? ⟨g, 0 + k * 12 + j, none⟩ = some u := fun j u hu => by
      have := World.ownsRow.cells h (g := g) rfl _ _ (cellsO_at hk j u hu)
      have hadd : (⟨g, 0, none⟩ : Addr).add (k * 12 + j) = ⟨g, k * 12 + j, none⟩ := by unfold Addr.add; split <;> simp_all
      rw [hadd] at this
      rw [Nat.zero_add]
      exact this
    exact ⟨hc 0 _ rfl, hc 1 _ rfl, hc 2 _ rfl, hc 3 _ rfl, hc 4 _ rfl, hc 5 _ rfl, hc 6 _ rfl, hc 7 _ rfl, hc 8 _ rfl, hc 9 _ rfl, hc 10 _ rfl, hc 11 _ rfl⟩
theorem cell_op (w : World) (x : OO) (t : TypeId) : ∀ j u, (cellsO [x])[j]? = some u → (w.alloc (.cells #[.int .i64 x.o.kind, .int .i64 x.o.who.role, .int .i64 x.o.who.why, .int .i64 x.o.who.time, .slice x.P.ra x.o.n x.P.rc, .string x.o.r.id, .int .i64 x.o.r.cats, .slice x.P.p.fa x.o.r.fs.length x.P.p.fc, .slice x.P.p.ra x.o.r.rs.length x.P.p.rc, .string x.o.id, .string x.o.f.key, .string x.o.f.val] t)).cell? ((⟨w.heap.size, 0, none⟩ : Addr).add j) = some u := fun j u hj => by
  have hadd : (⟨w.heap.size, 0, none⟩ : Addr).add j = ⟨w.heap.size, j, none⟩ := by unfold Addr.add; split <;> simp_all
  rw [hadd]
  have e : cellsO [x] = x.cells := by simp [cellsO]
  rw [e] at hj
  unfold OO.cells at hj
  match j, hj with
  | 0, hj => cases hj; simp [go_sem]
  | 1, hj => cases hj; simp [go_sem]
  | 2, hj => cases hj; simp [go_sem]
  | 3, hj => cases hj; simp [go_sem]
  | 4, hj => cases hj; simp [go_sem]
  | 5, hj => cases hj; simp [go_sem]
  | 6, hj => cases hj; simp [go_sem]
  | 7, hj => cases hj; simp [go_sem]
  | 8, hj => cases hj; simp [go_sem]
  | 9, hj => cases hj; simp [go_sem]
  | 10, hj => cases hj; simp [go_sem]
  | 11, hj => cases hj; simp [go_sem]
/-- operations that a law asks, new from block B on -/
structure AskRow (B : Nat) (w : World) (A : Option Addr) (n c : Nat) (l : List OO) : Prop where
  own : OwnO B w (.slice A n c) l
  new : ∀ x ∈ l, NewOp B w x
  ok : ∀ x ∈ l, AskOk x.o
theorem AskRow.slo {B : Nat} {w : World} {A : Option Addr} {n c : Nat} {l : List OO} (h : AskRow B w A n c l) : SlO w A l ∧ l.length = n ∧ n ≤ c ∧ c ≤ maxLen := OwnO.sl h.own fun x hx => (h.new x hx).in_ (h.ok x hx)
theorem AskRow.kept {Z : Nat → Prop} {B : Nat} {w w' : World} {A : Option Addr} {n c : Nat} {l : List OO} (h : AskRow B w A n c l) (k : Kept Z w w') (hz : ∀ b, B ≤ b → Z b) : AskRow B w' A n c l where
  own := own_kept h.own k (own_from h.own fun b hb _ => hz b hb)
  new x hx := ⟨own_kept (h.new x hx).rs k (own_from (h.new x hx).rs fun b hb _ => hz b hb), (h.new x hx).r.kept k fun b hb _ => hz b hb⟩
  ok := h.ok
theorem AskRow.at {B : Nat} {w : World} {A : Option Addr} {n c : Nat} {l : List OO} (h : AskRow B w A n c l) {k : Nat} (hk : k < n) : ∃ x b off, l[k]? = some x ∧ A = some ⟨b, off, none⟩ ∧ OpAt w b (off + k * 12) x ∧ x.o.in_ x.P w ∧ AskOk x.o := by
  obtain ⟨h1, h2, _⟩ := h.slo
  obtain ⟨x, hx⟩ : ∃ x, l[k]? = some x := ⟨_, List.getElem?_eq_getElem (by omega)⟩
  obtain ⟨h3, b, off, e, h4⟩ := h1 k x hx
  exact ⟨x, b, off, hx, e, h4, h3, h.ok x (List.mem_of_getElem? hx)⟩
/-- an operation in a box of its own, that may be written -/
structure OpBox (w : World) (b : Nat) (x : OO) : Prop where
  at_ : OpAt w b 0 x
  z : ∀ o, w.frozen? ⟨b, o, none⟩ = false
theorem OpBox.kind {w : World} {b : Nat} {x : OO} (h : OpBox w b x) (k : Int) : OpBox (w.setCell ⟨b, 0, none⟩ (.int .i64 k)) b ⟨{ x.o with kind := k }, x.P⟩ := by
  obtain ⟨⟨c0, c1, c2, c3, c4, c5, c6, c7, c8, c9, c10, c11⟩, hz⟩ := h
  refine ⟨⟨?_, ?_, ?_, ?_, ?_, ?_, ?_, ?_, ?_, ?_, ?_, ?_⟩, fun o => by rw [World.frozen?_setCell]; exact hz o⟩
  · simp [go_sem, c0]
  all_goals
    refine (World.cell?_setCell_other _ _ _ _ (by simp)).trans ?_
    assumption
theorem OpBox.rules {w : World} {b : Nat} {x : OO} (h : OpBox w b x) (ra : Option Addr) (n rc : Nat) (rs : Nat → RuleL) : OpBox (w.setCell ⟨b, 4, none⟩ (.slice ra n rc)) b ⟨{ x.o with n := n, rs := rs }, { x.P with ra := ra, rc := rc }⟩ := by
  obtain ⟨⟨c0, c1, c2, c3, c4, c5, c6, c7, c8, c9, c10, c11⟩, hz⟩ := h
  refine ⟨⟨?_, ?_, ?_, ?_, ?_, ?_, ?_, ?_, ?_, ?_, ?_, ?_⟩, fun o => by rw [World.frozen?_setCell]; exact hz o⟩
  rotate_left 4
  · rw [Nat.zero_add] at c4 ⊢; simp [go_sem, c4]
  all_goals
    refine (World.cell?_setCell_other _ _ _ _ (by simp)).trans ?_
    assumption
theorem OpBox.fields {w : World} {b : Nat} {x : OO} (h : OpBox w b x) (fa : Option Addr) (fs : List FieldL) (fc : Nat) : OpBox (w.setCell ⟨b, 7, none⟩ (.slice fa fs.length fc)) b ⟨{ x.o with r := { x.o.r with fs := fs } }, { x.P with p := { x.P.p with fa := fa, fc := fc } }⟩ := by
  obtain ⟨⟨c0, c1, c2, c3, c4, c5, c6, c7, c8, c9, c10, c11⟩, hz⟩ := h
  refine ⟨⟨?_, ?_, ?_, ?_, ?_, ?_, ?_, ?_, ?_, ?_, ?_, ?_⟩, fun o => by rw [World.frozen?_setCell]; exact hz o⟩
  rotate_left 7
  · rw [Nat.zero_add] at c7 ⊢; simp [go_sem, c7]
  all_goals
    refine (World.cell?_setCell_other _ _ _ _ (by simp)).trans ?_
    assumption
theorem OpBox.below {w w' : World} {b : Nat} {x : OO} (h : OpBox w b x) (hb : Below w.heap.size w w') : OpBox w' b x := ⟨h.at_.below hb, fun o => (hb.frozen (p := ⟨b, o, none⟩) (cell_lt h.at_.c0)).trans (h.z o)⟩
end Go.Proofs.YteimdhkajbldjaaGreat
namespace Go.Proofs.YteimdhkajbldjaaGreat
open Go.RowKit Go.Sort

theorem run_told0 (a b c d : Value) (w : World) : (Instr.field 48 (.agg #[a, b, c, d]) 0).run Tryz.prog w = .ok a w := by kernel_rfl
theorem run_told1 (a b c d : Value) (w : World) : (Instr.field 48 (.agg #[a, b, c, d]) 1).run Tryz.prog w = .ok b w := by kernel_rfl
theorem run_told2 (a b c d : Value) (w : World) : (Instr.field 48 (.agg #[a, b, c, d]) 2).run Tryz.prog w = .ok c w := by kernel_rfl
theorem run_told3 (a b c d : Value) (w : World) : (Instr.field 48 (.agg #[a, b, c, d]) 3).run Tryz.prog w = .ok d w := by kernel_rfl
end Go.Proofs.YteimdhkajbldjaaGreat
