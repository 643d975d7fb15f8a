/- What a store comes to, as two maps. -/
import Derived.Test.YteimdhkajbldjaaGreatSMem
import Derived.Maps.RangeWalk
import Derived.Maps.OwnOps
import Derived.Maps.OwnSet
import Derived.DeepKeys5
import Derived.ChangeKeysEq
import Derived.Test.YteimdhkajbldjaaGreatRefKinds
set_option linter.unusedVariables false
set_option linter.unusedSimpArgs false
set_option maxRecDepth 100000
namespace Go.Proofs.YteimdhkajbldjaaGreat
open Go.RowKit Go.Sort Go.Maps

theorem laidOutAll : laidOutB Tryz.prog = true := by kernel_rfl
theorem lawSpot : Keyed Tryz.prog 170 := Keyed.of_law (deep_law_gate laidOutAll (of_decide_eq_true (by kernel_rfl)) (of_decide_eq_true (by kernel_rfl)) (by kernel_rfl) (by kernel_rfl))
theorem lawInt : Keyed Tryz.prog 3 := int_keyed Tryz.underlying3

abbrev spotV (id : ByteArray) (c : Int) : Value := .agg #[.string id, .int .i64 c]
theorem keyTypeSpot : Tryz.prog.keyType 170 = true := by kernel_rfl
theorem cellsSpot : Tryz.prog.cellsOf 170 = 2 := by kernel_rfl
theorem cellsStr1 : Tryz.prog.cellsOf 9 = 1 := by kernel_rfl
theorem cellsInt1 : Tryz.prog.cellsOf 3 = 1 := by kernel_rfl

theorem str_lits (d : Nat) (s : ByteArray) (h : s.size ≤ maxLen) : Tryz.prog.keyLits (d + 1) 9 [.string s] = some [.string s.data.toList] := by
  unfold Program.keyLits
  rw [Tryz.underlying9]
  exact if_pos h
theorem int_lits (d : Nat) (c : Int) (h : (Lit.int .i64 c).wf = true) : Tryz.prog.keyLits (d + 1) 3 [.int .i64 c] = some [.int .i64 c] := by
  unfold Program.keyLits
  rw [Tryz.underlying3]
  exact if_pos ⟨rfl, h⟩
theorem spot_lits (d : Nat) (id : ByteArray) (c : Int) (hi : id.size ≤ maxLen) (hc : (Lit.int .i64 c).wf = true) : Tryz.prog.keyLits (d + 1 + 1) 170 [.string id, .int .i64 c] = some [.string id.data.toList, .int .i64 c] := by
  unfold Program.keyLits
  rw [Tryz.underlying170]
  have h1 := str_lits d id hi
  have h2 := int_lits d c hc
  simp [cellsSpot, cellsStr1, cellsInt1, h1, h2]
theorem spot_key (id : ByteArray) (c : Int) (hi : id.size ≤ maxLen) (hc : (Lit.int .i64 c).wf = true) : ∃ k, keyOf Tryz.prog 170 (spotV id c) = some k := by
  obtain ⟨d, hd⟩ : ∃ d, Tryz.prog.types.size + 1 = d + 1 + 1 := ⟨Tryz.prog.types.size - 1, by have : 1 ≤ Tryz.prog.types.size := of_decide_eq_true (by kernel_rfl); omega⟩
  have h := spot_lits d id c hi hc
  rw [← hd] at h
  refine ⟨.string (keyBytes [.string id.data.toList, .int .i64 c]), ?_⟩
  unfold keyOf
  rw [Tryz.underlying170]
  have hf : Value.formed Tryz.prog 170 (spotV id c) = true := by
    simp [Value.formed, Tryz.underlying170, cellsSpot]
  simp only [keyTypeSpot, hf, Bool.and_self, if_true]
  show Option.map _ (Tryz.prog.keyLits _ _ [.string id, .int .i64 c]) = _
  rw [h]
  rfl

/-- a key of that kind has a name and a number; of two the same there is one -/
theorem spot_inv {v : Value} {k : Lit} (h : keyOf Tryz.prog 170 v = some k) : ∃ (id : ByteArray) (c : Int), v = spotV id c := by
  unfold keyOf at h
  rw [Tryz.underlying170] at h
  simp only [keyTypeSpot, Bool.true_and] at h
  split at h
  · rename_i hf
    rw [Option.map_eq_some_iff] at h
    obtain ⟨ls, hl, _⟩ := h
    cases v with
    | agg cs =>
      unfold Program.keyLits at hl
      rw [Tryz.underlying170] at hl
      simp only [Value.formed, Tryz.underlying170, cellsSpot, beq_iff_eq] at hf
      obtain ⟨l⟩ := cs
      match l, hf with
      | [a, b], _ =>
        simp only [Value.cells] at hl
        simp [cellsSpot, cellsStr1, cellsInt1, List.mapM_cons, bind, Option.bind_eq_some_iff] at hl
        obtain ⟨y, hy, _, ⟨z, hz, _⟩, _⟩ := hl
        obtain ⟨s, e1, _⟩ := keyLits_string' Tryz.underlying9 hy
        obtain ⟨n, e2, _⟩ := keyLits_int' Tryz.underlying3 hz
        cases e1
        cases e2
        exact ⟨s, n, rfl⟩
    | _ => simp [Value.formed, Tryz.underlying170] at hf
  · cases h

abbrev mSame (w : World) (b n : Nat) (D : DataW Unit) : Prop := w.ownsMap Tryz.prog 3 (plainElem Tryz.prog 3) b n D
abbrev mLives (w : World) (b n : Nat) (D : DataW Unit) : Prop := w.ownsMap Tryz.prog 170 (plainElem Tryz.prog 4) b n D

/-- the two maps: how many have just these kinds; who lives -/
structure Tally (w : World) (b1 b2 n : Nat) (f : Int → Nat) (g : ByteArray → Int → Bool) : Prop where
  s : ∃ D, mSame w b1 n D ∧ ∀ c : Int, D.atKey (.int .i64 c) (.lit (.int .i64 0)) = .lit (.int .i64 (f c : Nat))
  v : ∃ D, mLives w b2 n D ∧ ∀ id c k, keyOf Tryz.prog 170 (spotV id c) = some k → D.atKey k (.lit (.bool false)) = .lit (.bool (g id c))
  ne : b1 ≠ b2

theorem zeroInt (w : World) : (zeroValue 3).run Tryz.prog w = .ok (.int .i64 0) w := by kernel_rfl
theorem zeroBool (w : World) : (zeroValue 4).run Tryz.prog w = .ok (.bool false) w := by kernel_rfl

theorem grown_of_below {w w' : World} (h : Below w.heap.size w w') : w.grownBy w' none := ⟨h.os, h.tape, h.output, h.size, fun k hk _ => h.block k hk⟩

theorem Tally.lt {w : World} {b1 b2 n : Nat} {f : Int → Nat} {g : ByteArray → Int → Bool} (h : Tally w b1 b2 n f g) : b1 < w.heap.size ∧ b2 < w.heap.size := by
  obtain ⟨D, h1, _⟩ := h.s
  obtain ⟨D', h2, _⟩ := h.v
  exact ⟨h1.lt, h2.lt⟩
theorem Tally.below {w w' : World} {b1 b2 n : Nat} {f : Int → Nat} {g : ByteArray → Int → Bool} (h : Tally w b1 b2 n f g) (hb : Below w.heap.size w w') : Tally w' b1 b2 n f g := by
  obtain ⟨D, h1, k1⟩ := h.s
  obtain ⟨D', h2, k2⟩ := h.v
  exact ⟨⟨D, h1.kept (grown_of_below hb) (by simp), k1⟩, ⟨D', h2.kept (grown_of_below hb) (by simp), k2⟩, h.ne⟩
theorem Tally.mono {w : World} {b1 b2 n m : Nat} {f : Int → Nat} {g : ByteArray → Int → Bool} (h : Tally w b1 b2 n f g) (hm : n ≤ m) : Tally w b1 b2 m f g := by
  obtain ⟨D, h1, k1⟩ := h.s
  obtain ⟨D', h2, k2⟩ := h.v
  exact ⟨⟨D, h1.mono hm, k1⟩, ⟨D', h2.mono hm, k2⟩, h.ne⟩
theorem Tally.congr {w : World} {b1 b2 n : Nat} {f f' : Int → Nat} {g g' : ByteArray → Int → Bool} (h : Tally w b1 b2 n f g) (hf : ∀ c, f c = f' c) (hg : ∀ id c, g id c = g' id c) : Tally w b1 b2 n f' g' := by
  have e1 : f = f' := funext hf
  have e2 : g = g' := funext fun id => funext fun c => hg id c
  subst e1 e2
  exact h

/-- how many have just these kinds -/
theorem Tally.look {w : World} {b1 b2 n : Nat} {f : Int → Nat} {g : ByteArray → Int → Bool} (h : Tally w b1 b2 n f g) (c : Int) (hc : (Lit.int .i64 c).wf = true) :
    (Instr.lookup 159 (.map (some b1)) (.int .i64 c) false).run Tryz.prog w = .ok (.int .i64 (f c : Nat)) w := by
  obtain ⟨D, h1, k1⟩ := h.s
  obtain ⟨x, hrun, hat, _⟩ := h1.lookup_int lawInt Tryz.underlying159 Tryz.underlying3 (zeroInt w) (keyOf_int_mk Tryz.underlying3 hc)
  rw [k1 c] at hat
  cases hat
  exact hrun
/-- who lives -/
theorem Tally.asks {w : World} {b1 b2 n : Nat} {f : Int → Nat} {g : ByteArray → Int → Bool} (h : Tally w b1 b2 n f g) (id : ByteArray) (c : Int) (hi : id.size ≤ maxLen) (hc : (Lit.int .i64 c).wf = true) :
    (Instr.lookup 160 (.map (some b2)) (spotV id c) false).run Tryz.prog w = .ok (.bool (g id c)) w := by
  obtain ⟨D, h1, k1⟩ := h.v
  obtain ⟨k, hk⟩ := spot_key id c hi hc
  obtain ⟨v, ps, hrun, hv⟩ := h1.lookup lawSpot Tryz.underlying160 (zeroBool w) (plainElem_bool Tryz.underlying4 false) hk
  obtain ⟨x, rfl, hx⟩ := plainElem_bool_inv Tryz.underlying4 hv
  simp only [Prod.mk.injEq] at hx
  rw [k1 id c k hk] at hx
  have := hx.1
  cases this
  exact hrun
/-- two new maps -/
theorem tally_made (w : World) : Tally ((w.alloc (.map #[] 0)).alloc (.map #[] 0)) w.heap.size (w.heap.size + 1) 0 (fun _ => 0) (fun _ _ => false) := by
  refine ⟨⟨.map [], (World.ownsMap_made w _ _ _).alloc _, fun c => rfl⟩, ⟨.map [], ?_, fun id c k _ => rfl⟩, by omega⟩
  have := World.ownsMap_made (H := Unit) (w.alloc (.map #[] 0)) Tryz.prog 170 (plainElem Tryz.prog 4)
  rwa [World.size_alloc] at this
theorem int_lit_ne2 {i j : Int} (h : i ≠ j) : (Lit.int .i64 i) ≠ .int .i64 j := fun e => h (by cases e; rfl)
/-- one more with just these kinds -/
theorem Tally.count {w : World} {b1 b2 n : Nat} {f : Int → Nat} {g : ByteArray → Int → Bool} (h : Tally w b1 b2 n f g) (hn : n < maxLen) (c : Int) (hc : (Lit.int .i64 c).wf = true) (m : Nat) (hm : m ≤ 1000000) :
    ∃ w', (Instr.mapUpdate 159 (.map (some b1)) (.int .i64 c) (.int .i64 (m : Nat))).run Tryz.prog w = .ok () w' ∧ Tally w' b1 b2 (n + 1) (fun x => if x = c then m else f x) g ∧ w.grownBy w' (some b1) := by
  obtain ⟨D, h1, k1⟩ := h.s
  obtain ⟨D', h2, k2⟩ := h.v
  obtain ⟨w', hrun, ho, hg⟩ := h1.update lawInt Tryz.underlying159 hn (keyOf_int_mk Tryz.underlying3 hc) (plainElem_int Tryz.underlying3 (WalkArith.wf_i64 (n := (m : Int)) (by omega)))
  refine ⟨w', hrun, ⟨⟨_, ho, fun x => ?_⟩, ⟨D', (h2.kept hg (by simp; exact fun e => h.ne e.symm)).mono (by omega), k2⟩, h.ne⟩, hg⟩
  by_cases e : x = c
  · subst e
    rw [if_pos rfl]
    exact atKey_put_same h1.isMap (show WideAt.IsKeyLit (.int .i64 x) from trivial) _ _
  · rw [if_neg e, atKey_put_other (int_lit_ne2 e)]
    exact k1 x
/-- he lives, or lives no more -/
theorem Tally.note {w : World} {b1 b2 n : Nat} {f : Int → Nat} {g : ByteArray → Int → Bool} (h : Tally w b1 b2 n f g) (hn : n < maxLen) (id : ByteArray) (c : Int) (hi : id.size ≤ maxLen) (hc : (Lit.int .i64 c).wf = true) (x : Bool) :
    ∃ w', (Instr.mapUpdate 160 (.map (some b2)) (spotV id c) (.bool x)).run Tryz.prog w = .ok () w' ∧ Tally w' b1 b2 (n + 1) f (fun i d => if i = id ∧ d = c then x else g i d) ∧ w.grownBy w' (some b2) := by
  obtain ⟨D, h1, k1⟩ := h.s
  obtain ⟨D', h2, k2⟩ := h.v
  obtain ⟨k, hk⟩ := spot_key id c hi hc
  obtain ⟨w', hrun, ho, hg⟩ := h2.update lawSpot Tryz.underlying160 hn hk (plainElem_bool Tryz.underlying4 x)
  refine ⟨w', hrun, ⟨⟨D, (h1.kept hg (by simp; exact h.ne)).mono (by omega), k1⟩, ⟨_, ho, fun i d k' hk' => ?_⟩, h.ne⟩, hg⟩
  by_cases e : i = id ∧ d = c
  · obtain ⟨rfl, rfl⟩ := e
    rw [if_pos ⟨rfl, rfl⟩]
    rw [hk] at hk'
    cases hk'
    exact atKey_put_same h2.isMap (lawSpot.key hk) _ _
  · rw [if_neg e, atKey_put_other (fun ek => e ?_)]
    · exact k2 i d k' hk'
    · subst ek
      have := lawSpot.inj hk' hk
      injection this with this
      injection this with this
      injection this with e1 this
      injection this with e2 _
      injection e1 with e1
      injection e2 with _ e2
      exact ⟨e1, e2⟩
end Go.Proofs.YteimdhkajbldjaaGreat
