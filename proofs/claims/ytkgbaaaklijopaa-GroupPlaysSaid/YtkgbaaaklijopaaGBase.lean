/- Lists of strings in memory, at the group's seat: what a slice of strings holds, a list that a call owns, append, Clone, Equal; blocks that stay as they are. -/
import Derived.Test.YtkgbaaaklijopaaProg
import Derived.Test.YtkgbaaaklijopaaRMath
import Derived.WalkKit
import Derived.WalkSpells
import Derived.WalkLawsBesides
import Derived.Handy
import Derived.Lib.Hide
import Derived.Lib.QuietBelow
import Derived.BigQuiet
import Derived.Deep.QuietTactic
import Derived.Lib.Walk
import Derived.Deep.AppendLies
import Derived.Laws.AppendOwnNone
import Derived.Laws.CopyOwn
import Derived.Laws.IdiomCopy
import Derived.Deep.RegionLaw
import Derived.Lib.AppendZeros
import Derived.Lib.AppendZerosOnto
import Derived.Lib.SliceRun
set_option linter.unusedVariables false
set_option linter.unusedSimpArgs false
set_option maxRecDepth 100000
namespace Go.Proofs.Ytkgbaaaklijopaa
open Go.RowKit Go.Sort

theorem bcell {W w1 : World} (hb : Below W.heap.size W w1) : (∀ b o, b < W.heap.size → w1.cell? ⟨b, o, none⟩ = W.cell? ⟨b, o, none⟩) ∧ (∀ b o, b < W.heap.size → w1.frozen? ⟨b, o, none⟩ = W.frozen? ⟨b, o, none⟩) :=
  ⟨fun b o h => hb.cell (p := ⟨b, o, none⟩) h, fun b o h => hb.frozen (p := ⟨b, o, none⟩) h⟩
theorem bsize {W w1 : World} (hb : Below W.heap.size W w1) : ∃ k, w1.heap.size = W.heap.size + k := ⟨w1.heap.size - W.heap.size, by have := hb.size; omega⟩

theorem cell_lt {w : World} {b o : Nat} {v : Value} (h : w.cell? ⟨b, o, none⟩ = some v) : b < w.heap.size := World.block_lt_of_cell? w ⟨b, o, none⟩ h

theorem ret_bool {a b : Bool} (h : a = b) : Ending.returned (.bool a) = .returned (.bool b) := by rw [h]
theorem ret_int {a b : Int} (h : a = b) : Ending.returned (.int .i64 a) = .returned (.int .i64 b) := by rw [h]

def SlS (w : World) (a : Option Addr) (rs : List ByteArray) : Prop :=
  ∀ k s, rs[k]? = some s → ∃ b off, a = some ⟨b, off, none⟩ ∧ w.cell? ⟨b, off + k, none⟩ = some (.string s)

theorem SlS.keep {w w' : World} {a : Option Addr} {rs : List ByteArray} (h : SlS w a rs) (hb : ∀ b o, b < w.heap.size → w'.cell? ⟨b, o, none⟩ = w.cell? ⟨b, o, none⟩) : SlS w' a rs := fun k s hk => by
  obtain ⟨b, off, rfl, h1⟩ := h k s hk
  exact ⟨b, off, rfl, (hb _ _ (cell_lt h1)).trans h1⟩
theorem SlS.below {w w' : World} {a : Option Addr} {rs : List ByteArray} (h : SlS w a rs) (hb : Below w.heap.size w w') : SlS w' a rs := h.keep (bcell hb).1
theorem SlS.nil (w : World) (a : Option Addr) : SlS w a [] := fun k f h => by simp at h

def Sl (w : World) (a : Option Addr) (n : Nat) (z : Nat → Int) : Prop :=
  ∀ k, k < n → ∃ b off, a = some ⟨b, off, none⟩ ∧ w.cell? ⟨b, off + k, none⟩ = some (.int .i64 (z k))

def wit (k n : Int) : Nat := (k % 18446744073709551616 % n).toNat

theorem wit_lt (k n : Int) (h0 : 0 < n) : (wit k n : Int) < n := by
  have h1 := Int.emod_nonneg (k % 18446744073709551616) (show n ≠ 0 by omega)
  have h2 := Int.emod_lt_of_pos (k % 18446744073709551616) h0
  unfold wit
  omega

theorem within_eq (k n : Int) (h0 : 0 < n) (h1 : n ≤ 1000000) : wrap64 ((IntKind.u64.wrap k).tmod n) = (wit k n : Nat) := by
  rw [IntKind.wrap_u64, tmod_of_emod]
  have h2 := Int.emod_nonneg (k % 18446744073709551616) (show n ≠ 0 by omega)
  have h3 := Int.emod_lt_of_pos (k % 18446744073709551616) h0
  unfold wit wrap64
  omega

theorem Sl.below {w w' : World} {a : Option Addr} {n : Nat} {z : Nat → Int} (h : Sl w a n z) (hb : Below w.heap.size w w') : Sl w' a n z := fun k hk => by
  obtain ⟨b, off, rfl, hc⟩ := h k hk
  exact ⟨b, off, rfl, (hb.cell (p := ⟨b, off + k, none⟩) (cell_lt hc)).trans hc⟩

theorem Try.infoStr : (Try.prog.info? 9).map (fun i => (i.zero, i.size, i.bytes)) = some (some (.string ⟨#[]⟩), 1, 16) := by kernel_rfl

theorem addr_at (g k : Nat) : (⟨g, 0, none⟩ : Addr).add k = ⟨g, k, none⟩ := by unfold Addr.add; split <;> simp_all
theorem addr_off (g o k : Nat) : (⟨g, o, none⟩ : Addr).add k = ⟨g, o + k, none⟩ := by unfold Addr.add; split <;> simp_all

def cellsS (rs : List ByteArray) : List Value := rs.map Value.string

theorem cellsS_len (rs : List ByteArray) : (cellsS rs).length = rs.length * 1 := by unfold cellsS; simp
theorem cellsS_one (rs : List ByteArray) : ∀ u ∈ cellsS rs, u.oneCell' = true := fun u h => by
  unfold cellsS at h
  obtain ⟨s, _, rfl⟩ := List.mem_map.1 h
  rfl
theorem SlS.cells {w : World} {ad : Addr} {rs : List ByteArray} (h : SlS w (some ad) rs) : ∀ j u, (cellsS rs)[j]? = some u → w.cell? (ad.add j) = some u := fun j u hj => by
  unfold cellsS at hj
  rw [List.getElem?_map] at hj
  obtain ⟨s, hs, rfl⟩ := Option.map_eq_some_iff.1 hj
  obtain ⟨b, off, e, h1⟩ := h j s hs
  cases e
  rw [addr_off]
  exact h1
theorem slS_of {w : World} {g o : Nat} {rs : List ByteArray} (h : ∀ j u, (cellsS rs)[j]? = some u → w.cell? ⟨g, o + j, none⟩ = some u) : SlS w (some ⟨g, o, none⟩) rs := fun k s hs =>
  ⟨g, o, rfl, h _ _ (by unfold cellsS; rw [List.getElem?_map, hs]; rfl)⟩

def OwnS (B : Nat) (w : World) (v : Value) (rs : List ByteArray) : Prop := w.ownsRow B 9 1 v rs.length (cellsS rs)

theorem OwnS.form {B : Nat} {w : World} {v : Value} {rs : List ByteArray} (h : OwnS B w v rs) : ∃ A c, v = .slice A rs.length c := by
  rcases h.2 with ⟨e, h0⟩ | ⟨g, cap, cur, e, _⟩
  · exact ⟨none, 0, by rw [e, h0]⟩
  · exact ⟨_, _, e⟩
theorem OwnS.sl {B : Nat} {w : World} {A : Option Addr} {c : Nat} {rs : List ByteArray} (h : OwnS B w (.slice A rs.length c) rs) : SlS w A rs ∧ rs.length ≤ c ∧ c ≤ maxLen := by
  rcases h.2 with ⟨e, h0⟩ | ⟨g, cap, cur, e, hlo, hg, h1, h2, h3, h4⟩
  · rw [List.eq_nil_of_length_eq_zero h0] at e ⊢
    cases e
    exact ⟨SlS.nil _ _, Nat.le_refl _, Nat.zero_le _⟩
  · injection e with e1 _ e3
    subst e1 e3
    refine ⟨slS_of fun j u hj => ?_, h1, h2⟩
    have := World.ownsRow.cells h (g := g) rfl j u hj
    rw [addr_at] at this
    rw [Nat.zero_add]
    exact this
theorem own_below {B size n : Nat} {e : TypeId} {w w' : World} {v : Value} {xs : List Value} (h : w.ownsRow B e size v n xs) (hb : Below w.heap.size w w') : w'.ownsRow B e size v n xs :=
  World.ownsRow.kept (row := none) h ⟨hb.os, hb.tape, hb.output, hb.size, fun i hi _ => hb.block i hi⟩ (by cases hv : v.ownBlock with | none => exact .inl rfl | some k => exact .inr (by simp))
theorem OwnS.below {B : Nat} {w w' : World} {v : Value} {rs : List ByteArray} (h : OwnS B w v rs) (hb : Below w.heap.size w w') : OwnS B w' v rs := own_below h hb

theorem own_low {B B' size n : Nat} {e : TypeId} {w : World} {v : Value} {xs : List Value} (h : w.ownsRow B e size v n xs) (hB : B' ≤ B) : w.ownsRow B' e size v n xs := by
  obtain ⟨h1, h2⟩ := h
  refine ⟨h1, ?_⟩
  rcases h2 with h2 | ⟨g, cap, cur, e1, hlo, r⟩
  · exact .inl h2
  · exact .inr ⟨g, cap, cur, e1, Nat.le_trans hB hlo, r⟩

theorem SlS.far {w : World} {a : Option Addr} {rs : List ByteArray} (h : SlS w a rs) {p : Addr} (hne : ∀ b off, a = some ⟨b, off, none⟩ → b ≠ p.block) (u : Value) : SlS (w.setCell p u) a rs := fun k f hk => by
  obtain ⟨b, off, e, h1⟩ := h k f hk
  have hb := hne b off e
  exact ⟨b, off, e, (World.cell?_setCell_other _ _ _ _ (fun e' => hb (by rw [e']))).trans h1⟩
def NewS (B : Nat) (rs : List ByteArray) (w : World) (e : Ending) (w' : World) : Prop := ∃ A c, e = .returned (.slice A rs.length c) ∧ OwnS B w' (.slice A rs.length c) rs ∧ Below B w w'

theorem cloneS_any (a : Option Addr) (rs : List ByteArray) (cap : Nat) (w : World) (hs : SlS w a rs) (hn : rs.length ≤ 1000000) :
    Calls Try.prog 32 #[.slice a rs.length cap] w (NewS w.heap.size rs w) := by
  obtain ⟨i0, hi, hz0, hz1, hz2⟩ := info_parts Try.infoStr
  have hnil := @Lib.run_eql_slice_nil
  have HS := Lib.hid hs
  clear hs
  cases a with
  | none =>
    have h0 : rs = [] := by
      cases rs with
      | nil => rfl
      | cons f r =>
        obtain ⟨b, off, e, _⟩ := HS.out 0 f rfl
        cases e
    subst h0
    go_enter Try.func32, Try.ntmps32
    go_wp2_with fail
    go_ret
    exact ⟨none, 0, rfl, World.ownsRow_nil _ _ _ _, Below.refl _ _⟩
  | some ad =>
    have hnews := (HS.out.below ((Below.refl _ _).alloc (Nat.le_refl _) (.cells #[] 9))).cells
    have hown : (w.alloc (.cells #[] 9)).ownsRow w.heap.size 9 1 (.slice (some ⟨w.heap.size, 0, none⟩) 0 0) 0 [] := World.ownsRow_made w #[] 0 (Nat.le_refl _) (by decide) rfl
    have HN := Lib.hid hnews
    clear hnews
    go_enter Try.func32, Try.ntmps32
    go_wp2_with (at_builtin; refine wpList_append_own _ rfl _ _ 23 rfl w.heap.size 9 i0 _ 1 16 Try.underlying23 hi hz0 hz1 hz2 rfl (by decide) _ _ _ rfl hown ad rs.length cap (cellsS rs) rfl ?c1 HN.out (cellsS_one rs) ?c3 ?c4 ?c5 ?_)
    case c1 => exact cellsS_len rs
    case c3 => unfold maxLen; omega
    case c4 => omega
    case c5 => simp
    intro v' w1 hown' hgrow hnv
    have hnx : Below w.heap.size w w1 := ((Below.refl _ _).alloc (Nat.le_refl _) _).grown hgrow (by simp) (fun j hj => by simp [Value.ownBlock] at hj; omega)
    obtain ⟨A, c, hv⟩ := OwnS.form (B := w.heap.size) (w := w1) (v := v') (rs := rs) hown'
    have HO := Lib.hid (show OwnS w.heap.size w1 v' rs from hown')
    clear hnv hgrow hown hown'
    subst hv
    go_wp2_with fail
    go_ret
    exact ⟨A, c, rfl, HO.out, hnx⟩

theorem drewn_below (w : World) (n : Nat) : Below w.heap.size w (w.drewN n) := ⟨rfl, rfl, rfl, Nat.le_refl _, fun _ _ => rfl⟩
theorem ne_str {a b : ByteArray} (h : a ≠ b) : (a.toList == b.toList) = false ∨ ((a.toList == b.toList) = false ∧ True) := .inl (sEq_false.2 h)
theorem grown_setCell (w : World) (a : Addr) (u : Value) : w.grownBy (w.setCell a u) (some a.block) :=
  ⟨rfl, rfl, rfl, by simp [World.setCell], fun k _ hk => RowKit.Below.heap_setCell _ _ _ _ (fun e => hk (by rw [e]))⟩
theorem eqS_any (a a' : Option Addr) (fs gs : List ByteArray) (c c' : Nat) (w : World) (hs : SlS w a fs) (hs' : SlS w a' gs) (hm : fs.length ≤ maxLen) (hm' : gs.length ≤ maxLen) :
    Calls Try.prog 18 #[.slice a fs.length c, .slice a' gs.length c'] w fun e w' => e = .returned (.bool (decide (fs = gs))) ∧ Below w.heap.size w w' := by
  unfold maxLen at hm hm'
  have HS := Lib.hid hs
  have HS' := Lib.hid hs'
  obtain ⟨n, hn⟩ : ∃ n, n = fs.length := ⟨_, rfl⟩
  obtain ⟨m, hm2⟩ : ∃ m, m = gs.length := ⟨_, rfl⟩
  have HN := Lib.hid hn
  have HM := Lib.hid hm2
  rw [← hn] at hm ⊢
  rw [← hm2] at hm' ⊢
  clear hn hm2 hs hs'
  by_cases hl : n = m
  · subst hl
    go_enter Try.func18, Try.ntmps18
    go_wp2_with fail
    go_loopw [13] (fun i wr => ∃ k : Nat, k ≤ n ∧ i = .int .i64 k ∧ Below w.heap.size w wr ∧ Hid (fs.take k = gs.take k)) (fun i _ => n - (intOf i).toNat)
    case atStart => exact ⟨0, Nat.zero_le _, rfl, Below.refl _ _, rfl⟩
    case round =>
      obtain ⟨k, hk, rfl, hB, HK⟩ := hrel
      by_cases hlt : k < n
      · obtain ⟨f, hf⟩ : ∃ f, fs[k]? = some f := ⟨_, List.getElem?_eq_getElem (by rw [← HN.out]; exact hlt)⟩
        obtain ⟨g, hg⟩ : ∃ g, gs[k]? = some g := ⟨_, List.getElem?_eq_getElem (by rw [← HM.out]; exact hlt)⟩
        obtain ⟨b, off, rfl, h1⟩ := HS.out k f hf
        obtain ⟨b', off', rfl, h3⟩ := HS'.out k g hg
        have c1 : wr.cell? ⟨b, off + k, none⟩ = some (.string f) := (hB.cell (p := ⟨b, off + k, none⟩) (cell_lt h1)).trans h1
        have c3 : wr.cell? ⟨b', off' + k, none⟩ = some (.string g) := (hB.cell (p := ⟨b', off' + k, none⟩) (cell_lt h3)).trans h3
        clear h1 h3
        have HF := Lib.hid hf
        have HG := Lib.hid hg
        have j1 : (0 : Int) ≤ (k : Int) := by omega
        have j2 : (k : Int) < (n : Int) := by omega
        clear hf hg
        by_cases he : f = g
        · subst he
          have l1 : (f.toList == f.toList) = true := sEq_iff.2 rfl
          go_wp2_with fail
          go_quiet (fail)
          go_wp2_with fail
          go_roundw
          case rel =>
            refine ⟨k + 1, by omega, by go_num, hB.trans ((drewn_below wr _).mono hB.size), ?_⟩
            show fs.take (k + 1) = gs.take (k + 1)
            rw [List.take_add_one, List.take_add_one, HK.out, HF.out, HG.out]
          case measure => simp [intOf]; omega
        · have HE := Lib.hid he
          have hne := ne_str he
          clear he
          rcases hne with l1 | ⟨l1, l2⟩
          all_goals
            go_wp2_with fail
            go_quiet (fail)
            go_wp2_with fail
            go_ret
            refine ⟨ret_bool ?_, hB.trans ((drewn_below wr _).mono hB.size)⟩
            symm
            rw [decide_eq_false_iff_not]
            intro e
            rw [e, HG.out] at HF
            exact HE.out (Option.some.inj HF.out).symm
      · go_wp2_with fail
        go_ret
        refine ⟨ret_bool ?_, hB⟩
        symm
        rw [decide_eq_true_eq]
        have h1 := HK.out
        rw [List.take_of_length_le (by rw [← HN.out]; omega), List.take_of_length_le (by rw [← HM.out]; omega)] at h1
        exact h1
  · have hl2 : ((n : Int) == (m : Int)) = false := by simp; omega
    have hl3 : ¬ (n : Int) = (m : Int) := by omega
    go_enter Try.func18, Try.ntmps18
    go_wp2_with fail
    go_ret
    refine ⟨ret_bool ?_, Below.refl _ _⟩
    symm
    rw [decide_eq_false_iff_not]
    intro e
    apply hl
    rw [HN.out, HM.out, e]

theorem eqS_is {b : Bool} (a a' : Option Addr) (fs gs : List ByteArray) (c c' : Nat) (w : World) (hs : SlS w a fs) (hs' : SlS w a' gs) (hm : fs.length ≤ maxLen) (hm' : gs.length ≤ maxLen) (h : decide (fs = gs) = b) :
    Calls Try.prog 18 #[.slice a fs.length c, .slice a' gs.length c'] w fun e w' => e = .returned (.bool b) ∧ Below w.heap.size w w' := h ▸ eqS_any a a' fs gs c c' w hs hs' hm hm'

theorem cellsS_append (a b : List ByteArray) : cellsS (a ++ b) = cellsS a ++ cellsS b := by unfold cellsS; rw [List.map_append]

theorem run_appS' {w : World} (ty : TypeId) {B c : Nat} {v : Value} {fs q : List ByteArray} {A : Option Addr} (hown : OwnS B w v fs) (hq : SlS w A q) (hn : fs.length + q.length ≤ 100000) (hB : B ≤ w.heap.size) :
    ∃ A' c' w', (Builtin.append_ #[23, 23] ty #[v, .slice A q.length c]).run Try.prog w = .ok (.slice A' (fs ++ q).length c') w' ∧ OwnS B w' (.slice A' (fs ++ q).length c') (fs ++ q) ∧ Below B w w' ∧ ∀ i, i < w.heap.size → v.ownBlock ≠ some i → w'.heap[i]? = w.heap[i]? := by
  obtain ⟨i0, hi, hz0, hz1, hz2⟩ := info_parts Try.infoStr
  cases A with
  | none =>
    have h0 : q = [] := by
      cases q with
      | nil => rfl
      | cons f q =>
        obtain ⟨b, off, e, _⟩ := hq 0 f rfl
        cases e
    subst h0
    obtain ⟨A', c', rfl⟩ := hown.form
    refine ⟨A', c', w, ?_, by simpa using hown, Below.refl _ _, fun _ _ _ => rfl⟩
    rcases hown.2 with ⟨e, h0⟩ | ⟨g, cap, cur, e, _, _, hnc, _⟩
    · injection e with e1 e2 e3
      subst e1 e3
      simp [Builtin.append_, run_underlying Try.underlying23, sizeOf, typeInfo, hi, Builtin.lenOf, Builtin.firstCells, h0]
    · cases e
      simp [Builtin.append_, run_underlying Try.underlying23, sizeOf, typeInfo, hi, Builtin.lenOf, Builtin.firstCells, hnc, storeCells]
  | some ad =>
    obtain ⟨v', w', hrun, hown', hgrow, _⟩ := run_append_own (P := Try.prog) w B 23 ty 9 i0 _ 1 16 Try.underlying23 hi hz0 hz1 hz2 rfl (by decide) v fs.length (cellsS fs) hown ad q.length c (cellsS q) (cellsS_len q) hq.cells (cellsS_one q) (by unfold maxLen; omega) (by omega) hB
    have ho : OwnS B w' v' (fs ++ q) := by
      unfold OwnS
      rw [cellsS_append, List.length_append]
      exact hown'
    obtain ⟨A', c', rfl⟩ := ho.form
    refine ⟨A', c', w', hrun, ho, ⟨hgrow.os, hgrow.tape, hgrow.output, hgrow.size, fun i hi => hgrow.block i (by omega) fun e => ?_⟩, fun i h1 h2 => hgrow.block i h1 fun e => h2 e.symm⟩
    have := (World.ownsRow.lt hown i e.symm).1
    omega


theorem SlS.off {w w' : World} {B2 B3 : Nat} {v : Value} {A : Option Addr} {c : Nat} {L : List ByteArray} (ho : OwnS B3 w (.slice A L.length c) L) (hv : ∀ i, v.ownBlock = some i → i < B2) (hB : B2 ≤ B3) (hk : ∀ i, i < w.heap.size → v.ownBlock ≠ some i → w'.heap[i]? = w.heap[i]?) : SlS w' A L := by
  have hs := (OwnS.sl ho).1
  rcases ho.2 with ⟨e, h0⟩ | ⟨g, cap, cur, e, hlo, hg, h1, h2, h3, h4⟩
  · rw [List.eq_nil_of_length_eq_zero h0]
    exact SlS.nil _ _
  · injection e with e1 _ e3
    subst e1
    intro k s hk2
    obtain ⟨b, off, e4, h5⟩ := hs k s hk2
    cases e4
    refine ⟨_, _, rfl, ?_⟩
    have hlt := cell_lt h5
    have hb := hk _ hlt fun e => by have := hv _ e; omega
    rw [← h5]
    simp only [World.cell?, hb]

theorem run_appS {w : World} (ty : TypeId) {B c : Nat} {v : Value} {fs q : List ByteArray} {A : Option Addr} (hown : OwnS B w v fs) (hq : SlS w A q) (hn : fs.length + q.length ≤ 100000) (hB : B ≤ w.heap.size) :
    ∃ A' c' w', (Builtin.append_ #[23, 23] ty #[v, .slice A q.length c]).run Try.prog w = .ok (.slice A' (fs ++ q).length c') w' ∧ OwnS B w' (.slice A' (fs ++ q).length c') (fs ++ q) ∧ Below B w w' := by
  obtain ⟨A', c', w', h1, h2, h3, _⟩ := run_appS' (c := c) ty hown hq hn hB
  exact ⟨A', c', w', h1, h2, h3⟩
structure Kept (Z : Nat → Prop) (w w' : World) : Prop where
  os : w'.os = w.os
  tape : w'.tape = w.tape
  output : w'.output = w.output
  size : w.heap.size ≤ w'.heap.size
  block : ∀ z, Z z → z < w.heap.size → w'.heap[z]? = w.heap[z]?
theorem Kept.refl (Z : Nat → Prop) (w : World) : Kept Z w w := ⟨rfl, rfl, rfl, Nat.le_refl _, fun _ _ _ => rfl⟩
theorem Kept.trans {Z : Nat → Prop} {w w1 w2 : World} (h : Kept Z w w1) (k : Kept Z w1 w2) : Kept Z w w2 :=
  ⟨k.os.trans h.os, k.tape.trans h.tape, k.output.trans h.output, Nat.le_trans h.size k.size, fun z hz hl => (k.block z hz (Nat.lt_of_lt_of_le hl h.size)).trans (h.block z hz hl)⟩
theorem Kept.sub {Z Z' : Nat → Prop} {w w' : World} (h : Kept Z w w') (hz : ∀ z, z < w.heap.size → Z' z → Z z) : Kept Z' w w' := ⟨h.os, h.tape, h.output, h.size, fun z k hl => h.block z (hz z hl k) hl⟩
theorem Kept.of {Z : Nat → Prop} {w w' : World} (h : Below w.heap.size w w') : Kept Z w w' := ⟨h.os, h.tape, h.output, h.size, fun z _ hl => h.block z hl⟩
theorem Kept.to {Z : Nat → Prop} {w w' : World} {S : Nat} (h : Kept Z w w') (hz : ∀ z, z < S → Z z) (hS : S ≤ w.heap.size) : Below S w w' := ⟨h.os, h.tape, h.output, h.size, fun z hl => h.block z (hz z hl) (Nat.lt_of_lt_of_le hl hS)⟩
theorem Kept.grown {Z : Nat → Prop} {w w' : World} {row : Option Nat} (h : w.grownBy w' row) (hz : ∀ z, Z z → some z ≠ row) : Kept Z w w' := ⟨h.os, h.tape, h.output, h.size, fun z k hl => h.block z hl (hz z k)⟩
theorem Kept.cell {Z : Nat → Prop} {w w' : World} {b o : Nat} {v : Value} (h : Kept Z w w') (hz : Z b) (hc : w.cell? ⟨b, o, none⟩ = some v) : w'.cell? ⟨b, o, none⟩ = some v := (World.cell?_of_block (a := ⟨b, o, none⟩) (h.block b hz (cell_lt hc))).trans hc
theorem Kept.frozen {Z : Nat → Prop} {w w' : World} {b o : Nat} (h : Kept Z w w') (hz : Z b) (hl : b < w.heap.size) : w'.frozen? ⟨b, o, none⟩ = w.frozen? ⟨b, o, none⟩ := World.frozen?_of_block (a := ⟨b, o, none⟩) (h.block b hz hl)
theorem Kept.drew (Z : Nat → Prop) (w : World) : Kept Z w w.drew := ⟨rfl, rfl, rfl, Nat.le_refl _, fun _ _ _ => rfl⟩

theorem own_kept {Z : Nat → Prop} {B size n : Nat} {e : TypeId} {w w' : World} {v : Value} {xs : List Value} (h : w.ownsRow B e size v n xs) (k : Kept Z w w') (hz : ∀ b, v.ownBlock = some b → Z b) : w'.ownsRow B e size v n xs := by
  obtain ⟨h1, h2⟩ := h
  refine ⟨h1, ?_⟩
  rcases h2 with h2 | ⟨g, cap, cur, e1, hlo, hg, r⟩
  · exact .inl h2
  · refine .inr ⟨g, cap, cur, e1, hlo, ?_, r⟩
    rw [k.block g (hz g (by rw [e1]; rfl)) (Array.getElem?_eq_some_iff.1 hg).1]
    exact hg
theorem own_from {B size n : Nat} {e : TypeId} {w : World} {v : Value} {xs : List Value} (h : w.ownsRow B e size v n xs) {Z : Nat → Prop} (hz : ∀ b, B ≤ b → b < w.heap.size → Z b) : ∀ b, v.ownBlock = some b → Z b := fun b hb => by
  obtain ⟨h1, h2⟩ := World.ownsRow.lt h b hb
  exact hz b h1 h2

theorem SlS.kept {Z : Nat → Prop} {w w' : World} {a : Option Addr} {l : List ByteArray} (h : SlS w a l) (k : Kept Z w w') (hz : ∀ b off, a = some ⟨b, off, none⟩ → b < w.heap.size → Z b) : SlS w' a l := fun i f hi => by
  obtain ⟨b, off, e, c0⟩ := h i f hi
  exact ⟨b, off, e, k.cell (hz b off e (cell_lt c0)) c0⟩
theorem Kept.setCell {Z : Nat → Prop} (w : World) {a : Addr} (hz : ¬ Z a.block) (u : Value) : Kept Z w (w.setCell a u) := Kept.grown (grown_setCell w a u) fun z k e => by cases e; exact hz k
theorem within_any (k n : Int) (w : World) (h0 : 0 < n) (h1 : n ≤ 1000000) :
    Calls Try.prog 28 #[.int .i64 k, .int .i64 n] w fun e w' => e = .returned (.int .i64 (wit k n : Nat)) ∧ w = w' := by
  go_enter Try.func28, Try.ntmps28
  go_wp2
  go_ret
  exact ⟨ret_int (within_eq k n h0 h1), rfl⟩

theorem within_to {k n : Int} {i : Nat} (h : wit k n = i) (w : World) (h0 : 0 < n) (h1 : n ≤ 1000000) :
    Calls Try.prog 28 #[.int .i64 k, .int .i64 n] w fun e w' => e = .returned (.int .i64 (i : Int)) ∧ w = w' := by
  rw [← h]
  exact within_any k n w h0 h1
end Go.Proofs.Ytkgbaaaklijopaa
