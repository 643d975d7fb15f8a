/- RecordOrder: in whatever order fields are set, the record is the same: the walk. -/
import Derived.Test.YtdnjboopaagleaaDoorROrd
import Derived.Test.YtdnjboopaagleaaDoorRConcat
import Derived.Test.YtdnjboopaagleaaDoorRMade
import Derived.Test.YtdnjboopaagleaaDoorRefRec
import Derived.Test.YtdnjboopaagleaaDoorREq
set_option linter.unusedVariables false
set_option linter.unusedSimpArgs false
set_option maxRecDepth 100000
namespace Go.Proofs.YtdnjboopaagleaaDoor
open Go.RowKit Go.Sort

theorem one_max : 1 ≤ maxLen := by unfold maxLen; omega
theorem two_max : 2 ≤ maxLen := by unfold maxLen; omega

/-- the records that the law begins with -/
def fM : FieldL := ⟨⟨#[109]⟩, ⟨#[49]⟩⟩
def fK : FieldL := ⟨⟨#[107]⟩, ⟨#[50]⟩⟩
def rM : RecL := ⟨⟨#[97]⟩, 0, [fM], []⟩
def rKM : RecL := ⟨⟨#[97]⟩, 0, [fK, fM], []⟩
theorem rM_ok : rM.Ok := ⟨show isNm ⟨#[97]⟩ = true by decide, show (0 : Int) ≤ 0 by decide, show (0 : Int) ≤ 255 by decide, show 1 ≤ 6 by decide, Nat.zero_le _, fun i f hi hf => by
  have e : i = 0 := by have : i < 1 := hi; omega
  subst e
  have e : f = fM := by simpa [rM] using hf.symm
  subst e
  exact ⟨by decide, fun j g h => by omega⟩, fun i s hi => absurd hi (by simp [rM])⟩
theorem rM_set : rM.setRec fK = rKM ∧ rM.setErr fK = 0 := by
  have h0 : rM.setErr fK = 0 := RecL.setErr_ok.2 ⟨rM_ok, by decide, fun k => by
    have : (1 : Nat) = 6 := k.2
    omega⟩
  refine ⟨?_, h0⟩
  unfold RecL.setRec
  rw [if_pos h0]
  have e : setFs [fM] fK = [fK, fM] := by simp [setFs, sLt, sEq, Lib.toList_data, fM, fK, Op.bytesLess]
  show (⟨⟨#[97]⟩, 0, setFs [fM] fK, []⟩ : RecL) = _
  rw [e]
  rfl
theorem slF_one (w : World) (f : FieldL) : SlF (w.alloc (.cells #[.string f.key, .string f.val] 27)) (some ⟨w.heap.size, 0, none⟩) [f] := by
  intro k g hg
  have e : k = 0 := by have := (List.getElem?_eq_some_iff.1 hg).1; simp at this; omega
  subst e
  have e : g = f := by simpa using hg.symm
  subst e
  exact ⟨_, 0, rfl, by simp [go_sem], by simp [go_sem]⟩
theorem slF_two (w : World) (f g : FieldL) : SlF (w.alloc (.cells #[.string f.key, .string f.val, .string g.key, .string g.val] 27)) (some ⟨w.heap.size, 0, none⟩) [f, g] := by
  intro k y hy
  match k, hy with
  | 0, hy =>
    have e : y = f := by simpa using hy.symm
    subst e
    exact ⟨_, 0, rfl, by simp [go_sem], by simp [go_sem]⟩
  | 1, hy =>
    have e : y = g := by simpa using hy.symm
    subst e
    exact ⟨_, 0, rfl, by simp [go_sem], by simp [go_sem]⟩
  | k + 2, hy => simp at hy

theorem made_is {P : RecL} (a : Option Addr) (l : List FieldL) (c : Nat) (w : World) (hs : SlF w a l) (hl : Fresh l) (h : recOf l = P) :
    Calls Tryd.prog 22 #[.slice a l.length c] w fun e w' => ∃ p' : At, e = .returned (.tuple #[P.v p', .bool true]) ∧ P.in_ p' w' ∧ Below w.heap.size w w' ∧ p'.from_ w.heap.size := by
  subst h
  exact made_any a l c w hs hl

theorem concat_two (bs n1 n2 : Nat) (q1 q2 : List FieldL) (A1 A2 : Option Addr) (c1 c2 : Nat) (W : World) (l1 : q1.length = n1) (l2 : q2.length = n2) (h1 : SlF W A1 q1) (h2 : SlF W A2 q2) (m1 : n1 ≤ 100) (m2 : n2 ≤ 100)
    (e1 : W.cell? ⟨bs, 0, none⟩ = some (.slice A1 n1 c1)) (e2 : W.cell? ⟨bs, 1, none⟩ = some (.slice A2 n2 c2)) :
    Calls Tryd.prog 23 #[.slice (some ⟨bs, 0, none⟩) 2 2] W (NewF W.heap.size (q1 ++ q2) W) := by
  have h := concatF_any bs [q1, q2] (fun i => if i = 0 then A1 else A2) (fun i => if i = 0 then c1 else c2) W (by simp) (fun l hl => by
    rcases List.mem_cons.1 hl with rfl | hl
    · omega
    · rw [List.mem_singleton.1 hl]
      omega) (fun i l hl => by
    match i, hl with
    | 0, hl =>
      have e : l = q1 := by simpa using hl.symm
      subst e
      exact ⟨h1, by simpa [l1] using e1⟩
    | 1, hl =>
      have e : l = q2 := by simpa using hl.symm
      subst e
      exact ⟨h2, by simpa [l2] using e2⟩
    | i + 2, hl => simp at hl)
  simpa using h
theorem concat_is (bs n1 n2 : Nat) (L q1 q2 : List FieldL) (A1 A2 : Option Addr) (c1 c2 : Nat) (W : World) (hL : q1 ++ q2 = L) (l1 : q1.length = n1) (l2 : q2.length = n2) (h1 : SlF W A1 q1) (h2 : SlF W A2 q2) (m1 : n1 ≤ 100) (m2 : n2 ≤ 100)
    (e1 : W.cell? ⟨bs, 0, none⟩ = some (.slice A1 n1 c1)) (e2 : W.cell? ⟨bs, 1, none⟩ = some (.slice A2 n2 c2)) :
    Calls Tryd.prog 23 #[.slice (some ⟨bs, 0, none⟩) 2 2] W (NewF W.heap.size L W) := by
  subst hL
  exact concat_two bs n1 n2 q1 q2 A1 A2 c1 c2 W l1 l2 h1 h2 m1 m2 e1 e2
/-- a block that holds the zero record -/
structure ZeroAt (b : Nat) (w : World) : Prop where
  c0 : w.cell? ⟨b, 0, none⟩ = some (.string ⟨#[]⟩)
  c1 : w.cell? ⟨b, 1, none⟩ = some (.int .i64 0)
  c2 : w.cell? ⟨b, 2, none⟩ = some (.slice none 0 0)
  c3 : w.cell? ⟨b, 3, none⟩ = some (.slice none 0 0)
  f0 : w.frozen? ⟨b, 0, none⟩ = false
  f1 : w.frozen? ⟨b, 1, none⟩ = false
  f2 : w.frozen? ⟨b, 2, none⟩ = false
  f3 : w.frozen? ⟨b, 3, none⟩ = false
theorem ZeroAt.below {b : Nat} {w w' : World} (h : ZeroAt b w) (hb : Below w.heap.size w w') : ZeroAt b w' := by
  obtain ⟨hc, hf⟩ := bcell hb
  have hl := cell_lt h.c0
  exact ⟨(hc _ _ hl).trans h.c0, (hc _ _ hl).trans h.c1, (hc _ _ hl).trans h.c2, (hc _ _ hl).trans h.c3, (hf _ _ hl).trans h.f0, (hf _ _ hl).trans h.f1, (hf _ _ hl).trans h.f2, (hf _ _ hl).trans h.f3⟩
theorem zero_new {w w' : World} (h : Below (w.alloc (.cells #[.string ⟨#[]⟩, .int .i64 0, .slice none 0 0, .slice none 0 0] 25)).heap.size (w.alloc (.cells #[.string ⟨#[]⟩, .int .i64 0, .slice none 0 0, .slice none 0 0] 25)) w') :
    ZeroAt w.heap.size w' := ZeroAt.below (w := w.alloc (.cells #[.string ⟨#[]⟩, .int .i64 0, .slice none 0 0, .slice none 0 0] 25)) (by constructor <;> simp [go_sem]) h
theorem At.from_.mono {p : At} {B B' : Nat} (h : p.from_ B) (hB : B' ≤ B) : p.from_ B' := ⟨fun b off e => Nat.le_trans hB (h.1 b off e), fun b off e => Nat.le_trans hB (h.2 b off e)⟩
/-- the cells of a record -/
def RecAt (P : RecL) (p : At) (b : Nat) (W : World) : Prop :=
  W.cell? ⟨b, 0, none⟩ = some (.string P.id) ∧ W.cell? ⟨b, 1, none⟩ = some (.int .i64 P.cats) ∧ W.cell? ⟨b, 2, none⟩ = some (.slice p.fa P.fs.length p.fc) ∧ W.cell? ⟨b, 3, none⟩ = some (.slice p.ra P.rs.length p.rc)
theorem RecAt.below {P : RecL} {p : At} {b : Nat} {W W' : World} (h : RecAt P p b W) (hB : Below W.heap.size W W') : RecAt P p b W' := by
  obtain ⟨hc, _⟩ := bcell hB
  have hl := cell_lt h.1
  exact ⟨(hc _ _ hl).trans h.1, (hc _ _ hl).trans h.2.1, (hc _ _ hl).trans h.2.2.1, (hc _ _ hl).trans h.2.2.2⟩
/-- what is known where both records are made -/
structure OrdEnd (P : RecL) (p1 p2 : At) (w : World) (b1 b2 : Nat) (W : World) : Prop where
  below : Below w.heap.size w W
  r1 : RecAt P p1 b1 W
  r2 : RecAt P p2 b2 W
  i1 : P.in_ p1 W
  i2 : P.in_ p2 W
theorem OrdEnd.step {P : RecL} {p1 p2 : At} {w W W' : World} {b1 b2 : Nat} (h : OrdEnd P p1 p2 w b1 b2 W) (hB : Below W.heap.size W W') : OrdEnd P p1 p2 w b1 b2 W' := ⟨h.below.trans (hB.mono h.below.size), h.r1.below hB, h.r2.below hB, h.i1.below hB, h.i2.below hB⟩
theorem ordEnd_laid {P : RecL} {p1 p2 : At} {w W4 w6 : World} {b1 : Nat} (hB4 : Below w.heap.size w W4) (hr : RecAt P p1 b1 W4) (hI : P.in_ p1 W4) (hk : Below W4.heap.size W4 w6) (i2 : P.in_ p2 w6) :
    OrdEnd P p1 p2 w b1 w6.heap.size (w6.alloc (.cells #[.string P.id, .int .i64 P.cats, .slice p2.fa P.fs.length p2.fc, .slice p2.ra P.rs.length p2.rc] 25)) := by
  have hk2 := hk.alloc hk.size (.cells #[.string P.id, .int .i64 P.cats, .slice p2.fa P.fs.length p2.fc, .slice p2.ra P.rs.length p2.rc] 25)
  exact ⟨hB4.trans (hk2.mono hB4.size), hr.below hk2, ⟨by simp [go_sem], by simp [go_sem], by simp [go_sem], by simp [go_sem]⟩, hI.below hk2, i2.below ((Below.refl _ _).alloc (Nat.le_refl _) _)⟩
theorem ordEnd_stored {P : RecL} {p1 p2 : At} {w W4 w6 : World} {b1 bz : Nat} (hB4 : Below w.heap.size w W4) (hr : RecAt P p1 b1 W4) (hI : P.in_ p1 W4) (hk : Below W4.heap.size W4 w6) (i2 : P.in_ p2 w6) (hz : ZeroAt bz w6) (hbz : W4.heap.size ≤ bz) (hf : p2.from_ (bz + 1)) :
    OrdEnd P p1 p2 w b1 bz ((((w6.setCell ⟨bz, 0, none⟩ (.string P.id)).setCell ⟨bz, 1, none⟩ (.int .i64 P.cats)).setCell ⟨bz, 2, none⟩ (.slice p2.fa P.fs.length p2.fc)).setCell ⟨bz, 3, none⟩ (.slice p2.ra P.rs.length p2.rc)) := by
  have hk2 := (((hk.setCell (p := ⟨bz, 0, none⟩) hbz (.string P.id)).setCell (p := ⟨bz, 1, none⟩) hbz (.int .i64 P.cats)).setCell (p := ⟨bz, 2, none⟩) hbz (.slice p2.fa P.fs.length p2.fc)).setCell (p := ⟨bz, 3, none⟩) hbz (.slice p2.ra P.rs.length p2.rc)
  have m1 : ∀ b off, p2.fa = some ⟨b, off, none⟩ → b ≠ bz := fun b off e => by have := hf.1 b off e; omega
  have m2 : ∀ b off, p2.ra = some ⟨b, off, none⟩ → b ≠ bz := fun b off e => by have := hf.2 b off e; omega
  exact ⟨hB4.trans (hk2.mono hB4.size), hr.below hk2, ⟨by simp [go_sem, hz.c0], by simp [go_sem, hz.c1], by simp [go_sem, hz.c2], by simp [go_sem, hz.c3]⟩, hI.below hk2,
    ⟨(((i2.hf.far m1 _).far m1 _).far m1 _).far m1 _, (((i2.hr.far m2 _).far m2 _).far m2 _).far m2 _, i2.fl, i2.rl, i2.fm, i2.rm⟩⟩
theorem two_new (W : World) (u v : Value) (t : TypeId) : (W.alloc (.cells #[u, v] t)).drew.cell? ⟨W.heap.size, 0, none⟩ = some u ∧ (W.alloc (.cells #[u, v] t)).drew.cell? ⟨W.heap.size, 1, none⟩ = some v := ⟨by simp [go_sem], by simp [go_sem]⟩
/-- the end of a slice of fields -/
theorem slF_dropn {W : World} {g T : Nat} {sm : List FieldL} (h : SlF W (some ⟨g, 0, none⟩) sm) : SlF W (some ⟨g, T * 2, none⟩) (sm.drop T) := by
  intro k f hf
  rw [List.getElem?_drop] at hf
  obtain ⟨b, off, e, h1, h2⟩ := h _ f hf
  cases e
  refine ⟨g, T * 2, rfl, ?_, ?_⟩
  · rw [← h1]; congr 2; omega
  · rw [← h2]; congr 2; omega
theorem slF_take {W : World} {A : Option Addr} {T : Nat} {sm : List FieldL} (h : SlF W A sm) : SlF W A (sm.take T) := fun k f hf => by
  have hk : k < T := by
    have := (List.getElem?_eq_some_iff.1 hf).1
    simp at this
    omega
  rw [List.getElem?_take_of_lt hk] at hf
  exact h k f hf

theorem cell_two (w : World) (f : FieldL) (t : TypeId) : ∀ j u, (cellsF [f])[j]? = some u → (w.alloc (.cells #[.string f.key, .string f.val] t)).cell? ((⟨w.heap.size, 0, none⟩ : Addr).add j) = some u := fun j u hu => by
  rw [addr_at]
  match j, hu with
  | 0, hu =>
    cases hu
    simp [go_sem]
  | 1, hu =>
    cases hu
    simp [go_sem]
  | j + 2, hu => simp [cellsF, FieldL.cells] at hu

set_option maxHeartbeats 4000000 in
theorem recordOrder_walk (a : Option Addr) (l : List FieldL) (c : Nat) (turn : Int) (w : World) (hs : SlF w a l) (hm : l.length ≤ maxLen) (hsh : ∀ f ∈ l, f.short) :
    Calls Tryd.prog 5 #[.slice a l.length c, .int .i64 turn] w fun e w' => e = .returned (.bool true) ∧ Below w.heap.size w w' := by
  unfold maxLen at hm
  have HS := Lib.hid hs
  have HH := Lib.hid hsh
  clear hs hsh
  have hA : Below w.heap.size w (w.alloc (.cells #[.string ⟨#[109]⟩, .string ⟨#[49]⟩] 27)) := (Below.refl _ _).alloc (Nat.le_refl _) _
  have h1 := slF_one w fM
  go_enter Tryd.func5, Tryd.ntmps5
  go_wp2_with fail
  refine (set_is rM ⟨some ⟨w.heap.size, 0, none⟩, 1, none, 0⟩ fK _ ⟨h1, SlS.nil _ _, Nat.le_refl _, Nat.le_refl _, one_max, Nat.zero_le _⟩ rM_set.1 rM_set.2).mono ?_
  rintro e w1 ⟨px, rfl, hix, _, hb1⟩
  have hB1 : Below w.heap.size w w1 := hA.trans (hb1.mono hA.size)
  have HX := Lib.hid hix
  clear h1 hix hb1 hA
  go_wp2_with fail
  have hB1a : Below w1.heap.size w1 (w1.alloc (.cells #[.string rKM.id, .int .i64 rKM.cats, .slice px.fa rKM.fs.length px.fc, .slice px.ra rKM.rs.length px.rc] 25)) := (Below.refl _ _).alloc (Nat.le_refl _) _
  have hB1b := hB1a.alloc hB1a.size (.cells #[.string fK.key, .string fK.val, .string fM.key, .string fM.val] 27)
  refine (eqF_is (b := true) px.fa (some ⟨w1.heap.size + 1, 0, none⟩) rKM.fs [fK, fM] px.fc 2 _ (HX.out.hf.below hB1b) (by have := slF_two (w1.alloc (.cells #[.string rKM.id, .int .i64 rKM.cats, .slice px.fa rKM.fs.length px.fc, .slice px.ra rKM.rs.length px.rc] 25)) fK fM; simpa using this) two_max two_max (by simp [rKM])).mono ?_
  rintro e w2 ⟨rfl, hb2⟩
  have hB2 : Below w.heap.size w w2 := (hB1.trans (hB1b.mono hB1.size)).trans (hb2.mono (Nat.le_trans hB1.size hB1b.size))
  clear hb2 hB1a hB1b hB1 HX
  go_wp2_with fail
  obtain ⟨i0, hi, hz0, hz1, hz2⟩ := info_parts Tryd.infoField
  go_loopw [36, 7] (fun i v wr => ∃ (k : Nat) (A : Option Addr) (cc : Nat) (sm : List FieldL), k ≤ l.length ∧ i = .int .i64 k ∧ v = .slice A sm.length cc ∧ OwnF w.heap.size wr (.slice A sm.length cc) sm ∧ Hid (Fresh sm) ∧ Below w.heap.size w wr) (fun i _ _ => l.length - (intOf i).toNat)
  case atStart => exact ⟨0, none, 0, [], Nat.zero_le _, rfl, rfl, World.ownsRow_nil _ _ _ _, Fresh.nil, hB2⟩
  case round =>
    clear hB2
    obtain ⟨k, A, cc, sm, hk, rfl, rfl, hO, HF, hB⟩ := hrel
    by_cases hlt : k < l.length
    · obtain ⟨f, hf⟩ : ∃ f, l[k]? = some f := ⟨_, List.getElem?_eq_getElem hlt⟩
      obtain ⟨b, off, rfl, c1, c2⟩ := (HS.out.below hB) k f hf
      have HSH := Lib.hid (HH.out f (List.mem_of_getElem? hf))
      have n6 := HF.out.le
      clear hf
      have hBa : Below w.heap.size w (wr.alloc (.cells #[.string f.key, .string f.val] 27)) := hB.alloc hB.size _
      have hOa : OwnF w.heap.size (wr.alloc (.cells #[.string f.key, .string f.val] 27)) (.slice A sm.length cc) sm := hO.below ((Below.refl _ _).alloc (Nat.le_refl _) _)
      have HOA := Lib.hid hOa
      clear hO hOa
      cases hn : isNm f.key with
      | false =>
        have HN := Lib.hid hn
        clear hn
        go_wp2_with fail
        refine (refId_is f.key _ HN.out).mono ?_
        rintro e w3 ⟨rfl, hb3⟩
        have hB3 := hBa.trans (hb3.mono hBa.size)
        have HO3 := Lib.hid (HOA.out.below hb3)
        clear hb3
        go_wp2_with fail
        go_roundw
        case rel => exact ⟨k + 1, A, cc, sm, by omega, by go_num, rfl, HO3.out, HF, hB3⟩
        case measure => simp [intOf]; omega
      | true =>
        have HN := Lib.hid hn
        clear hn
        go_wp2_with fail
        refine (refId_is f.key _ HN.out).mono ?_
        rintro e w3 ⟨rfl, hb3⟩
        have hB3 := hBa.trans (hb3.mono hBa.size)
        have HO3 := Lib.hid (HOA.out.below hb3)
        have k0 : w3.cell? ⟨wr.heap.size, 0, none⟩ = some (.string f.key) := by rw [hb3.cell (p := ⟨wr.heap.size, 0, none⟩) (by simp)]; simp [go_sem]
        have k1 : w3.cell? ⟨wr.heap.size, 1, none⟩ = some (.string f.val) := by rw [hb3.cell (p := ⟨wr.heap.size, 1, none⟩) (by simp)]; simp [go_sem]
        have zz : wr.heap.size < w3.heap.size := by have := hb3.size; simp at this; omega
        clear hb3 HOA c1 c2
        cases hv : isVl f.val with
        | false =>
          have HV := Lib.hid hv
          clear hv
          go_wp2_with fail
          refine (refValue_is f.val _ HSH.out.2 HV.out).mono ?_
          rintro e w4 ⟨rfl, hb4⟩
          have hB4 := hB3.trans (hb4.mono hB3.size)
          have HO4 := Lib.hid (HO3.out.below hb4)
          clear hb4
          go_wp2_with fail
          go_roundw
          case rel => exact ⟨k + 1, A, cc, sm, by omega, by go_num, rfl, HO4.out, HF, hB4⟩
          case measure => simp [intOf]; omega
        | true =>
          have HV := Lib.hid hv
          have HFD : Hid (isFd f = true) := by show isFd f = true; unfold isFd; rw [HN.out, hv]; rfl
          clear hv
          by_cases h6 : (sm.length : Int) < 6
          · have hlt6 : sm.length < 6 := by omega
            cases ht : there sm f.key with
            | true =>
              have HT := Lib.hid ht
              clear ht
              go_wp2_with fail
              refine (refValue_is f.val _ HSH.out.2 HV.out).mono ?_
              rintro e w4 ⟨rfl, hb4⟩
              have hB4 := hB3.trans (hb4.mono hB3.size)
              have HO4 := Lib.hid (HO3.out.below hb4)
              have j0 := (hb4.cell (p := ⟨wr.heap.size, 0, none⟩) zz).trans k0
              clear hb4 k0 k1
              go_wp2_with fail
              refine (containsFunc_is A sm cc wr.heap.size f.key _ HO4.out.sl.1 (by unfold maxLen; omega) j0 HT.out).mono ?_
              rintro e w5 ⟨rfl, hb5⟩
              have hB5 := hB4.trans (hb5.mono hB4.size)
              have HO5 := Lib.hid (HO4.out.below hb5)
              clear hb5
              go_wp2_with fail
              go_roundw
              case rel => exact ⟨k + 1, A, cc, sm, by omega, by go_num, rfl, HO5.out, HF, hB5⟩
              case measure => simp [intOf]; omega
            | false =>
              have HT := Lib.hid ht
              clear ht
              go_wp2_with fail
              refine (refValue_is f.val _ HSH.out.2 HV.out).mono ?_
              rintro e w4 ⟨rfl, hb4⟩
              have hB4 := hB3.trans (hb4.mono hB3.size)
              have HO4 := Lib.hid (HO3.out.below hb4)
              have j0 := (hb4.cell (p := ⟨wr.heap.size, 0, none⟩) zz).trans k0
              have j1 := (hb4.cell (p := ⟨wr.heap.size, 1, none⟩) zz).trans k1
              have zz4 : wr.heap.size < w4.heap.size := Nat.lt_of_lt_of_le zz hb4.size
              clear hb4 k0 k1
              go_wp2_with fail
              refine (containsFunc_is A sm cc wr.heap.size f.key _ HO4.out.sl.1 (by unfold maxLen; omega) j0 HT.out).mono ?_
              rintro e w5 ⟨rfl, hb5⟩
              have hB5 := hB4.trans (hb5.mono hB4.size)
              have hO5 := HO4.out.below hb5
              have l0 := (hb5.cell (p := ⟨wr.heap.size, 0, none⟩) zz4).trans j0
              have l1 := (hb5.cell (p := ⟨wr.heap.size, 1, none⟩) zz4).trans j1
              have hsz5 := hB5.size
              clear hb5 j0 j1
              go_wp2_with (at_builtin; refine wpList_append_own _ rfl _ _ 22 rfl w.heap.size 27 i0 _ 2 32 Tryd.underlying22 hi hz0 hz1 hz2 rfl (by decide) _ _ _ rfl (hO5.alloc _) ⟨w5.heap.size, 0, none⟩ 1 1 (cellsF [f]) rfl rfl ?c1 (cellsF_one [f]) ?c3 ?c4 ?c5 ?_)
              case c1 => exact cell_two _ _ _
              case c3 => unfold maxLen; omega
              case c4 => omega
              case c5 => simp; omega
              intro v' w6 hown6 hg6 _
              have ho6 : OwnF w.heap.size w6 v' (sm ++ [f]) := by
                unfold OwnF
                rw [cellsF_append, List.length_append]
                exact hown6
              obtain ⟨A6, c6, rfl⟩ := ho6.form
              have hB6 : Below w.heap.size w w6 := (hB5.alloc hsz5 _).grown hg6 (by simp; omega) (fun j hj => (World.ownsRow.lt hO5 j hj).1)
              have HO6 := Lib.hid ho6
              clear hown6 hg6 ho6 hO5 l0 l1
              go_wp2_with fail
              go_roundw
              case rel => exact ⟨k + 1, A6, c6, sm ++ [f], by omega, by go_num, rfl, HO6.out, HF.out.snoc HFD.out HT.out hlt6, hB6⟩
              case measure => simp [intOf]; omega
          · go_wp2_with fail
            refine (refValue_is f.val _ HSH.out.2 HV.out).mono ?_
            rintro e w4 ⟨rfl, hb4⟩
            have hB4 := hB3.trans (hb4.mono hB3.size)
            have HO4 := Lib.hid (HO3.out.below hb4)
            clear hb4
            go_wp2_with fail
            go_roundw
            case rel => exact ⟨k + 1, A, cc, sm, by omega, by go_num, rfl, HO4.out, HF, hB4⟩
            case measure => simp [intOf]; omega
    · have n6 := HF.out.le
      have hwl := wit_lt turn ((sm.length : Int) + 1) (by omega)
      have HO := Lib.hid hO
      clear hO
      go_wp2_with fail
      refine (within_n turn ((sm.length : Int) + 1) _ (by omega) (by omega)).mono ?_
      rintro e w' ⟨rfl, rfl⟩
      obtain ⟨T, hT⟩ : ∃ T, T = wit turn ((sm.length : Int) + 1) := ⟨_, rfl⟩
      rw [← hT] at hwl ⊢
      clear hT
      have hTl : T ≤ sm.length := by omega
      go_wp2_with fail
      refine (made_any A sm cc _ HO.out.sl.1 HF.out).mono ?_
      rintro e w3 ⟨p1, rfl, hi1, hb3, _⟩
      obtain ⟨P, hP⟩ : ∃ P, P = recOf sm := ⟨_, rfl⟩
      rw [← hP] at hi1 ⊢
      have HP := Lib.hid hP
      have HI1 := Lib.hid hi1
      have hB3 := hB.trans (hb3.mono hB.size)
      have HO3 := Lib.hid (HO.out.below hb3)
      clear hP hi1 hb3 HO hB
      have t0 : (0 : Int) ≤ (T : Int) := by omega
      have t1 : (T : Int) ≤ (sm.length : Int) := by omega
      have t2 : (sm.length : Int) ≤ (cc : Int) := by have := HO3.out.sl.2.1; omega
      have t3 : (T : Int) ≤ (cc : Int) := by omega
      rcases HO3.out.2 with ⟨hnil, h0⟩ | ⟨g, cap, cur, hcons, hgw, _⟩
      · injection hnil with e1 _ e3
        subst e1 e3
        obtain rfl : sm = [] := List.eq_nil_of_length_eq_zero h0
        obtain rfl : T = 0 := by simpa using hTl
        clear t0 t1 t2 t3 h0 hTl hwl
        obtain ⟨L, hL⟩ : ∃ L, ([] : List FieldL).drop 0 ++ ([] : List FieldL).take 0 = L := ⟨_, rfl⟩
        have HG := Lib.hid (show Fresh L ∧ recOf L = P from ⟨hL ▸ HF.out.perm (rotate_perm ([] : List FieldL) 0), by
          rw [HP.out, ← hL]
          unfold recOf
          rw [← setAll_perm HF.out.nd (rotate_perm ([] : List FieldL) 0)]⟩)
        have HL := Lib.hid (show P.fs.length = ([] : List FieldL).length from by
          rw [HP.out]
          exact setAll_length ([] : List FieldL) HF.out.nd)
        obtain ⟨W4, hW4⟩ : ∃ W4, W4 = w3.alloc (.cells #[.string P.id, .int .i64 P.cats, .slice p1.fa P.fs.length p1.fc, .slice p1.ra P.rs.length p1.rc] 25) := ⟨_, rfl⟩
        have hb4 : Below w3.heap.size w3 W4 := by rw [hW4]; exact (Below.refl _ _).alloc (Nat.le_refl _) _
        have hr4 : RecAt P p1 w3.heap.size W4 := by rw [hW4]; exact ⟨by simp [go_sem], by simp [go_sem], by simp [go_sem], by simp [go_sem]⟩
        have hB4 := hB3.trans (hb4.mono hB3.size)
        have HI4 := Lib.hid (HI1.out.below hb4)
        have hO4 := HO3.out.below hb4
        have HC := Lib.hid (show ∀ W bs, Below W4.heap.size W4 W → W.cell? ⟨bs, 0, none⟩ = some (.slice none 0 0) → W.cell? ⟨bs, 1, none⟩ = some (.slice none 0 0) → Calls Tryd.prog 23 #[.slice (some ⟨bs, 0, none⟩) 2 2] W fun e w' => ∃ A5 c5, e = .returned (.slice A5 L.length c5) ∧ SlF w' A5 L ∧ Below W4.heap.size W4 w' ∧ Below W.heap.size W w' from fun W bs hd s0 s1 => by
          have hsl := hO4.sl.1.below hd
          refine (concat_is bs 0 0 L (([] : List FieldL).drop 0) (([] : List FieldL).take 0) none none 0 0 W hL rfl rfl (SlF.nil _ _) (SlF.nil _ _) (by omega) (by omega) s0 s1).mono ?_
          rintro e w5 ⟨A5, c5, rfl, ho5, hb5⟩
          exact ⟨A5, c5, rfl, ho5.sl.1, hd.trans (hb5.mono hd.size), hb5⟩)
        have HM := Lib.hid (show ∀ W A5 c5, SlF W A5 L → Below W4.heap.size W4 W → Calls Tryd.prog 22 #[.slice A5 L.length c5] W fun e w' => ∃ p2 : At, e = .returned (.tuple #[P.v p2, .bool true]) ∧ P.in_ p2 w' ∧ Below W4.heap.size W4 w' ∧ Below W.heap.size W w' ∧ p2.from_ W.heap.size from fun W A5 c5 hsl hd => by
          refine (made_is A5 L c5 W hsl HG.out.1 HG.out.2).mono ?_
          rintro e w6 ⟨p2, rfl, hi2, hb6, hf2⟩
          exact ⟨p2, rfl, hi2, hd.trans (hb6.mono hd.size), hb6, hf2⟩)
        clear hO4 hL
        go_upto_region 14 with (fail)
        rw [← hW4]
        clear hW4 hb4 HI1 HO3
        go_cut [13, 14] from 75 to 87 (fun z t wc => ∃ (p2 : At) (b2 : Nat), z = .pointer (some ⟨b2, 0, none⟩) ∧ t = .bool true ∧ Hid (OrdEnd P p1 p2 w w3.heap.size b2 wc))
        case first =>
          go_region_with (first
            | (go_at_call 23
               refine (HC.out (W4.alloc (.cells #[.slice none 0 0, .slice none 0 0] 22)).drew _ (by go_grown) (by simp [go_sem]) (by simp [go_sem])).mono ?_
               rintro e w5 ⟨A5, c5, rfl, ho5, hb45, hb5⟩)
            | (go_at_call 23
               refine (HC.out ((W4.alloc (.cells #[.slice none 0 0, .slice none 0 0] 22)).alloc (.cells #[.string ⟨#[]⟩, .int .i64 0, .slice none 0 0, .slice none 0 0] 25)).drew _ (by go_grown) (by simp [go_sem]) (by simp [go_sem])).mono ?_
               rintro e w5 ⟨A5, c5, rfl, ho5, hb45, hb5⟩
               have hz5 : ZeroAt (W4.heap.size + 1) w5 := ZeroAt.below (w := ((W4.alloc (.cells #[.slice none 0 0, .slice none 0 0] 22)).alloc (.cells #[.string ⟨#[]⟩, .int .i64 0, .slice none 0 0, .slice none 0 0] 25)).drew) (by constructor <;> simp [go_sem]) hb5
               have hk5 : W4.heap.size + 1 + 1 ≤ w5.heap.size := by have := hb5.size; simp at this; omega)
            | (go_at_call 23
               refine (HC.out ((W4.alloc (.cells #[.string ⟨#[]⟩, .int .i64 0, .slice none 0 0, .slice none 0 0] 25)).alloc (.cells #[.slice none 0 0, .slice none 0 0] 22)).drew _ (by go_grown) (by simp [go_sem]) (by simp [go_sem])).mono ?_
               rintro e w5 ⟨A5, c5, rfl, ho5, hb45, hb5⟩
               have hz5 : ZeroAt W4.heap.size w5 := ZeroAt.below (w := ((W4.alloc (.cells #[.string ⟨#[]⟩, .int .i64 0, .slice none 0 0, .slice none 0 0] 25)).alloc (.cells #[.slice none 0 0, .slice none 0 0] 22)).drew) (by constructor <;> simp [go_sem]) hb5
               have hk5 : W4.heap.size + 1 + 1 ≤ w5.heap.size := by have := hb5.size; simp at this; omega)
            | (go_at_call 22
               refine (HM.out w5 A5 c5 ho5 hb45).mono ?_
               rintro e w6 ⟨p2, rfl, hi2, hb46, hb6, hf2⟩
               have hz6 := hz5.below hb6
               have hz7 := hz6
               obtain ⟨v0, v1, v2, v3, v4, v5, v6, v7⟩ := hz7)
            | (go_at_call 22
               refine (HM.out w5 A5 c5 ho5 hb45).mono ?_
               rintro e w6 ⟨p2, rfl, hi2, hb46, hb6, hf2⟩)
            | (go_at_call 22
               refine (HM.out _ A5 c5 (ho5.below ((Below.refl _ _).alloc (Nat.le_refl _) _)) (hb45.alloc hb45.size _)).mono ?_
               rintro e w6 ⟨p2, rfl, hi2, hb46, hb6, hf2⟩
               have hz6 := zero_new hb6
               have hz7 := hz6
               obtain ⟨v0, v1, v2, v3, v4, v5, v6, v7⟩ := hz7))
          all_goals
            go_wp2_with fail
            go_meet
          all_goals
            case rel => first
              | exact ⟨p2, _, rfl, rfl, ordEnd_laid hB4 hr4 HI4.out hb46 hi2⟩
              | exact ⟨p2, _, rfl, rfl, ordEnd_stored hB4 hr4 HI4.out hb46 hi2 hz6 (by omega) (hf2.mono (by omega))⟩
              | exact ⟨p2, _, rfl, rfl, ordEnd_stored hB4 hr4 HI4.out hb46 hi2 hz6 hb45.size (hf2.mono (by simp))⟩
        case rest =>
          obtain ⟨p2, b2, rfl, rfl, HE⟩ := hcut
          obtain ⟨⟨x0, x1, x2, x3⟩, ⟨y0, y1, y2, y3⟩⟩ := And.intro HE.out.r1 HE.out.r2
          clear hB4 hr4 HI4 HC HM HG
          go_wp2_with fail
          refine (same_is (b := true) P P p1 p2 _ HE.out.i1 HE.out.i2 (by simp)).mono ?_
          rintro e w7 ⟨rfl, hb7⟩
          have z2 := (hb7.cell (p := ⟨w3.heap.size, 2, none⟩) (cell_lt x2)).trans x2
          have hPL := HL.out
          clear x0 x1 x2 x3 y0 y1 y2 y3
          go_wp2_with fail
          go_ret
          exact ⟨rfl, (HE.out.step hb7).below⟩
      · injection hcons with e1 _ e3
        subst e1 e3
        by_cases hcT : cc = T
        · obtain rfl : T = sm.length := by omega
          subst hcT
          obtain ⟨L, hL⟩ : ∃ L, sm.drop sm.length ++ sm.take sm.length = L := ⟨_, rfl⟩
          have HG := Lib.hid (show Fresh L ∧ recOf L = P from ⟨hL ▸ HF.out.perm (rotate_perm sm sm.length), by
            rw [HP.out, ← hL]
            unfold recOf
            rw [← setAll_perm HF.out.nd (rotate_perm sm sm.length)]⟩)
          have HL := Lib.hid (show P.fs.length = sm.length from by
            rw [HP.out]
            exact setAll_length sm HF.out.nd)
          obtain ⟨W4, hW4⟩ : ∃ W4, W4 = w3.alloc (.cells #[.string P.id, .int .i64 P.cats, .slice p1.fa P.fs.length p1.fc, .slice p1.ra P.rs.length p1.rc] 25) := ⟨_, rfl⟩
          have hb4 : Below w3.heap.size w3 W4 := by rw [hW4]; exact (Below.refl _ _).alloc (Nat.le_refl _) _
          have hr4 : RecAt P p1 w3.heap.size W4 := by rw [hW4]; exact ⟨by simp [go_sem], by simp [go_sem], by simp [go_sem], by simp [go_sem]⟩
          have hB4 := hB3.trans (hb4.mono hB3.size)
          have HI4 := Lib.hid (HI1.out.below hb4)
          have hO4 := HO3.out.below hb4
          have HC := Lib.hid (show ∀ W bs, Below W4.heap.size W4 W → W.cell? ⟨bs, 0, none⟩ = some (.slice (some ⟨g, 0, none⟩) 0 0) → W.cell? ⟨bs, 1, none⟩ = some (.slice (some ⟨g, 0, none⟩) sm.length sm.length) → Calls Tryd.prog 23 #[.slice (some ⟨bs, 0, none⟩) 2 2] W fun e w' => ∃ A5 c5, e = .returned (.slice A5 L.length c5) ∧ SlF w' A5 L ∧ Below W4.heap.size W4 w' ∧ Below W.heap.size W w' from fun W bs hd s0 s1 => by
            have hsl := hO4.sl.1.below hd
            refine (concat_is bs 0 sm.length L (sm.drop sm.length) (sm.take sm.length) (some ⟨g, 0, none⟩) (some ⟨g, 0, none⟩) 0 sm.length W hL (by simp) (by simp) (by rw [List.drop_length]; exact SlF.nil _ _) (slF_take hsl) (by omega) (by omega) s0 s1).mono ?_
            rintro e w5 ⟨A5, c5, rfl, ho5, hb5⟩
            exact ⟨A5, c5, rfl, ho5.sl.1, hd.trans (hb5.mono hd.size), hb5⟩)
          have HM := Lib.hid (show ∀ W A5 c5, SlF W A5 L → Below W4.heap.size W4 W → Calls Tryd.prog 22 #[.slice A5 L.length c5] W fun e w' => ∃ p2 : At, e = .returned (.tuple #[P.v p2, .bool true]) ∧ P.in_ p2 w' ∧ Below W4.heap.size W4 w' ∧ Below W.heap.size W w' ∧ p2.from_ W.heap.size from fun W A5 c5 hsl hd => by
            refine (made_is A5 L c5 W hsl HG.out.1 HG.out.2).mono ?_
            rintro e w6 ⟨p2, rfl, hi2, hb6, hf2⟩
            exact ⟨p2, rfl, hi2, hd.trans (hb6.mono hd.size), hb6, hf2⟩)
          clear hO4 hL
          go_upto_region 14 with (fail)
          rw [← hW4]
          clear hW4 hb4 HI1 HO3
          go_cut [13, 14] from 75 to 87 (fun z t wc => ∃ (p2 : At) (b2 : Nat), z = .pointer (some ⟨b2, 0, none⟩) ∧ t = .bool true ∧ Hid (OrdEnd P p1 p2 w w3.heap.size b2 wc))
          case first =>
            go_region_with (first
              | (go_at_call 23
                 refine (HC.out (W4.alloc (.cells #[.slice (some ⟨g, 0, none⟩) 0 0, .slice (some ⟨g, 0, none⟩) sm.length sm.length] 22)).drew _ (by go_grown) (by simp [go_sem]) (by simp [go_sem])).mono ?_
                 rintro e w5 ⟨A5, c5, rfl, ho5, hb45, hb5⟩)
              | (go_at_call 23
                 refine (HC.out ((W4.alloc (.cells #[.slice (some ⟨g, 0, none⟩) 0 0, .slice (some ⟨g, 0, none⟩) sm.length sm.length] 22)).alloc (.cells #[.string ⟨#[]⟩, .int .i64 0, .slice none 0 0, .slice none 0 0] 25)).drew _ (by go_grown) (by simp [go_sem]) (by simp [go_sem])).mono ?_
                 rintro e w5 ⟨A5, c5, rfl, ho5, hb45, hb5⟩
                 have hz5 : ZeroAt (W4.heap.size + 1) w5 := ZeroAt.below (w := ((W4.alloc (.cells #[.slice (some ⟨g, 0, none⟩) 0 0, .slice (some ⟨g, 0, none⟩) sm.length sm.length] 22)).alloc (.cells #[.string ⟨#[]⟩, .int .i64 0, .slice none 0 0, .slice none 0 0] 25)).drew) (by constructor <;> simp [go_sem]) hb5
                 have hk5 : W4.heap.size + 1 + 1 ≤ w5.heap.size := by have := hb5.size; simp at this; omega)
              | (go_at_call 23
                 refine (HC.out ((W4.alloc (.cells #[.string ⟨#[]⟩, .int .i64 0, .slice none 0 0, .slice none 0 0] 25)).alloc (.cells #[.slice (some ⟨g, 0, none⟩) 0 0, .slice (some ⟨g, 0, none⟩) sm.length sm.length] 22)).drew _ (by go_grown) (by simp [go_sem]) (by simp [go_sem])).mono ?_
                 rintro e w5 ⟨A5, c5, rfl, ho5, hb45, hb5⟩
                 have hz5 : ZeroAt W4.heap.size w5 := ZeroAt.below (w := ((W4.alloc (.cells #[.string ⟨#[]⟩, .int .i64 0, .slice none 0 0, .slice none 0 0] 25)).alloc (.cells #[.slice (some ⟨g, 0, none⟩) 0 0, .slice (some ⟨g, 0, none⟩) sm.length sm.length] 22)).drew) (by constructor <;> simp [go_sem]) hb5
                 have hk5 : W4.heap.size + 1 + 1 ≤ w5.heap.size := by have := hb5.size; simp at this; omega)
              | (go_at_call 22
                 refine (HM.out w5 A5 c5 ho5 hb45).mono ?_
                 rintro e w6 ⟨p2, rfl, hi2, hb46, hb6, hf2⟩
                 have hz6 := hz5.below hb6
                 have hz7 := hz6
                 obtain ⟨v0, v1, v2, v3, v4, v5, v6, v7⟩ := hz7)
              | (go_at_call 22
                 refine (HM.out w5 A5 c5 ho5 hb45).mono ?_
                 rintro e w6 ⟨p2, rfl, hi2, hb46, hb6, hf2⟩)
              | (go_at_call 22
                 refine (HM.out _ A5 c5 (ho5.below ((Below.refl _ _).alloc (Nat.le_refl _) _)) (hb45.alloc hb45.size _)).mono ?_
                 rintro e w6 ⟨p2, rfl, hi2, hb46, hb6, hf2⟩
                 have hz6 := zero_new hb6
                 have hz7 := hz6
                 obtain ⟨v0, v1, v2, v3, v4, v5, v6, v7⟩ := hz7))
            all_goals
              go_wp2_with fail
              go_meet
            all_goals
              case rel => first
                | exact ⟨p2, _, rfl, rfl, ordEnd_laid hB4 hr4 HI4.out hb46 hi2⟩
                | exact ⟨p2, _, rfl, rfl, ordEnd_stored hB4 hr4 HI4.out hb46 hi2 hz6 (by omega) (hf2.mono (by omega))⟩
                | exact ⟨p2, _, rfl, rfl, ordEnd_stored hB4 hr4 HI4.out hb46 hi2 hz6 hb45.size (hf2.mono (by simp))⟩
          case rest =>
            obtain ⟨p2, b2, rfl, rfl, HE⟩ := hcut
            obtain ⟨⟨x0, x1, x2, x3⟩, ⟨y0, y1, y2, y3⟩⟩ := And.intro HE.out.r1 HE.out.r2
            clear hB4 hr4 HI4 HC HM HG
            go_wp2_with fail
            refine (same_is (b := true) P P p1 p2 _ HE.out.i1 HE.out.i2 (by simp)).mono ?_
            rintro e w7 ⟨rfl, hb7⟩
            have z2 := (hb7.cell (p := ⟨w3.heap.size, 2, none⟩) (cell_lt x2)).trans x2
            have hPL := HL.out
            clear x0 x1 x2 x3 y0 y1 y2 y3
            go_wp2_with fail
            go_ret
            exact ⟨rfl, (HE.out.step hb7).below⟩
        · have hcs : sm.length ≤ cc := by omega
          obtain ⟨L, hL⟩ : ∃ L, sm.drop T ++ sm.take T = L := ⟨_, rfl⟩
          have HG := Lib.hid (show Fresh L ∧ recOf L = P from ⟨hL ▸ HF.out.perm (rotate_perm sm T), by
            rw [HP.out, ← hL]
            unfold recOf
            rw [← setAll_perm HF.out.nd (rotate_perm sm T)]⟩)
          have HL := Lib.hid (show P.fs.length = sm.length from by
            rw [HP.out]
            exact setAll_length sm HF.out.nd)
          obtain ⟨W4, hW4⟩ : ∃ W4, W4 = w3.alloc (.cells #[.string P.id, .int .i64 P.cats, .slice p1.fa P.fs.length p1.fc, .slice p1.ra P.rs.length p1.rc] 25) := ⟨_, rfl⟩
          have hb4 : Below w3.heap.size w3 W4 := by rw [hW4]; exact (Below.refl _ _).alloc (Nat.le_refl _) _
          have hr4 : RecAt P p1 w3.heap.size W4 := by rw [hW4]; exact ⟨by simp [go_sem], by simp [go_sem], by simp [go_sem], by simp [go_sem]⟩
          have hB4 := hB3.trans (hb4.mono hB3.size)
          have HI4 := Lib.hid (HI1.out.below hb4)
          have hO4 := HO3.out.below hb4
          have HC := Lib.hid (show ∀ W bs, Below W4.heap.size W4 W → W.cell? ⟨bs, 0, none⟩ = some (.slice (some ⟨g, T * 2, none⟩) (sm.length - T) (cc - T)) → W.cell? ⟨bs, 1, none⟩ = some (.slice (some ⟨g, 0, none⟩) T cc) → Calls Tryd.prog 23 #[.slice (some ⟨bs, 0, none⟩) 2 2] W fun e w' => ∃ A5 c5, e = .returned (.slice A5 L.length c5) ∧ SlF w' A5 L ∧ Below W4.heap.size W4 w' ∧ Below W.heap.size W w' from fun W bs hd s0 s1 => by
            have hsl := hO4.sl.1.below hd
            refine (concat_is bs (sm.length - T) T L (sm.drop T) (sm.take T) (some ⟨g, T * 2, none⟩) (some ⟨g, 0, none⟩) (cc - T) cc W hL (List.length_drop ..) (by rw [List.length_take]; omega) (slF_dropn hsl) (slF_take hsl) (by omega) (by omega) s0 s1).mono ?_
            rintro e w5 ⟨A5, c5, rfl, ho5, hb5⟩
            exact ⟨A5, c5, rfl, ho5.sl.1, hd.trans (hb5.mono hd.size), hb5⟩)
          have HM := Lib.hid (show ∀ W A5 c5, SlF W A5 L → Below W4.heap.size W4 W → Calls Tryd.prog 22 #[.slice A5 L.length c5] W fun e w' => ∃ p2 : At, e = .returned (.tuple #[P.v p2, .bool true]) ∧ P.in_ p2 w' ∧ Below W4.heap.size W4 w' ∧ Below W.heap.size W w' ∧ p2.from_ W.heap.size from fun W A5 c5 hsl hd => by
            refine (made_is A5 L c5 W hsl HG.out.1 HG.out.2).mono ?_
            rintro e w6 ⟨p2, rfl, hi2, hb6, hf2⟩
            exact ⟨p2, rfl, hi2, hd.trans (hb6.mono hd.size), hb6, hf2⟩)
          clear hO4 hL
          go_upto_region 14 with (fail)
          rw [← hW4]
          clear hW4 hb4 HI1 HO3
          go_cut [13, 14] from 75 to 87 (fun z t wc => ∃ (p2 : At) (b2 : Nat), z = .pointer (some ⟨b2, 0, none⟩) ∧ t = .bool true ∧ Hid (OrdEnd P p1 p2 w w3.heap.size b2 wc))
          case first =>
            go_region_with (first
              | (go_at_call 23
                 refine (HC.out (W4.alloc (.cells #[.slice (some ⟨g, T * 2, none⟩) (sm.length - T) (cc - T), .slice (some ⟨g, 0, none⟩) T cc] 22)).drew _ (by go_grown) (by simp [go_sem]) (by simp [go_sem])).mono ?_
                 rintro e w5 ⟨A5, c5, rfl, ho5, hb45, hb5⟩)
              | (go_at_call 23
                 refine (HC.out ((W4.alloc (.cells #[.slice (some ⟨g, T * 2, none⟩) (sm.length - T) (cc - T), .slice (some ⟨g, 0, none⟩) T cc] 22)).alloc (.cells #[.string ⟨#[]⟩, .int .i64 0, .slice none 0 0, .slice none 0 0] 25)).drew _ (by go_grown) (by simp [go_sem]) (by simp [go_sem])).mono ?_
                 rintro e w5 ⟨A5, c5, rfl, ho5, hb45, hb5⟩
                 have hz5 : ZeroAt (W4.heap.size + 1) w5 := ZeroAt.below (w := ((W4.alloc (.cells #[.slice (some ⟨g, T * 2, none⟩) (sm.length - T) (cc - T), .slice (some ⟨g, 0, none⟩) T cc] 22)).alloc (.cells #[.string ⟨#[]⟩, .int .i64 0, .slice none 0 0, .slice none 0 0] 25)).drew) (by constructor <;> simp [go_sem]) hb5
                 have hk5 : W4.heap.size + 1 + 1 ≤ w5.heap.size := by have := hb5.size; simp at this; omega)
              | (go_at_call 23
                 refine (HC.out ((W4.alloc (.cells #[.string ⟨#[]⟩, .int .i64 0, .slice none 0 0, .slice none 0 0] 25)).alloc (.cells #[.slice (some ⟨g, T * 2, none⟩) (sm.length - T) (cc - T), .slice (some ⟨g, 0, none⟩) T cc] 22)).drew _ (by go_grown) (by simp [go_sem]) (by simp [go_sem])).mono ?_
                 rintro e w5 ⟨A5, c5, rfl, ho5, hb45, hb5⟩
                 have hz5 : ZeroAt W4.heap.size w5 := ZeroAt.below (w := ((W4.alloc (.cells #[.string ⟨#[]⟩, .int .i64 0, .slice none 0 0, .slice none 0 0] 25)).alloc (.cells #[.slice (some ⟨g, T * 2, none⟩) (sm.length - T) (cc - T), .slice (some ⟨g, 0, none⟩) T cc] 22)).drew) (by constructor <;> simp [go_sem]) hb5
                 have hk5 : W4.heap.size + 1 + 1 ≤ w5.heap.size := by have := hb5.size; simp at this; omega)
              | (go_at_call 22
                 refine (HM.out w5 A5 c5 ho5 hb45).mono ?_
                 rintro e w6 ⟨p2, rfl, hi2, hb46, hb6, hf2⟩
                 have hz6 := hz5.below hb6
                 have hz7 := hz6
                 obtain ⟨v0, v1, v2, v3, v4, v5, v6, v7⟩ := hz7)
              | (go_at_call 22
                 refine (HM.out w5 A5 c5 ho5 hb45).mono ?_
                 rintro e w6 ⟨p2, rfl, hi2, hb46, hb6, hf2⟩)
              | (go_at_call 22
                 refine (HM.out _ A5 c5 (ho5.below ((Below.refl _ _).alloc (Nat.le_refl _) _)) (hb45.alloc hb45.size _)).mono ?_
                 rintro e w6 ⟨p2, rfl, hi2, hb46, hb6, hf2⟩
                 have hz6 := zero_new hb6
                 have hz7 := hz6
                 obtain ⟨v0, v1, v2, v3, v4, v5, v6, v7⟩ := hz7))
            all_goals
              go_wp2_with fail
              go_meet
            all_goals
              case rel => first
                | exact ⟨p2, _, rfl, rfl, ordEnd_laid hB4 hr4 HI4.out hb46 hi2⟩
                | exact ⟨p2, _, rfl, rfl, ordEnd_stored hB4 hr4 HI4.out hb46 hi2 hz6 (by omega) (hf2.mono (by omega))⟩
                | exact ⟨p2, _, rfl, rfl, ordEnd_stored hB4 hr4 HI4.out hb46 hi2 hz6 hb45.size (hf2.mono (by simp))⟩
          case rest =>
            obtain ⟨p2, b2, rfl, rfl, HE⟩ := hcut
            obtain ⟨⟨x0, x1, x2, x3⟩, ⟨y0, y1, y2, y3⟩⟩ := And.intro HE.out.r1 HE.out.r2
            clear hB4 hr4 HI4 HC HM HG
            go_wp2_with fail
            refine (same_is (b := true) P P p1 p2 _ HE.out.i1 HE.out.i2 (by simp)).mono ?_
            rintro e w7 ⟨rfl, hb7⟩
            have z2 := (hb7.cell (p := ⟨w3.heap.size, 2, none⟩) (cell_lt x2)).trans x2
            have hPL := HL.out
            clear x0 x1 x2 x3 y0 y1 y2 y3
            go_wp2_with fail
            go_ret
            exact ⟨rfl, (HE.out.step hb7).below⟩
end Go.Proofs.YtdnjboopaagleaaDoor
