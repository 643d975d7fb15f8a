/- A map of names to lists of versions, as package living makes it; a list of records in memory. -/
import Derived.Test.YteimdhkajbldjaaGreatSFine
import Derived.Test.YteimdhkajbldjaaGreatFMath
import Derived.Maps.RangeWalk
import Derived.Maps.OwnOps
import Derived.Maps.OwnSet
import Derived.Laws.MakeOwn
import Derived.StringKeys
set_option linter.unusedVariables false
set_option linter.unusedSimpArgs false
set_option maxRecDepth 100000
namespace Go.Proofs.YteimdhkajbldjaaGreat
open Go.RowKit Go.Sort Go.Maps

/-- an element as it is -/
def rawE (v : Value) : Option (DataW Value × List MemPlace) := some (.held v, [])
abbrev nilS : Value := .slice none 0 0
abbrev strK (s : ByteArray) : Lit := .string s.data.toList
theorem lawStr : Keyed Tryz.prog 9 := string_keyed Tryz.underlying9
theorem strK_inj {s t : ByteArray} (h : strK s = strK t) : s = t := bdata_inj (by injection h)
theorem keyStr {s : ByteArray} (h : s.size ≤ maxLen) : keyOf Tryz.prog 9 (.string s) = some (strK s) := WideMaps.keyOf_string_mk Tryz.underlying9 h

/-- the versions of a name -/
def ofName (l : List PV) (id : ByteArray) : List PV := l.filter fun x => sEq x.v.r.id id
theorem ofName_hist (l : List PV) (id : ByteArray) : (ofName l id).map (·.v) = hist (l.map (·.v)) id := by
  unfold ofName hist
  rw [List.filter_map]
  rfl
theorem ofName_mem {l : List PV} {id : ByteArray} {x : PV} (h : x ∈ ofName l id) : x ∈ l := (List.mem_filter.1 h).1
theorem ofName_len (l : List PV) (id : ByteArray) : (ofName l id).length ≤ l.length := List.length_filter_le _ _
theorem ofName_hit (l : List PV) (x : PV) : ofName (l ++ [x]) x.v.r.id = ofName l x.v.r.id ++ [x] := by
  unfold ofName
  rw [List.filter_append]
  congr 1
  simp [sEq_iff.2 (rfl : x.v.r.id = x.v.r.id)]
theorem ofName_miss (l : List PV) (x : PV) {id : ByteArray} (h : id ≠ x.v.r.id) : ofName (l ++ [x]) id = ofName l id := by
  unfold ofName
  rw [List.filter_append, List.filter_cons_of_neg (by rw [sEq_false.2 fun e => h e.symm]; simp)]
  simp

abbrev mVers (w : World) (b n : Nat) (D : DataW Value) : Prop := w.ownsMap Tryz.prog 9 rawE b n D
/-- block b is a map of names to their versions among l; their rows lie from block B on, no two in one -/
structure Named (w : World) (B b n : Nat) (l : List PV) (V : ByteArray → Value) : Prop where
  m : ∃ D, mVers w b n D ∧ ∀ id : ByteArray, id.size ≤ maxLen → D.atKey (strK id) (.held nilS) = .held (V id)
  row : ∀ id : ByteArray, RowV B w (V id) (ofName l id)
  ap : ∀ i j : ByteArray, i ≠ j → (V i).ownBlock = none ∨ (V i).ownBlock ≠ (V j).ownBlock
  lt : b < B
theorem Named.below {w w' : World} {B b n : Nat} {l : List PV} {V : ByteArray → Value} (h : Named w B b n l V) (hb : Below w.heap.size w w') : Named w' B b n l V := by
  obtain ⟨D, h1, k1⟩ := h.m
  exact ⟨⟨D, h1.kept (grown_of_below hb) (by simp), k1⟩, fun id => (h.row id).below hb, h.ap, h.lt⟩
theorem Named.mlt {w : World} {B b n : Nat} {l : List PV} {V : ByteArray → Value} (h : Named w B b n l V) : b < w.heap.size := by
  obtain ⟨D, h1, _⟩ := h.m
  exact h1.lt
theorem named_made (w : World) : Named (w.alloc (.map #[] 0)) (w.heap.size + 1) w.heap.size 0 [] (fun _ => nilS) :=
  ⟨⟨.map [], World.ownsMap_made w _ _ _, fun id _ => rfl⟩, fun id => RowV.nil _ _, fun i j _ => .inl rfl, by omega⟩
theorem zeroVers (w : World) : (zeroValue 45).run Tryz.prog w = .ok nilS w := by kernel_rfl
theorem Named.look {w : World} {B b n : Nat} {l : List PV} {V : ByteArray → Value} (h : Named w B b n l V) {id : ByteArray} (hi : id.size ≤ maxLen) :
    (Instr.lookup 175 (.map (some b)) (.string id) false).run Tryz.prog w = .ok (V id) w := by
  obtain ⟨D, h1, k1⟩ := h.m
  obtain ⟨v, ps, hrun, hv⟩ := h1.lookup lawStr Tryz.underlying175 (zeroVers w) (zd := .held nilS) (zp := []) rfl (keyStr hi)
  rw [k1 id hi] at hv
  have e : v = V id := by
    have := congrArg (fun o => o.map Prod.fst) hv
    simp [rawE] at this
    exact this
  rw [e] at hrun
  exact hrun
/-- a name's versions, one more -/
theorem Named.store {w w5 : World} {B b n : Nat} {l : List PV} {V : ByteArray → Value} (h : Named w B b n l V) (hn : n < maxLen) (x : PV) (hi : x.v.r.id.size ≤ maxLen) (hg : w.grownBy w5 (V x.v.r.id).ownBlock) (v' : Value)
    (hrow : RowV B w5 v' (ofName l x.v.r.id ++ [x])) (hloc : (V x.v.r.id).ownBlock = v'.ownBlock ∨ ∃ g, v'.ownBlock = some g ∧ w.heap.size ≤ g) :
    ∃ w6 V', (Instr.mapUpdate 175 (.map (some b)) (.string x.v.r.id) v').run Tryz.prog w5 = .ok () w6 ∧ Named w6 B b (n + 1) (l ++ [x]) V' ∧ w5.grownBy w6 (some b) := by
  obtain ⟨D, h1, k1⟩ := h.m
  have hlt := h1.lt
  have hVb : ∀ id, (V id).ownBlock = none ∨ (V id).ownBlock ≠ some b := fun id => by
    cases hv : (V id).ownBlock with
    | none => exact .inl rfl
    | some k => exact .inr fun e => by have := (World.ownsRow.lt (h.row id) k hv).1; cases e; have := h.lt; omega
  have hb5 : w5.ownsMap Tryz.prog 9 rawE b n D := h1.kept hg (by
    rcases hVb x.v.r.id with e | e
    · rw [e]; simp
    · exact e.symm)
  obtain ⟨w6, hrun, ho, hg6⟩ := hb5.update lawStr Tryz.underlying175 hn (key := .string x.v.r.id) (val := v') (d := .held v') (ps := []) (keyStr hi) rfl
  have hnew : ∀ j, j ≠ x.v.r.id → (V j).ownBlock = none ∨ (V j).ownBlock ≠ v'.ownBlock := fun j hj => by
    rcases hloc with e | ⟨g, e, hge⟩
    · rw [← e]; exact h.ap j _ hj
    · cases hv : (V j).ownBlock with
      | none => exact .inl rfl
      | some k => exact .inr fun e2 => by have := (World.ownsRow.lt (h.row j) k hv).2; rw [e] at e2; cases e2; omega
  have hv'b : v'.ownBlock = none ∨ v'.ownBlock ≠ some b := by
    cases hv : v'.ownBlock with
    | none => exact .inl rfl
    | some k => exact .inr fun e => by have := (World.ownsRow.lt hrow k hv).1; cases e; have := h.lt; omega
  refine ⟨w6, fun id => if sEq id x.v.r.id = true then v' else V id, hrun, ⟨⟨_, ho, fun id hid => ?_⟩, fun id => ?_, fun i j hij => ?_, h.lt⟩, hg6⟩
  · by_cases e : id = x.v.r.id
    · subst e
      rw [if_pos (sEq_iff.2 rfl)]
      exact atKey_put_same h1.isMap (lawStr.key (keyStr hi)) _ _
    · rw [if_neg (by rw [sEq_false.2 e]; simp), atKey_put_other (fun ek => e (strK_inj ek))]
      exact k1 id hid
  · by_cases e : id = x.v.r.id
    · subst e
      rw [if_pos (sEq_iff.2 rfl), ofName_hit]
      exact World.ownsRow.kept hrow hg6 hv'b
    · rw [if_neg (by rw [sEq_false.2 e]; simp), ofName_miss l x e]
      exact World.ownsRow.kept (World.ownsRow.kept (h.row id) hg (h.ap id _ e)) hg6 (hVb id)
  · by_cases e1 : i = x.v.r.id
    · rw [if_pos (sEq_iff.2 e1)]
      by_cases e2 : j = x.v.r.id
      · exact absurd (e1.trans e2.symm) hij
      · rw [if_neg (by rw [sEq_false.2 e2]; simp)]
        rcases hnew j e2 with e | e
        · cases hv : v'.ownBlock with
          | none => exact .inl rfl
          | some k => exact .inr (by rw [e]; simp)
        · exact .inr e.symm
    · rw [if_neg (by rw [sEq_false.2 e1]; simp)]
      by_cases e2 : j = x.v.r.id
      · rw [if_pos (sEq_iff.2 e2)]
        exact hnew i e1
      · rw [if_neg (by rw [sEq_false.2 e2]; simp)]
        exact h.ap i j hij

theorem Named.push {w w5 : World} {B b n : Nat} {l : List PV} {V : ByteArray → Value} (h : Named w B b n l V) (hn : n < maxLen) (x : PV) (hi : x.v.r.id.size ≤ maxLen) {A : Option Addr} {c g cap : Nat} {q : List PV} (hq : ofName l x.v.r.id = q)
    (hV : V x.v.r.id = .slice A q.length c) (hown : w5.ownsRow B 55 5 (.slice (some ⟨g, 0, none⟩) (q.length + 1) cap) (q.length + 1) (cellsV q ++ cellsV [x])) (hg : w.grownBy w5 (Value.slice A q.length c).ownBlock)
    (hat : (Value.slice A q.length c).ownBlock = some g ∨ g = w.heap.size) :
    ∃ w6 V', (Instr.mapUpdate 175 (.map (some b)) (.string x.v.r.id) (.slice (some ⟨g, 0, none⟩) (q.length + 1) cap)).run Tryz.prog w5 = .ok () w6 ∧ Hid (Named w6 B b (n + 1) (l ++ [x]) V') ∧ Hid (w5.grownBy w6 (some b)) := by
  refine h.store hn x hi (by rw [hV]; exact hg) _ ?_ ?_
  · rw [hq]
    unfold RowV
    rw [cellsV_append, List.length_append]
    exact hown
  · rw [hV]
    rcases hat with e | e
    · exact .inl e
    · exact .inr ⟨g, rfl, by omega⟩

/-! ## records in memory -/
structure RC where
  r : RecL
  p : At
/-- the cells of a slice of records -/
def SlRc (w : World) (a : Option Addr) (l : List RC) : Prop :=
  ∀ k x, l[k]? = some x → x.r.in_ x.p w ∧ ∃ b off, a = some ⟨b, off, none⟩ ∧ w.cell? ⟨b, off + k * 4, none⟩ = some (.string x.r.id) ∧ w.cell? ⟨b, off + k * 4 + 1, none⟩ = some (.int .i64 x.r.cats) ∧
    w.cell? ⟨b, off + k * 4 + 2, none⟩ = some (.slice x.p.fa x.r.fs.length x.p.fc) ∧ w.cell? ⟨b, off + k * 4 + 3, none⟩ = some (.slice x.p.ra x.r.rs.length x.p.rc)
theorem SlRc.keep {w w' : World} {a : Option Addr} {l : List RC} (h : SlRc w a l) (hb : ∀ b o, b < w.heap.size → w'.cell? ⟨b, o, none⟩ = w.cell? ⟨b, o, none⟩) : SlRc w' a l := fun k x hk => by
  obtain ⟨hi, b, off, rfl, h0, h1, h2, h3⟩ := h k x hk
  exact ⟨hi.keep hb, b, off, rfl, (hb _ _ (cell_lt h0)).trans h0, (hb _ _ (cell_lt h0)).trans h1, (hb _ _ (cell_lt h0)).trans h2, (hb _ _ (cell_lt h0)).trans h3⟩
theorem SlRc.below {w w' : World} {a : Option Addr} {l : List RC} (h : SlRc w a l) (hb : Below w.heap.size w w') : SlRc w' a l := h.keep (bcell hb).1
theorem SlRc.nil (w : World) (a : Option Addr) : SlRc w a [] := fun k x h => by simp at h
/-- block g has room for m records, of which the first are these, with lists of their own -/
structure FillR (g m : Nat) (done : List RC) (w : World) : Prop where
  got : ∀ k x, done[k]? = some x → w.cell? ⟨g, k * 4, none⟩ = some (.string x.r.id) ∧ w.cell? ⟨g, k * 4 + 1, none⟩ = some (.int .i64 x.r.cats) ∧
    w.cell? ⟨g, k * 4 + 2, none⟩ = some (.slice x.p.fa x.r.fs.length x.p.fc) ∧ w.cell? ⟨g, k * 4 + 3, none⟩ = some (.slice x.p.ra x.r.rs.length x.p.rc)
  is : ∀ o, o < m * 4 → ∃ v, w.cell? ⟨g, o, none⟩ = some v
  fz : ∀ o, w.frozen? ⟨g, o, none⟩ = false
  new : ∀ x ∈ done, NewRec (g + 1) w x.r x.p
  lt : g < w.heap.size
theorem FillR.below {g m : Nat} {done : List RC} {w w' : World} (h : FillR g m done w) (hb : Below w.heap.size w w') : FillR g m done w' := by
  obtain ⟨hc, hf⟩ := bcell hb
  refine ⟨fun k x hx => ?_, fun o ho => ?_, fun o => (hf g o h.lt).trans (h.fz o), fun x hx => (h.new x hx).below hb, Nat.lt_of_lt_of_le h.lt hb.size⟩
  · obtain ⟨c0, c1, c2, c3⟩ := h.got k x hx
    exact ⟨(hc _ _ h.lt).trans c0, (hc _ _ h.lt).trans c1, (hc _ _ h.lt).trans c2, (hc _ _ h.lt).trans c3⟩
  · obtain ⟨v, hv⟩ := h.is o ho
    exact ⟨v, (hc _ _ h.lt).trans hv⟩
theorem ne_off {g a b : Nat} (h : a ≠ b) : (⟨g, a, none⟩ : Addr) ≠ ⟨g, b, none⟩ := fun e => h (by injection e)
theorem isSome_of {w : World} {p : Addr} {v : Value} (h : w.cell? p = some v) : (w.cell? p).isSome = true := by rw [h]; rfl
theorem set_keeps {w : World} {p q : Addr} {u v : Value} (h : w.cell? q = some v) : ∃ v', (w.setCell p u).cell? q = some v' := cell?_setCell_some h
theorem four_cells {w : World} {g o : Nat} (h : ∀ j, j < 4 → ∃ v, w.cell? ⟨g, o + j, none⟩ = some v) (v0 v1 v2 v3 : Value) :
    ((((w.setCell ⟨g, o, none⟩ v0).setCell ⟨g, o + 1, none⟩ v1).setCell ⟨g, o + 2, none⟩ v2).setCell ⟨g, o + 3, none⟩ v3).cell? ⟨g, o, none⟩ = some v0 ∧
    ((((w.setCell ⟨g, o, none⟩ v0).setCell ⟨g, o + 1, none⟩ v1).setCell ⟨g, o + 2, none⟩ v2).setCell ⟨g, o + 3, none⟩ v3).cell? ⟨g, o + 1, none⟩ = some v1 ∧
    ((((w.setCell ⟨g, o, none⟩ v0).setCell ⟨g, o + 1, none⟩ v1).setCell ⟨g, o + 2, none⟩ v2).setCell ⟨g, o + 3, none⟩ v3).cell? ⟨g, o + 2, none⟩ = some v2 ∧
    ((((w.setCell ⟨g, o, none⟩ v0).setCell ⟨g, o + 1, none⟩ v1).setCell ⟨g, o + 2, none⟩ v2).setCell ⟨g, o + 3, none⟩ v3).cell? ⟨g, o + 3, none⟩ = some v3 ∧
    ∀ q, (q < o ∨ o + 4 ≤ q) → ((((w.setCell ⟨g, o, none⟩ v0).setCell ⟨g, o + 1, none⟩ v1).setCell ⟨g, o + 2, none⟩ v2).setCell ⟨g, o + 3, none⟩ v3).cell? ⟨g, q, none⟩ = w.cell? ⟨g, q, none⟩ := by
  obtain ⟨u0, h0⟩ := h 0 (by omega)
  obtain ⟨u1, h1⟩ := h 1 (by omega)
  obtain ⟨u2, h2⟩ := h 2 (by omega)
  obtain ⟨u3, h3⟩ := h 3 (by omega)
  rw [Nat.add_zero] at h0
  have a1 : (w.setCell ⟨g, o, none⟩ v0).cell? ⟨g, o + 1, none⟩ = some u1 := (World.cell?_setCell_other _ _ _ _ (ne_off (by omega))).trans h1
  have a2 : ((w.setCell ⟨g, o, none⟩ v0).setCell ⟨g, o + 1, none⟩ v1).cell? ⟨g, o + 2, none⟩ = some u2 := (World.cell?_setCell_other _ _ _ _ (ne_off (by omega))).trans ((World.cell?_setCell_other _ _ _ _ (ne_off (by omega))).trans h2)
  have a3 : (((w.setCell ⟨g, o, none⟩ v0).setCell ⟨g, o + 1, none⟩ v1).setCell ⟨g, o + 2, none⟩ v2).cell? ⟨g, o + 3, none⟩ = some u3 := (World.cell?_setCell_other _ _ _ _ (ne_off (by omega))).trans ((World.cell?_setCell_other _ _ _ _ (ne_off (by omega))).trans ((World.cell?_setCell_other _ _ _ _ (ne_off (by omega))).trans h3))
  refine ⟨?_, ?_, ?_, ?_, fun q hq => ?_⟩
  · rw [World.cell?_setCell_other _ _ _ _ (ne_off (by omega)), World.cell?_setCell_other _ _ _ _ (ne_off (by omega)), World.cell?_setCell_other _ _ _ _ (ne_off (by omega))]
    exact World.cell?_setCell_same _ _ _ h0
  · rw [World.cell?_setCell_other _ _ _ _ (ne_off (by omega)), World.cell?_setCell_other _ _ _ _ (ne_off (by omega))]
    exact World.cell?_setCell_same _ _ _ a1
  · rw [World.cell?_setCell_other _ _ _ _ (ne_off (by omega))]
    exact World.cell?_setCell_same _ _ _ a2
  · exact World.cell?_setCell_same _ _ _ a3
  · rw [World.cell?_setCell_other _ _ _ _ (ne_off (by omega)), World.cell?_setCell_other _ _ _ _ (ne_off (by omega)), World.cell?_setCell_other _ _ _ _ (ne_off (by omega)), World.cell?_setCell_other _ _ _ _ (ne_off (by omega))]
abbrev putRc (w : World) (g o : Nat) (r : RecL) (p : At) : World := (((w.setCell ⟨g, o, none⟩ (.string r.id)).setCell ⟨g, o + 1, none⟩ (.int .i64 r.cats)).setCell ⟨g, o + 2, none⟩ (.slice p.fa r.fs.length p.fc)).setCell ⟨g, o + 3, none⟩ (.slice p.ra r.rs.length p.rc)
theorem FillR.put {g m i : Nat} {done : List RC} {w : World} (h : FillR g m done w) (hi : done.length = i) (him : i < m) {r : RecL} {p : At} (hn : NewRec (g + 1) w r p) : FillR g m (done ++ [⟨r, p⟩]) (putRc w g (i * 4) r p) := by
  obtain ⟨c0, c1, c2, c3, cq⟩ := four_cells (w := w) (g := g) (o := i * 4) (fun j hj => h.is _ (by omega)) (.string r.id) (.int .i64 r.cats) (.slice p.fa r.fs.length p.fc) (.slice p.ra r.rs.length p.rc)
  have hl : g < g + 1 := by omega
  refine ⟨fun k x hx => ?_, fun o ho => ?_, fun o => by simp [h.fz], fun x hx => ?_, by simpa [World.setCell] using h.lt⟩
  · by_cases hk : k < i
    · rw [List.getElem?_append_left (by omega)] at hx
      obtain ⟨d0, d1, d2, d3⟩ := h.got k x hx
      exact ⟨(cq _ (by omega)).trans d0, (cq _ (by omega)).trans d1, (cq _ (by omega)).trans d2, (cq _ (by omega)).trans d3⟩
    · have hk2 : k = i := by
        have := (List.getElem?_eq_some_iff.1 hx).1
        simp at this
        omega
      subst hk2
      rw [List.getElem?_append_right (by omega), hi, Nat.sub_self] at hx
      simp only [List.getElem?_cons_zero, Option.some.injEq] at hx
      subst hx
      exact ⟨c0, c1, c2, c3⟩
  · obtain ⟨v, hv⟩ := h.is o ho
    obtain ⟨_, h1⟩ := set_keeps (p := ⟨g, i * 4, none⟩) (u := .string r.id) hv
    obtain ⟨_, h2⟩ := set_keeps (p := ⟨g, i * 4 + 1, none⟩) (u := .int .i64 r.cats) h1
    obtain ⟨_, h3⟩ := set_keeps (p := ⟨g, i * 4 + 2, none⟩) (u := .slice p.fa r.fs.length p.fc) h2
    obtain ⟨_, h4⟩ := set_keeps (p := ⟨g, i * 4 + 3, none⟩) (u := .slice p.ra r.rs.length p.rc) h3
    exact ⟨_, h4⟩
  · have hx' : NewRec (g + 1) w x.r x.p := by
      rcases List.mem_append.1 hx with hx | hx
      · exact h.new x hx
      · rw [List.mem_singleton] at hx; subst hx; exact hn
    exact (((hx'.setCell hl _).setCell hl _).setCell hl _).setCell hl _
theorem FillR.sl {g m : Nat} {done : List RC} {w : World} (h : FillR g m done w) : SlRc w (some ⟨g, 0, none⟩) done := fun k x hx => by
  obtain ⟨c0, c1, c2, c3⟩ := h.got k x hx
  exact ⟨(h.new x (List.mem_of_getElem? hx)).in_, g, 0, rfl, by rw [Nat.zero_add]; exact c0, by rw [Nat.zero_add]; exact c1, by rw [Nat.zero_add]; exact c2, by rw [Nat.zero_add]; exact c3⟩
theorem fill_made (w : World) (m : Nat) (z : Array Value) (hz : z.size = 4) : FillR w.heap.size m [] (w.alloc (.cells (madeCells z (m * 4)) 35)) := by
  refine ⟨fun k x hx => (by simp at hx), fun o ho => ?_, fun o => (by simp [go_sem]), fun x hx => (by cases hx), (by simp)⟩
  have hs : o < (madeCells z (m * 4)).size := by rw [size_madeCells]; exact ho
  exact ⟨(madeCells z (m * 4))[o], by simp [go_sem, hs]⟩
theorem Tryz.infoRec : (Tryz.prog.info? 35).map (fun i => (i.zero, i.size, i.bytes)) = some (some (.agg #[.string ⟨#[]⟩, .int .i64 0, .slice none 0 0, .slice none 0 0]), 4, 72) := by kernel_rfl
/-- 'make([]api.Record, m)' -/
theorem make_recs (m : Nat) (hm : m ≤ 1000000) (w : World) : (Instr.makeSlice 123 (.int .i64 (m : Int)) (.int .i64 (m : Int))).run Tryz.prog w = .ok (.slice (some ⟨w.heap.size, 0, none⟩) m m) (w.alloc (.cells (madeCells #[.string ⟨#[]⟩, .int .i64 0, .slice none 0 0, .slice none 0 0] (m * 4)) 35)) := by
  obtain ⟨i, hi, hz, hs, hb⟩ := info_parts Tryz.infoRec
  have h := run_make (P := Tryz.prog) w 123 35 i _ Tryz.underlying123 hi hz .i64 .i64 (m : Int) (m : Int) (by omega) (Int.le_refl _) (by rw [hb]; omega) (by omega)
  rw [hs] at h
  exact h
/-- what Records answers -/
def RecsTo (vs : List VerL) (w : World) (e : Ending) (w' : World) : Prop := ∃ A l c, e = .returned (.tuple #[.slice A (List.length l) c, .int .i64 0]) ∧ l.map (·.r) = recs vs ∧ SlRc w' A l ∧ l.length ≤ 5120 ∧ Below w.heap.size w w'
end Go.Proofs.YteimdhkajbldjaaGreat
