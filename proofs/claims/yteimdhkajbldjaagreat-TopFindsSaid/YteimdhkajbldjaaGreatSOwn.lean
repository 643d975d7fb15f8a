/- Lists of versions that a call owns: copyOf, chosen. -/
import Derived.Test.YteimdhkajbldjaaGreatSCount
import Derived.Laws.OwnMore
set_option linter.unusedVariables false
set_option linter.unusedSimpArgs false
set_option maxRecDepth 100000
namespace Go.Proofs.YteimdhkajbldjaaGreat
open Go.RowKit Go.Sort Go.Maps

theorem Tryz.infoVer : (Tryz.prog.info? 55).map (fun i => (i.zero, i.size, i.bytes)) = some (some (.agg #[.string ⟨#[]⟩, .int .i64 0, .slice none 0 0, .slice none 0 0, .bool false]), 5, 80) := by kernel_rfl

def cellsV (l : List PV) : List Value := l.flatMap PV.cells
theorem cellsV_len : ∀ l : List PV, (cellsV l).length = l.length * 5
  | [] => rfl
  | x :: r => by
    have := cellsV_len r
    unfold cellsV at this ⊢
    rw [List.flatMap_cons, List.length_append, this, List.length_cons]
    show 5 + _ = _
    omega
theorem cellsV_append (a b : List PV) : cellsV (a ++ b) = cellsV a ++ cellsV b := by unfold cellsV; rw [List.flatMap_append]
theorem cellsV_cons (x : PV) (r : List PV) : cellsV (x :: r) = x.cells ++ cellsV r := rfl
theorem cells_one (x : PV) : ∀ u ∈ x.cells, u.oneCell' = true := fun u h => by
  unfold PV.cells at h
  simp only [List.mem_cons, List.not_mem_nil, or_false] at h
  rcases h with rfl | rfl | rfl | rfl | rfl <;> rfl
theorem cellsV_one (l : List PV) : ∀ u ∈ cellsV l, u.oneCell' = true := fun u h => by
  obtain ⟨x, _, hu⟩ := List.mem_flatMap.1 h
  exact cells_one x u hu
theorem cellsV_at : ∀ {l : List PV} {k : Nat} {x : PV}, l[k]? = some x → ∀ j u, x.cells[j]? = some u → (cellsV l)[k * 5 + j]? = some u
  | [], k, x, h, _, _, _ => by simp at h
  | y :: r, 0, x, h, j, u, hu => by
    simp only [List.getElem?_cons_zero, Option.some.injEq] at h
    subst h
    rw [cellsV_cons, Nat.zero_mul, Nat.zero_add, List.getElem?_append_left (List.getElem?_eq_some_iff.1 hu).1]
    exact hu
  | y :: r, k + 1, x, h, j, u, hu => by
    rw [List.getElem?_cons_succ] at h
    have ih := cellsV_at h j u hu
    rw [cellsV_cons, List.getElem?_append_right (by show 5 ≤ _; omega)]
    rw [show (k + 1) * 5 + j - y.cells.length = k * 5 + j by show _ - 5 = _; omega]
    exact ih
theorem cellsV_of : ∀ {l : List PV} {j : Nat} {u : Value}, (cellsV l)[j]? = some u → ∃ k x i, l[k]? = some x ∧ j = k * 5 + i ∧ x.cells[i]? = some u
  | [], j, u, h => by simp [cellsV] at h
  | y :: r, j, u, h => by
    rw [cellsV_cons] at h
    by_cases hj : j < 5
    · rw [List.getElem?_append_left (by exact hj)] at h
      exact ⟨0, y, j, rfl, by omega, h⟩
    · rw [List.getElem?_append_right (by show 5 ≤ j; omega)] at h
      obtain ⟨k, x, i, h1, h2, h3⟩ := cellsV_of h
      have h2 : j - 5 = k * 5 + i := h2
      exact ⟨k + 1, x, i, by rw [List.getElem?_cons_succ]; exact h1, by omega, h3⟩

theorem SlW.cells {w : World} {ad : Addr} {l : List PV} (h : SlW w (some ad) l) : ∀ j u, (cellsV l)[j]? = some u → w.cell? (ad.add j) = some u := fun j u hj => by
  obtain ⟨k, x, i, hx, rfl, hu⟩ := cellsV_of hj
  obtain ⟨_, b, off, e, h0, h1, h2, h3, h4⟩ := h k x hx
  cases e
  rw [addr_off, ← Nat.add_assoc]
  match i, hu with
  | 0, hu => cases hu; exact h0
  | 1, hu => cases hu; exact h1
  | 2, hu => cases hu; exact h2
  | 3, hu => cases hu; exact h3
  | 4, hu => cases hu; exact h4
  | i + 5, hu => simp [PV.cells] at hu
theorem slW_of {w : World} {g o : Nat} {l : List PV} (hin : ∀ x ∈ l, x.in_ w) (h : ∀ j u, (cellsV l)[j]? = some u → w.cell? ⟨g, o + j, none⟩ = some u) : SlW w (some ⟨g, o, none⟩) l := fun k x hx => by
  have c := fun j u hu => h _ u (cellsV_at hx j u hu)
  refine ⟨hin x (List.mem_of_getElem? hx), g, o, rfl, c 0 _ rfl, ?_, ?_, ?_, ?_⟩
  · have := c 1 _ rfl; rwa [← Nat.add_assoc] at this
  · have := c 2 _ rfl; rwa [← Nat.add_assoc] at this
  · have := c 3 _ rfl; rwa [← Nat.add_assoc] at this
  · have := c 4 _ rfl; rwa [← Nat.add_assoc] at this

/-- the value v owns, from block B on, these versions' cells -/
def RowV (B : Nat) (w : World) (v : Value) (l : List PV) : Prop := w.ownsRow B 55 5 v l.length (cellsV l)
theorem RowV.form {B : Nat} {w : World} {v : Value} {l : List PV} (h : RowV B w v l) : ∃ A c, v = .slice A l.length c := by
  rcases h.2 with ⟨e, h0⟩ | ⟨g, cap, cur, e, _⟩
  · exact ⟨none, 0, by rw [e, h0]⟩
  · exact ⟨_, _, e⟩
theorem RowV.sl {B : Nat} {w : World} {A : Option Addr} {c : Nat} {l : List PV} (h : RowV B w (.slice A l.length c) l) (hin : ∀ x ∈ l, x.in_ w) : SlW w A l ∧ l.length ≤ c ∧ c ≤ maxLen := by
  rcases h.2 with ⟨e, h0⟩ | ⟨g, cap, cur, e, hlo, hg, h1, h2, h3, h4⟩
  · rw [List.eq_nil_of_length_eq_zero h0] at e ⊢
    cases e
    exact ⟨SlW.nil _ _, Nat.le_refl _, Nat.zero_le _⟩
  · injection e with e1 _ e3
    subst e1 e3
    refine ⟨slW_of hin fun j u hj => ?_, h1, h2⟩
    have := World.ownsRow.cells h (g := g) rfl j u hj
    rw [addr_at] at this
    rw [Nat.zero_add]
    exact this
theorem RowV.below {B : Nat} {w w' : World} {v : Value} {l : List PV} (h : RowV B w v l) (hb : Below w.heap.size w w') : RowV B w' v l := own_below h hb
theorem RowV.nil (B : Nat) (w : World) : RowV B w (.slice none 0 0) [] := World.ownsRow_nil _ _ _ _

/-- a record's lists are new from block B on, and nobody else's -/
structure NewRec (B : Nat) (w : World) (r : RecL) (p : At) : Prop where
  f : OwnF B w (.slice p.fa r.fs.length p.fc) r.fs
  r : OwnS B w (.slice p.ra r.rs.length p.rc) r.rs
theorem NewRec.in_ {B : Nat} {w : World} {r : RecL} {p : At} (h : NewRec B w r p) : r.in_ p w := ⟨h.f.sl.1, h.r.sl.1, h.f.sl.2.1, h.r.sl.2.1, h.f.sl.2.2, h.r.sl.2.2⟩
theorem NewRec.below {B : Nat} {w w' : World} {r : RecL} {p : At} (h : NewRec B w r p) (hb : Below w.heap.size w w') : NewRec B w' r p := ⟨h.f.below hb, h.r.below hb⟩
theorem NewRec.low {B B' : Nat} {w : World} {r : RecL} {p : At} (h : NewRec B w r p) (hB : B' ≤ B) : NewRec B' w r p := ⟨own_low h.f hB, own_low h.r hB⟩
theorem NewRec.none (B : Nat) (w : World) (id : ByteArray) (c : Int) : NewRec B w ⟨id, c, [], []⟩ At.none := ⟨World.ownsRow_nil _ _ _ _, World.ownsRow_nil _ _ _ _⟩

/-- rows of different types lie in different blocks -/
theorem row_apart {B B' n m s s' : Nat} {e e' : TypeId} {w : World} {v v' : Value} {xs xs' : List Value} (h : w.ownsRow B e s v n xs) (h' : w.ownsRow B' e' s' v' m xs') (hne : e ≠ e') : v.ownBlock = none ∨ v.ownBlock ≠ v'.ownBlock := by
  rcases h.2 with ⟨e1, _⟩ | ⟨g1, cap1, cur1, e1, _, hh1, _⟩
  · rw [e1]; exact .inl rfl
  · refine .inr fun k => ?_
    rcases h'.2 with ⟨e2, _⟩ | ⟨g2, cap2, cur2, e2, _, hh2, _⟩
    · rw [e1, e2] at k
      cases k
    · rw [e1, e2] at k
      have k : g1 = g2 := Option.some.inj k
      rw [← k, hh1] at hh2
      injection hh2 with hh2
      injection hh2 with _ ht
      exact hne ht
theorem NewRec.grown {B B' : Nat} {w w' : World} {r : RecL} {p : At} {v : Value} {l : List PV} (h : NewRec B w r p) (hr : RowV B' w v l) (hg : w.grownBy w' v.ownBlock) : NewRec B w' r p :=
  ⟨World.ownsRow.kept h.f hg (row_apart h.f hr (by decide)), World.ownsRow.kept h.r hg (row_apart h.r hr (by decide))⟩

/-- versions that are new, lists and all -/
def AllNew (B : Nat) (w : World) (l : List PV) : Prop := ∀ x ∈ l, NewRec B w x.v.r x.p
theorem AllNew.below {B : Nat} {w w' : World} {l : List PV} (h : AllNew B w l) (hb : Below w.heap.size w w') : AllNew B w' l := fun x hx => (h x hx).below hb
theorem AllNew.low {B B' : Nat} {w : World} {l : List PV} (h : AllNew B w l) (hB : B' ≤ B) : AllNew B' w l := fun x hx => (h x hx).low hB
theorem AllNew.in_ {B : Nat} {w : World} {l : List PV} (h : AllNew B w l) : ∀ x ∈ l, x.in_ w := fun x hx => (h x hx).in_
theorem AllNew.nil (B : Nat) (w : World) : AllNew B w [] := fun x hx => by cases hx
theorem AllNew.append {B : Nat} {w : World} {l m : List PV} (h : AllNew B w l) (k : AllNew B w m) : AllNew B w (l ++ m) := fun x hx => by
  rcases List.mem_append.1 hx with hx | hx
  · exact h x hx
  · exact k x hx
theorem AllNew.one {B : Nat} {w : World} {x : PV} (h : NewRec B w x.v.r x.p) : AllNew B w [x] := fun y hy => by
  rw [List.mem_singleton] at hy
  subst hy
  exact h
theorem AllNew.grown {B B' : Nat} {w w' : World} {v : Value} {l m : List PV} (h : AllNew B w m) (hr : RowV B' w v l) (hg : w.grownBy w' v.ownBlock) : AllNew B w' m := fun x hx => (h x hx).grown hr hg

theorem grown_setCell (w : World) (a : Addr) (u : Value) : w.grownBy (w.setCell a u) (some a.block) :=
  ⟨rfl, rfl, rfl, by simp [World.setCell], fun k _ hk => RowKit.Below.heap_setCell _ _ _ _ (fun e => hk (by rw [e]))⟩
theorem own_setCell {B size n : Nat} {e : TypeId} {w : World} {v : Value} {xs : List Value} (h : w.ownsRow B e size v n xs) {a : Addr} (ha : a.block < B) (u : Value) : (w.setCell a u).ownsRow B e size v n xs := by
  refine World.ownsRow.kept h (grown_setCell w a u) ?_
  cases hv : v.ownBlock with
  | none => exact .inl rfl
  | some k =>
    refine .inr fun e => ?_
    have h1 := (World.ownsRow.lt h k hv).1
    have h2 : k = a.block := Option.some.inj e
    omega
theorem NewRec.setCell {B : Nat} {w : World} {r : RecL} {p : At} (h : NewRec B w r p) {a : Addr} (ha : a.block < B) (u : Value) : NewRec B (w.setCell a u) r p := ⟨own_setCell h.f ha u, own_setCell h.r ha u⟩

/-! ## copyOf -/
def CopyTo (x : PV) (w : World) (e : Ending) (w' : World) : Prop := ∃ p' : At, e = .returned (PV.val ⟨x.v, p'⟩) ∧ NewRec w.heap.size w' x.v.r p' ∧ Below w.heap.size w w'

set_option maxHeartbeats 2000000 in
theorem copy_any (x : PV) (w : World) (hi : x.in_ w) (h1 : x.v.r.fs.length ≤ 6) (h2 : x.v.r.rs.length ≤ 4) : Calls Tryz.prog 112 #[x.val] w (CopyTo x w) := by
  obtain ⟨⟨⟨id, ct, fs, rs⟩, gn⟩, p⟩ := x
  simp only at hi h1 h2 ⊢
  have hA : Below w.heap.size w ((w.alloc (.cells #[.string id, .int .i64 ct, .slice p.fa fs.length p.fc, .slice p.ra rs.length p.rc, .bool gn] 55)).alloc (.cells #[.string ⟨#[]⟩, .int .i64 0, .slice none 0 0, .slice none 0 0, .bool false] 55)) := ((Below.refl _ _).alloc (Nat.le_refl _) _).alloc (by simp) _
  have HI := Lib.hid hi
  have HA := Lib.hid hA
  clear hi hA
  go_enter Tryz.func112, Tryz.ntmps112
  go_wp2_with fail
  have HC := Lib.hid (cloneF_any p.fa fs p.fc _ (HI.out.hf.below HA.out) (by omega))
  refine HC.out.mono ?_
  rintro e w1 ⟨A1, c1, rfl, ho1, hb1⟩
  clear HC
  have hs1 : w.heap.size + 1 < w1.heap.size := by have := hb1.size; simp at this; omega
  have hs0 : w.heap.size < w1.heap.size := by omega
  obtain ⟨hc1, hf1⟩ := bcell hb1
  have a0 : w1.cell? ⟨w.heap.size, 0, none⟩ = some (.string id) := by rw [hc1 _ _ (by simp; omega)]; simp [go_sem]
  have a1 : w1.cell? ⟨w.heap.size, 1, none⟩ = some (.int .i64 ct) := by rw [hc1 _ _ (by simp; omega)]; simp [go_sem]
  have a2 : w1.cell? ⟨w.heap.size, 2, none⟩ = some (.slice p.fa fs.length p.fc) := by rw [hc1 _ _ (by simp; omega)]; simp [go_sem]
  have a3 : w1.cell? ⟨w.heap.size, 3, none⟩ = some (.slice p.ra rs.length p.rc) := by rw [hc1 _ _ (by simp; omega)]; simp [go_sem]
  have a4 : w1.cell? ⟨w.heap.size, 4, none⟩ = some (.bool gn) := by rw [hc1 _ _ (by simp; omega)]; simp [go_sem]
  have az : ∀ o, w1.frozen? ⟨w.heap.size, o, none⟩ = false := fun o => by rw [hf1 _ _ (by simp; omega)]; simp [go_sem]
  have d0 : w1.cell? ⟨w.heap.size + 1, 0, none⟩ = some (.string ⟨#[]⟩) := by rw [hc1 _ _ (by simp)]; simp [go_sem]
  have d1 : w1.cell? ⟨w.heap.size + 1, 1, none⟩ = some (.int .i64 0) := by rw [hc1 _ _ (by simp)]; simp [go_sem]
  have d2 : w1.cell? ⟨w.heap.size + 1, 2, none⟩ = some (.slice none 0 0) := by rw [hc1 _ _ (by simp)]; simp [go_sem]
  have d3 : w1.cell? ⟨w.heap.size + 1, 3, none⟩ = some (.slice none 0 0) := by rw [hc1 _ _ (by simp)]; simp [go_sem]
  have d4 : w1.cell? ⟨w.heap.size + 1, 4, none⟩ = some (.bool false) := by rw [hc1 _ _ (by simp)]; simp [go_sem]
  have dz : ∀ o, w1.frozen? ⟨w.heap.size + 1, o, none⟩ = false := fun o => by rw [hf1 _ _ (by simp)]; simp [go_sem]
  have hB1 : Below w.heap.size w w1 := HA.out.trans (hb1.mono HA.out.size)
  have ho1' : OwnF (w.heap.size + 1 + 1) w1 (.slice A1 fs.length c1) fs := by simpa using ho1
  have hle : w.heap.size ≤ w.heap.size := Nat.le_refl _
  have hB2 : Below w.heap.size w (w1.setCell ⟨w.heap.size, 2, none⟩ (.slice A1 fs.length c1)) := hB1.setCell hle _
  have ho2 := own_setCell ho1' (a := ⟨w.heap.size, 2, none⟩) (show w.heap.size < _ by omega) (.slice A1 fs.length c1)
  have az2 := az 2
  have HO2 := Lib.hid ho2
  clear hc1 hf1 hb1 ho1 ho1' hB1 ho2
  go_wp2_with fail
  refine (cloneS_any p.ra rs p.rc _ (HI.out.hr.below hB2) (by omega)).mono ?_
  rintro e w2 ⟨A2, c2, rfl, ho2, hb2⟩
  have hsz2 : w1.heap.size ≤ w2.heap.size := by have := hb2.size; simpa [World.setCell] using this
  obtain ⟨hc2, hf2⟩ := bcell hb2
  have e0 : w2.cell? ⟨w.heap.size, 0, none⟩ = some (.string id) := by rw [hc2 _ _ (by simpa [World.setCell] using hs0)]; simp [go_sem, a0]
  have e1 : w2.cell? ⟨w.heap.size, 1, none⟩ = some (.int .i64 ct) := by rw [hc2 _ _ (by simpa [World.setCell] using hs0)]; simp [go_sem, a1]
  have e2 : w2.cell? ⟨w.heap.size, 2, none⟩ = some (.slice A1 fs.length c1) := by rw [hc2 _ _ (by simpa [World.setCell] using hs0)]; simp [go_sem, a2]
  have e3 : w2.cell? ⟨w.heap.size, 3, none⟩ = some (.slice p.ra rs.length p.rc) := by rw [hc2 _ _ (by simpa [World.setCell] using hs0)]; simp [go_sem, a3]
  have e4 : w2.cell? ⟨w.heap.size, 4, none⟩ = some (.bool gn) := by rw [hc2 _ _ (by simpa [World.setCell] using hs0)]; simp [go_sem, a4]
  have ez : w2.frozen? ⟨w.heap.size, 3, none⟩ = false := by rw [hf2 _ _ (by simpa [World.setCell] using hs0)]; simp [go_sem, az]
  have g0 : w2.cell? ⟨w.heap.size + 1, 0, none⟩ = some (.string ⟨#[]⟩) := by rw [hc2 _ _ (by simpa [World.setCell] using hs1)]; simp [go_sem, d0]
  have g1 : w2.cell? ⟨w.heap.size + 1, 1, none⟩ = some (.int .i64 0) := by rw [hc2 _ _ (by simpa [World.setCell] using hs1)]; simp [go_sem, d1]
  have g2 : w2.cell? ⟨w.heap.size + 1, 2, none⟩ = some (.slice none 0 0) := by rw [hc2 _ _ (by simpa [World.setCell] using hs1)]; simp [go_sem, d2]
  have g3 : w2.cell? ⟨w.heap.size + 1, 3, none⟩ = some (.slice none 0 0) := by rw [hc2 _ _ (by simpa [World.setCell] using hs1)]; simp [go_sem, d3]
  have g4 : w2.cell? ⟨w.heap.size + 1, 4, none⟩ = some (.bool false) := by rw [hc2 _ _ (by simpa [World.setCell] using hs1)]; simp [go_sem, d4]
  have gz0 : w2.frozen? ⟨w.heap.size + 1, 0, none⟩ = false := by rw [hf2 _ _ (by simpa [World.setCell] using hs1)]; simp [go_sem, dz]
  have gz1 : w2.frozen? ⟨w.heap.size + 1, 1, none⟩ = false := by rw [hf2 _ _ (by simpa [World.setCell] using hs1)]; simp [go_sem, dz]
  have gz2 : w2.frozen? ⟨w.heap.size + 1, 2, none⟩ = false := by rw [hf2 _ _ (by simpa [World.setCell] using hs1)]; simp [go_sem, dz]
  have gz3 : w2.frozen? ⟨w.heap.size + 1, 3, none⟩ = false := by rw [hf2 _ _ (by simpa [World.setCell] using hs1)]; simp [go_sem, dz]
  have gz4 : w2.frozen? ⟨w.heap.size + 1, 4, none⟩ = false := by rw [hf2 _ _ (by simpa [World.setCell] using hs1)]; simp [go_sem, dz]
  have hB3 : Below w.heap.size w w2 := hB2.trans (hb2.mono hB2.size)
  have hnew : NewRec (w.heap.size + 1 + 1) w2 ⟨id, ct, fs, rs⟩ ⟨A1, c1, A2, c2⟩ := ⟨(show OwnF _ _ _ _ from HO2.out).below hb2, own_low ho2 (by simp [World.setCell]; omega)⟩
  have HN := Lib.hid hnew
  clear hc2 hf2 hb2 ho2 hB2 a0 a1 a2 a3 a4 az az2 d0 d1 d2 d3 d4 dz hnew
  have hsw2 : w.heap.size + 1 < w2.heap.size := by omega
  go_wp2_with fail
  refine bodyPost_ret (v := PV.val ⟨⟨⟨id, ct, fs, rs⟩, gn⟩, ⟨A1, c1, A2, c2⟩⟩) (by simp [results, Tryz.results112, go_sem, g0, g1, g2, g3, g4, gz0, gz1, gz2, gz3, gz4]) rfl ?_
  refine ⟨⟨A1, c1, A2, c2⟩, rfl, ?_, ?_⟩
  · refine NewRec.low (B := w.heap.size + 1 + 1) ?_ (by omega)
    exact (((((HN.out.setCell (show w.heap.size < _ by omega) _).setCell (show w.heap.size + 1 < _ by omega) _).setCell (show w.heap.size + 1 < _ by omega) _).setCell (show w.heap.size + 1 < _ by omega) _).setCell (show w.heap.size + 1 < _ by omega) _).setCell (show w.heap.size + 1 < _ by omega) _
  · have hle1 : w.heap.size ≤ w.heap.size + 1 := by omega
    exact (((((hB3.setCell hle _).setCell hle1 _).setCell hle1 _).setCell hle1 _).setCell hle1 _).setCell hle1 _
end Go.Proofs.YteimdhkajbldjaaGreat
