/- The contract of Get. -/
import Derived.Test.YteimdhkajbldjaaGreatSBack
import Derived.Test.YteimdhkajbldjaaGreatSPut2
import Derived.Test.YteimdhkajbldjaaGreatSMath2
set_option linter.unusedVariables false
set_option linter.unusedSimpArgs false
set_option maxRecDepth 100000
namespace Go.Proofs.YteimdhkajbldjaaGreat
open Go.RowKit Go.Shelf Go.Maps

attribute [local go_sem] Oper.semAt_some

def GetTo (R : RecL) (er : Int) (w : World) (e : Ending) (w' : World) : Prop := ∃ p : At, e = .returned (.tuple #[R.v p, .int .i64 er]) ∧ NewRec w.heap.size w' R p ∧ Below w.heap.size w w'

/-- the world in which count is called -/
abbrev gW (id : ByteArray) (w : World) : World := ((w.alloc (.cells #[.string id] 9)).alloc (.cells #[.string ⟨#[]⟩, .int .i64 0, .slice none 0 0, .slice none 0 0] 35)).alloc (.cells #[.int .i64 0] 40)
theorem gW_below (id : ByteArray) (w : World) : Below w.heap.size w (gW id w) := (((Below.refl _ _).alloc (Nat.le_refl _) _).alloc (by simp) _).alloc (by simp; omega) _

/-- what lies in the boxes while Get looks on -/
structure GetS (id : ByteArray) (T b1 b2 n : Nat) (vs : List VerL) (w W : World) : Prop where
  b : Below w.heap.size w W
  lt : w.heap.size + 2 < T
  i0 : W.cell? ⟨w.heap.size, 0, none⟩ = some (.string id)
  r0 : W.cell? ⟨w.heap.size + 1, 0, none⟩ = some (.string ⟨#[]⟩)
  r1 : W.cell? ⟨w.heap.size + 1, 1, none⟩ = some (.int .i64 0)
  r2 : W.cell? ⟨w.heap.size + 1, 2, none⟩ = some (.slice none 0 0)
  r3 : W.cell? ⟨w.heap.size + 1, 3, none⟩ = some (.slice none 0 0)
  rz : ∀ o, W.frozen? ⟨w.heap.size + 1, o, none⟩ = false
  e0 : W.cell? ⟨w.heap.size + 2, 0, none⟩ = some (.int .i64 0)
  ez : ∀ o, W.frozen? ⟨w.heap.size + 2, o, none⟩ = false
  t0 : W.cell? ⟨T, 0, none⟩ = some (.map (some b1))
  t1 : W.cell? ⟨T, 1, none⟩ = some (.map (some b2))
  t : Tally W b1 b2 n (same vs) (lives vs)
theorem GetS.below {id : ByteArray} {T b1 b2 n : Nat} {vs : List VerL} {w W W' : World} (h : GetS id T b1 b2 n vs w W) (hB : Below W.heap.size W W') : GetS id T b1 b2 n vs w W' := by
  obtain ⟨hc, hf⟩ := bcell hB
  have k0 := cell_lt h.i0
  have k1 := cell_lt h.r0
  have k2 := cell_lt h.e0
  have k3 := cell_lt h.t0
  exact ⟨h.b.trans (hB.mono h.b.size), h.lt, (hc _ _ k0).trans h.i0, (hc _ _ k1).trans h.r0, (hc _ _ k1).trans h.r1, (hc _ _ k1).trans h.r2, (hc _ _ k1).trans h.r3, fun o => (hf _ o k1).trans (h.rz o), (hc _ _ k2).trans h.e0, fun o => (hf _ o k2).trans (h.ez o), (hc _ _ k3).trans h.t0, (hc _ _ k3).trans h.t1, h.t.below hB⟩

/-- what lies there when it has been found -/
structure GotS (r : RecL) (w W : World) : Prop where
  b : Below w.heap.size w W
  got : ∃ p : At, NewRec w.heap.size W r p ∧ W.cell? ⟨w.heap.size + 1, 0, none⟩ = some (.string r.id) ∧ W.cell? ⟨w.heap.size + 1, 1, none⟩ = some (.int .i64 r.cats) ∧ W.cell? ⟨w.heap.size + 1, 2, none⟩ = some (.slice p.fa r.fs.length p.fc) ∧
    W.cell? ⟨w.heap.size + 1, 3, none⟩ = some (.slice p.ra r.rs.length p.rc) ∧ W.cell? ⟨w.heap.size + 2, 0, none⟩ = some (.int .i64 0)
/-- a version in a box -/
structure BoxS (B : Nat) (x : PV) (W : World) : Prop where
  c0 : W.cell? ⟨B, 0, none⟩ = some (.string x.v.r.id)
  c1 : W.cell? ⟨B, 1, none⟩ = some (.int .i64 x.v.r.cats)
  c2 : W.cell? ⟨B, 2, none⟩ = some (.slice x.p.fa x.v.r.fs.length x.p.fc)
  c3 : W.cell? ⟨B, 3, none⟩ = some (.slice x.p.ra x.v.r.rs.length x.p.rc)
  c4 : W.cell? ⟨B, 4, none⟩ = some (.bool x.v.gone)

theorem keeps_of_below {B : Nat} {W W' : World} (h : Below W.heap.size W W') : KeepsFrom B W W' := ⟨h.size, fun k o _ hk _ => (h.block k (Array.getElem?_eq_some_iff.1 hk).1).trans hk⟩

theorem rec_field (x : PV) (w : World) : (Instr.field 55 (PV.val x) 0).run Tryz.prog w = .ok (x.v.r.v x.p) w := by kernel_rfl

theorem got_of {r : RecL} {p : At} {w w4 : World} (hb : Below w.heap.size w w4) (hn : NewRec (w.heap.size + 3) w4 r p) {c0 c1 c2 c3 c5 : Value} (h0 : w4.cell? ⟨w.heap.size + 1, 0, none⟩ = some c0) (h1 : w4.cell? ⟨w.heap.size + 1, 1, none⟩ = some c1)
    (h2 : w4.cell? ⟨w.heap.size + 1, 2, none⟩ = some c2) (h3 : w4.cell? ⟨w.heap.size + 1, 3, none⟩ = some c3) (h5 : w4.cell? ⟨w.heap.size + 2, 0, none⟩ = some c5) :
    GotS r w (((((w4.setCell ⟨w.heap.size + 1, 0, none⟩ (.string r.id)).setCell ⟨w.heap.size + 1, 1, none⟩ (.int .i64 r.cats)).setCell ⟨w.heap.size + 1, 2, none⟩ (.slice p.fa r.fs.length p.fc)).setCell ⟨w.heap.size + 1, 3, none⟩ (.slice p.ra r.rs.length p.rc)).setCell ⟨w.heap.size + 1 + 1, 0, none⟩ (.int .i64 0)) := by
  have hle : w.heap.size ≤ w.heap.size + 1 := by omega
  have hle2 : w.heap.size ≤ w.heap.size + 1 + 1 := by omega
  have hn1 : w.heap.size + 1 ≠ w.heap.size + 2 := by omega
  refine ⟨((((hb.setCell hle _).setCell hle _).setCell hle _).setCell hle _).setCell hle2 _, p, ?_, ?_, ?_, ?_, ?_, ?_⟩
  · refine NewRec.low (B := w.heap.size + 3) ?_ (by omega)
    exact ((((hn.setCell (show w.heap.size + 1 < _ by omega) _).setCell (show w.heap.size + 1 < _ by omega) _).setCell (show w.heap.size + 1 < _ by omega) _).setCell (show w.heap.size + 1 < _ by omega) _).setCell (show w.heap.size + 1 + 1 < _ by omega) _
  · simp [go_sem, h0]
  · simp [go_sem, h1]
  · simp [go_sem, h2]
  · simp [go_sem, h3]
  · simp [go_sem, h5]
theorem own_own {B size n : Nat} {e : TypeId} {w w' : World} {v : Value} {xs : List Value} {row : Option Nat} (h : w.ownsRow B e size v n xs) (hg : w.grownBy w' row) (hr : ∀ r, row = some r → ∃ o : Obj, w.heap[r]? = some o ∧ o.isCells = false) : w'.ownsRow B e size v n xs := by
  refine World.ownsRow.kept h hg ?_
  rcases h.2 with ⟨e1, _⟩ | ⟨g, cap, cur, e1, _, hh, _⟩
  · rw [e1]; exact .inl rfl
  · refine .inr fun k => ?_
    obtain ⟨o, ho, hc⟩ := hr g (by rw [← k, e1]; rfl)
    rw [hh] at ho
    cases ho
    cases hc
theorem GotS.own {r : RecL} {w W W' : World} {row : Option Nat} (h : GotS r w W) (hg : W.grownBy W' row) (hr : ∀ j, row = some j → w.heap.size ≤ j ∧ ∃ o : Obj, W.heap[j]? = some o ∧ o.isCells = false) : GotS r w W' := by
  obtain ⟨hb, p, hn, h0, h1, h2, h3, h4⟩ := h
  have hrr : ∀ j, row = some j → ∃ o : Obj, W.heap[j]? = some o ∧ o.isCells = false := fun j e => (hr j e).2
  exact ⟨hb.grown hg hb.size (fun k e => (hr k e).1), p, ⟨own_own hn.f hg hrr, own_own hn.r hg hrr⟩, cell_kept h0 hg hrr, cell_kept h1 hg hrr, cell_kept h2 hg hrr, cell_kept h3 hg hrr, cell_kept h4 hg hrr⟩
theorem getV_pre {l : List PV} {id : ByteArray} {ini : List PV} {last : PV} {k : Nat} (h : ini ++ [last] = l.reverse.take k) (h1 : ∀ y ∈ ini, getP (l.map (·.v)) id y.v = false) (h2 : getP (l.map (·.v)) id last.v = true) : getV (l.map (·.v)) id = some last.v := by
  unfold getV
  have e : (l.map (·.v)).reverse = ini.map (·.v) ++ last.v :: (l.reverse.drop k).map (·.v) := by
    rw [← List.map_reverse]
    conv => lhs; rw [← List.take_append_drop k l.reverse, ← h]
    simp
  rw [e, List.find?_append, List.find?_eq_none.2 (fun x hx => ?_)]
  · rw [List.find?_cons, h2]
    rfl
  · obtain ⟨y, hy, rfl⟩ := List.mem_map.1 hx
    rw [h1 y hy]
    simp
theorem getV_no {l : List PV} {id : ByteArray} {xs : List PV} (h : xs = l.reverse) (h1 : ∀ y ∈ xs, getP (l.map (·.v)) id y.v = false) : getV (l.map (·.v)) id = none := by
  subst h
  unfold getV
  rw [← List.map_reverse, List.find?_eq_none]
  intro x hx
  obtain ⟨y, hy, rfl⟩ := List.mem_map.1 hx
  rw [h1 y hy]
  simp

theorem keeps_five {W : World} (h : Nat) : KeepsOthers W (((((W.setCell ⟨h + 1, 0, none⟩ (.string ⟨#[]⟩)).setCell ⟨h + 1, 1, none⟩ (.int .i64 0)).setCell ⟨h + 1, 2, none⟩ (.slice none 0 0)).setCell ⟨h + 1, 3, none⟩ (.slice none 0 0)).setCell ⟨h + 1 + 1, 0, none⟩ (.int .i64 4)) :=
  ((((KeepsOthers.setCell _ _ _).trans (KeepsOthers.setCell _ _ _)).trans (KeepsOthers.setCell _ _ _)).trans (KeepsOthers.setCell _ _ _)).trans (KeepsOthers.setCell _ _ _)
theorem got_bad {w w4 : World} (hb : Below w.heap.size w w4) {c0 c1 c2 c3 c5 : Value} (h0 : w4.cell? ⟨w.heap.size + 1, 0, none⟩ = some c0) (h1 : w4.cell? ⟨w.heap.size + 1, 1, none⟩ = some c1)
    (h2 : w4.cell? ⟨w.heap.size + 1, 2, none⟩ = some c2) (h3 : w4.cell? ⟨w.heap.size + 1, 3, none⟩ = some c3) (h5 : w4.cell? ⟨w.heap.size + 2, 0, none⟩ = some c5) :
    (fun W : World => W.cell? ⟨w.heap.size + 1, 0, none⟩ = some (.string ⟨#[]⟩) ∧ W.cell? ⟨w.heap.size + 1, 1, none⟩ = some (.int .i64 0) ∧ W.cell? ⟨w.heap.size + 1, 2, none⟩ = some (.slice none 0 0) ∧ W.cell? ⟨w.heap.size + 1, 3, none⟩ = some (.slice none 0 0) ∧ W.cell? ⟨w.heap.size + 2, 0, none⟩ = some (.int .i64 4) ∧ Below w.heap.size w W)
      (((((w4.setCell ⟨w.heap.size + 1, 0, none⟩ (.string ⟨#[]⟩)).setCell ⟨w.heap.size + 1, 1, none⟩ (.int .i64 0)).setCell ⟨w.heap.size + 1, 2, none⟩ (.slice none 0 0)).setCell ⟨w.heap.size + 1, 3, none⟩ (.slice none 0 0)).setCell ⟨w.heap.size + 1 + 1, 0, none⟩ (.int .i64 4)) := by
  have hle : w.heap.size ≤ w.heap.size + 1 := by omega
  have hle2 : w.heap.size ≤ w.heap.size + 1 + 1 := by omega
  have hn1 : w.heap.size + 1 ≠ w.heap.size + 2 := by omega
  refine ⟨?_, ?_, ?_, ?_, ?_, ((((hb.setCell hle _).setCell hle _).setCell hle _).setCell hle _).setCell hle2 _⟩
  · simp [go_sem, h0]
  · simp [go_sem, h1]
  · simp [go_sem, h2]
  · simp [go_sem, h3]
  · simp [go_sem, h5]

theorem got_err {w w4 : World} (er : Int) (hb : Below w.heap.size w w4) {c0 c1 c2 c3 c5 : Value} (h0 : w4.cell? ⟨w.heap.size + 1, 0, none⟩ = some c0) (h1 : w4.cell? ⟨w.heap.size + 1, 1, none⟩ = some c1)
    (h2 : w4.cell? ⟨w.heap.size + 1, 2, none⟩ = some c2) (h3 : w4.cell? ⟨w.heap.size + 1, 3, none⟩ = some c3) (h5 : w4.cell? ⟨w.heap.size + 2, 0, none⟩ = some c5) {o : Obj} :
    (fun W : World => W.cell? ⟨w.heap.size + 1, 0, none⟩ = some (.string ⟨#[]⟩) ∧ W.cell? ⟨w.heap.size + 1, 1, none⟩ = some (.int .i64 0) ∧ W.cell? ⟨w.heap.size + 1, 2, none⟩ = some (.slice none 0 0) ∧ W.cell? ⟨w.heap.size + 1, 3, none⟩ = some (.slice none 0 0) ∧ W.cell? ⟨w.heap.size + 2, 0, none⟩ = some (.int .i64 er))
      ((((((w4.setCell ⟨w.heap.size + 1, 0, none⟩ (.string ⟨#[]⟩)).setCell ⟨w.heap.size + 1, 1, none⟩ (.int .i64 0)).setCell ⟨w.heap.size + 1, 2, none⟩ (.slice none 0 0)).setCell ⟨w.heap.size + 1, 3, none⟩ (.slice none 0 0)).setCell ⟨w.heap.size + 1 + 1, 0, none⟩ (.int .i64 er)).alloc o) := by
  have hn1 : w.heap.size + 1 ≠ w.heap.size + 2 := by omega
  have z1 := cell_lt h0
  have z2 := cell_lt h5
  refine ⟨?_, ?_, ?_, ?_, ?_⟩
  · rw [World.cell?_alloc_past _ _ _ (by simpa [World.setCell] using z1)]; simp [go_sem, h0]
  · rw [World.cell?_alloc_past _ _ _ (by simpa [World.setCell] using z1)]; simp [go_sem, h1]
  · rw [World.cell?_alloc_past _ _ _ (by simpa [World.setCell] using z1)]; simp [go_sem, h2]
  · rw [World.cell?_alloc_past _ _ _ (by simpa [World.setCell] using z1)]; simp [go_sem, h3]
  · rw [World.cell?_alloc_past _ _ _ (by simpa [World.setCell] using z2)]; simp [go_sem, h5]

set_option maxHeartbeats 4000000 in
theorem get_to {n : Nat} (a : Option Addr) (l : List PV) (c : Nat) (id : ByteArray) (w : World) (hs : SlW w a l) (hln : l.length = n) (hn : n ≤ 5120) (hok : stErr (l.map (·.v)) = 0) :
    Calls Tryz.prog 68 #[.slice a n c, .string id] w (GetTo (getR (l.map (·.v)) id) (getErr (l.map (·.v)) id) w) := by
  have HS := Lib.hid hs
  have HLN := Lib.hid hln
  have HOK := Lib.hid hok
  have HCT := Lib.hid (count_ok a l c (gW id w) (hs.below (gW_below id w)) (by unfold maxLen; omega) hok)
  rw [hln] at HCT
  have hst := (stErr_ok.1 hok).2
  have HST := Lib.hid hst
  clear hs hln hok hst
  refine (callsIn_wide (n := 3)).1 ?_
  refine callsIn_of_wp_marks Tryz.func68 rfl trivial ?_ rfl
  simp only [Tryz.ntmps68, List.size_toArray, List.length_cons, List.length_nil, Nat.reduceAdd, Nat.reduceSub, Array.replicate_succ, Array.replicate_zero, List.push_toArray, List.append_toArray, List.nil_append, List.cons_append]
  gi_wp2
  refine ⟨trivial, ?_⟩
  refine (callsIn_wide.2 HCT.out).mono ?_
  rintro e w1 ⟨rfl, hb1, ht⟩
  obtain ⟨b1, hb1e⟩ : ∃ b1, (gW id w).heap.size + 1 = b1 := ⟨_, rfl⟩
  obtain ⟨b2, hb2e⟩ : ∃ b2, (gW id w).heap.size + 2 = b2 := ⟨_, rfl⟩
  rw [hb1e, hb2e] at ht ⊢
  have hz1 : w.heap.size + 2 < w1.heap.size := by have := hb1.size; simp at this; omega
  obtain ⟨hc1, hf1⟩ := bcell hb1
  have hS1 : GetS id w1.heap.size b1 b2 ((l.map (·.v)).length + (l.map (·.v)).length) (l.map (·.v)) w (w1.alloc (.cells #[.map (some b1), .map (some b2)] 162)) := {
    b := ((gW_below id w).trans (hb1.mono (gW_below id w).size)).alloc (by omega) _
    lt := hz1
    i0 := by rw [World.cell?_alloc_past _ _ _ (by show w.heap.size < _; omega), hc1 _ _ (by simp; omega)]; simp [go_sem]
    r0 := by rw [World.cell?_alloc_past _ _ _ (by show w.heap.size + 1 < _; omega), hc1 _ _ (by simp)]; simp [go_sem]
    r1 := by rw [World.cell?_alloc_past _ _ _ (by show w.heap.size + 1 < _; omega), hc1 _ _ (by simp)]; simp [go_sem]
    r2 := by rw [World.cell?_alloc_past _ _ _ (by show w.heap.size + 1 < _; omega), hc1 _ _ (by simp)]; simp [go_sem]
    r3 := by rw [World.cell?_alloc_past _ _ _ (by show w.heap.size + 1 < _; omega), hc1 _ _ (by simp)]; simp [go_sem]
    rz := fun o => by rw [World.frozen?_alloc_past _ _ _ (by show w.heap.size + 1 < _; omega), hf1 _ _ (by simp)]; simp [go_sem]
    e0 := by rw [World.cell?_alloc_past _ _ _ (by show w.heap.size + 2 < _; omega), hc1 _ _ (by simp)]; simp [go_sem]
    ez := fun o => by rw [World.frozen?_alloc_past _ _ _ (by show w.heap.size + 2 < _; omega), hf1 _ _ (by simp)]; simp [go_sem]
    t0 := by simp [go_sem]
    t1 := by simp [go_sem]
    t := ht.below ((Below.refl _ _).alloc (Nat.le_refl _) _) }
  have HS1 := Lib.hid hS1
  clear ht hb1 hc1 hf1 HCT hb1e hb2e hS1
  gi_wp2
  refine ⟨trivial, ?_⟩
  refine (back_in Fence.wide 2 trivial rfl a n c _).mono ?_
  rintro e w2 ⟨rfl, rfl⟩
  gi_wp2
  obtain ⟨W2, hW2⟩ : ∃ W2, (w1.alloc (.cells #[.map (some b1), .map (some b2)] 162)).alloc (.cells #[.slice a n c] 45) = W2 := ⟨_, rfl⟩
  have hS2 : GetS id w1.heap.size b1 b2 ((l.map (·.v)).length + (l.map (·.v)).length) (l.map (·.v)) w W2 := by rw [← hW2]; exact HS1.out.below ((Below.refl _ _).alloc (Nat.le_refl _) _)
  have hbs : W2.cell? ⟨w1.heap.size + 1, 0, none⟩ = some (.slice a l.length c) := by rw [← hW2, HLN.out]; simp [go_sem]
  have hz2 : w1.heap.size + 1 < W2.heap.size := by rw [← hW2]; simp
  have HS2 := Lib.hid hS2
  have HBS := Lib.hid hbs
  rw [hW2]
  clear hW2 HS1 hS2 hbs
  refine wpIn_rangeFunc_ownH rfl (by omega) (gf := 136) (lb := #[.pointer (some ⟨w1.heap.size + 1, 0, none⟩)]) rfl trivial (enters_of Tryz.func136 (by kernel_rfl) rfl)
    (back_stops Fence.wide 2 trivial rfl (by omega) (w1.heap.size + 1) c a l (by rw [HLN.out]; exact hn) W2 (HS.out.below HS2.out.b) HBS.out) belowK_t (belowK_b (Nat.le_refl _)) (Below.refl _ _) (fun _ => rfl)
    (fun pre W => (∀ y ∈ pre, getP (l.map (·.v)) id y.2.1.v = false) ∧ Below W2.heap.size W2 W)
    (fun c pre W => (c = .ret ∧ ∃ (ini : List (Came l)) (last : Came l), pre = ini ++ [last] ∧ (∀ y ∈ ini, getP (l.map (·.v)) id y.2.1.v = false) ∧ getP (l.map (·.v)) id last.2.1.v = true ∧ GotS last.2.1.v.r w W))
    (OwnFrom.and (Own.from (fun s A B row hs hg hr => hs) _) (ownFrom_below (Nat.le_refl _) (Nat.le_refl _)))
    (fun c s A B row hs hg hr => ?own)
    ⟨by simp, Below.refl _ _⟩
    (fun x a' W => ∃ Bx, W2.heap.size ≤ Bx ∧ BoxS Bx x.2.1 W ∧ a' = { tmps := #[.slice a n c, .string id, undef, .pointer (some ⟨w.heap.size, 0, none⟩), .pointer (some ⟨w.heap.size + 1, 0, none⟩), .pointer (some ⟨w.heap.size + 1 + 1, 0, none⟩),
          .pointer (some ⟨w1.heap.size, 0, none⟩), .int .i64 0, undef, .pointer (some ⟨Bx, 0, none⟩), .tuple #[tallyV b1 b2, .int .i64 0], .slice a n c, .tuple #[tallyV b1 b2, .int .i64 0], tallyV b1 b2, .int .i64 0, .int .i64 0, .bool false, undef, undef, .slice a n c,
          .func (.func 136) #[] #[.pointer (some ⟨w1.heap.size + 1, 0, none⟩)], .int .i64 (x.1 : Int), x.2.1.val, undef, undef, undef, undef, undef, undef, undef, undef, undef, undef, undef, undef, undef, undef, undef, undef], defers := [] })
    (fun x a' s A B row hs hg hr => ?ax) ?assign ?body ?done ?stop
  case own =>
    obtain ⟨hc, ini, last, h1, h2, h3, h4⟩ := hs
    exact ⟨hc, ini, last, h1, h2, h3, h4.own hg (fun r e => ⟨by have := (hr r e).1; have := HS2.out.b.size; omega, (hr r e).2⟩)⟩
  case ax =>
    obtain ⟨Bx, h1, h2, h3⟩ := hs
    have hrr : ∀ r, row = some r → ∃ o : Obj, A.heap[r]? = some o ∧ o.isCells = false := fun r e => (hr r e).2
    exact ⟨Bx, h1, ⟨cell_kept h2.c0 hg hrr, cell_kept h2.c1 hg hrr, cell_kept h2.c2 hg hrr, cell_kept h2.c3 hg hrr, cell_kept h2.c4 hg hrr⟩, h3⟩
  case assign =>
    rintro l0 pre x W K ⟨hp, hB⟩ hK
    simp only [Came.enc]
    have hba : Below W.heap.size W (x.2.1.box W) := x.2.1.box_below W
    have hkk := hK { tmps := #[.slice a n c, .string id, undef, .pointer (some ⟨w.heap.size, 0, none⟩), .pointer (some ⟨w.heap.size + 1, 0, none⟩), .pointer (some ⟨w.heap.size + 1 + 1, 0, none⟩),
          .pointer (some ⟨w1.heap.size, 0, none⟩), .int .i64 0, undef, .pointer (some ⟨W.heap.size, 0, none⟩), .tuple #[tallyV b1 b2, .int .i64 0], .slice a n c, .tuple #[tallyV b1 b2, .int .i64 0], tallyV b1 b2, .int .i64 0, .int .i64 0, .bool false, undef, undef, .slice a n c,
          .func (.func 136) #[] #[.pointer (some ⟨w1.heap.size + 1, 0, none⟩)], .int .i64 (x.1 : Int), x.2.1.val, undef, undef, undef, undef, undef, undef, undef, undef, undef, undef, undef, undef, undef, undef, undef, undef], defers := [] } (x.2.1.box W)
      ((KeepsOthers.alloc _ _).from _) (hba.mono hB.size) ⟨hp, hB.trans (hba.mono hB.size)⟩ ⟨W.heap.size, hB.size, ⟨by simp [go_sem], by simp [go_sem], by simp [go_sem], by simp [go_sem], by simp [go_sem]⟩, rfl⟩
    have HK := Lib.hid hkk
    clear hkk hba hK hp
    gi_wp2
    exact HK.out
  case body =>
    rintro l0 pre x a' W hl hloop ⟨hp, hB⟩ ⟨Bx, hBx, hx, rfl⟩ hlen
    obtain ⟨c0, c1, c2, c3, c4⟩ := hx
    have hSW := HS2.out.below hB
    have i0 := hSW.i0
    have t1 := hSW.t1
    have hBxl := cell_lt c0
    have hmem : x.2.1.v ∈ l.map (·.v) := List.mem_map_of_mem x.2.2
    have hxo := HST.out.ver _ hmem
    have HXO := Lib.hid hxo
    have HIN := Lib.hid (show x.2.1.in_ W by
      obtain ⟨k, hk⟩ := List.getElem?_of_mem x.2.2
      exact ((HS.out.below hSW.b) k _ hk).1)
    have HSW := Lib.hid hSW
    have HPP := Lib.hid hp
    clear hSW hxo hp
    by_cases hid : x.2.1.v.r.id = id
    · have hfl : Tryz.prog.follows Departure.mixedOrders = true := by kernel_rfl
      have e1 : (x.2.1.v.r.id.toList == id.toList) = true := sEq_iff.2 hid
      obtain ⟨lv, hlv⟩ : ∃ lv, lives (l.map (·.v)) x.2.1.v.r.id x.2.1.v.r.cats = lv := ⟨_, rfl⟩
      have hgp : getP (l.map (·.v)) id x.2.1.v = lv := by
        unfold getP
        rw [sEq_iff.2 hid, hlv]
        rfl
      have hnext : ∀ W', Below W.drew.heap.size W.drew W' → (Instr.lookup 160 (.map (some b2)) (spotV x.2.1.v.r.id x.2.1.v.r.cats) false).run Tryz.prog W' = .ok (.bool lv) W' ∧ W'.cell? ⟨w1.heap.size, 1, none⟩ = some (.map (some b2)) ∧ Below W.heap.size W W' := fun W' hW' => by
        have hb : Below W.heap.size W W' := ⟨hW'.os, hW'.tape, hW'.output, hW'.size, hW'.block⟩
        have hs := HSW.out.below hb
        exact ⟨by rw [← hlv]; exact hs.t.asks _ _ (nm_max HXO.out.id) (wf_cats HXO.out.c0 HXO.out.c1), hs.t1, hb⟩
      have HNX := Lib.hid hnext
      have HGP := Lib.hid hgp
      clear hnext hgp hlv hmem hid
      gi_wp2
      refine wpIn_mono (Q := fun e a' W' => e = Exit.normal ∧ a' = ({ tmps := #[.slice a n c, .string id, undef, .pointer (some ⟨w.heap.size, 0, none⟩), .pointer (some ⟨w.heap.size + 1, 0, none⟩), .pointer (some ⟨w.heap.size + 1 + 1, 0, none⟩), .pointer (some ⟨w1.heap.size, 0, none⟩), .int .i64 0, undef, .pointer (some ⟨Bx, 0, none⟩), .tuple #[tallyV b1 b2, .int .i64 0], .slice a n c, .tuple #[tallyV b1 b2, .int .i64 0], tallyV b1 b2, .int .i64 0, .int .i64 0, .bool false, undef, undef, .slice a n c, .func (.func 136) #[] #[.pointer (some ⟨w1.heap.size + 1, 0, none⟩)], .int .i64 (x.1 : Int), x.2.1.val, .pointer (some ⟨Bx, 0, none⟩), .pointer (some ⟨Bx, 0, none⟩), .string x.2.1.v.r.id, .string id, .bool true, .bool true, .pointer (some ⟨w1.heap.size, 1, none⟩), .map (some b2), x.2.1.val, spotV x.2.1.v.r.id x.2.1.v.r.cats, .bool lv, .bool lv, undef, undef, undef, undef], defers := [] } : Act) ∧ Below W.heap.size W W') ?first ?rest
      case first =>
        gi_region_with_o (refine ⟨trivial, ?_⟩; gi_at_call 111; refine (CallsIn.inRound l0 (callsIn_wide.2 (spot_any x.2.1 _))).mono ?_; rintro e w' ⟨rfl, hb, -⟩; obtain ⟨hlk, ht1, hbb⟩ := HNX.out _ hb; clear hb)
        all_goals exact ⟨rfl, rfl, by assumption⟩
      case rest =>
        rintro e a' W3 ⟨rfl, rfl, hb3⟩
        have HS3 := Lib.hid (HSW.out.below hb3)
        have HIN3 := Lib.hid (HIN.out.below hb3)
        obtain ⟨hc3, hf3⟩ := bcell hb3
        replace c0 := (hc3 _ 0 hBxl).trans c0
        replace c1 := (hc3 _ 1 hBxl).trans c1
        replace c2 := (hc3 _ 2 hBxl).trans c2
        replace c3 := (hc3 _ 3 hBxl).trans c3
        replace c4 := (hc3 _ 4 hBxl).trans c4
        have HB3 := Lib.hid hb3
        clear hc3 hf3 i0 t1 e1 hb3
        cases lv with
        | true =>
          gi_wp2
          refine ⟨trivial, ?_⟩
          refine (CallsIn.inRound l0 (callsIn_wide.2 (copy_any x.2.1 _ HIN3.out HXO.out.nf HXO.out.nr))).mono ?_
          rintro e w4 ⟨p', rfl, hnr, hb4⟩
          have hS4 := HS3.out.below hb4
          have HB4 := Lib.hid (HB3.out.trans (hb4.mono HB3.out.size))
          have HBW := Lib.hid hS4.b
          have HNR := Lib.hid (hnr.low (show w.heap.size + 3 ≤ W3.heap.size by have := cell_lt HS3.out.e0; omega))
          have r0 := hS4.r0
          have r1 := hS4.r1
          have r2 := hS4.r2
          have r3 := hS4.r3
          have rz0 := hS4.rz 0
          have rz1 := hS4.rz 1
          have rz2 := hS4.rz 2
          have rz3 := hS4.rz 3
          have e0 := hS4.e0
          have ez := hS4.ez 0
          have hfd := rec_field ⟨x.2.1.v, p'⟩ w4
          have hle : w.heap.size ≤ w.heap.size + 1 := by omega
          have hle2 : w.heap.size ≤ w.heap.size + 2 := by omega
          have hn1 : w.heap.size + 1 ≠ w.heap.size + 2 := by omega
          clear hS4 hnr hb4 c0 c1 c2 c3 c4
          have HGOT := Lib.hid (got_of HBW.out HNR.out r0 r1 r2 r3 e0)
          have HKP := Lib.hid (keeps_of_below (B := W2.heap.size) HB4.out)
          gi_wp2
          exact ⟨((((HKP.out.trans ((KeepsOthers.setCell _ _ _).from _)).trans ((KeepsOthers.setCell _ _ _).from _)).trans ((KeepsOthers.setCell _ _ _).from _)).trans ((KeepsOthers.setCell _ _ _).from _)).trans ((KeepsOthers.setCell _ _ _).from _),
            rfl, pre, x, rfl, HPP.out, HGP.out, HGOT.out⟩
        | false =>
          gi_wp2
          exact ⟨keeps_of_below HB3.out, HB3.out.mono (by have := hB.size; omega), fun y hy => by
            rcases List.mem_append.1 hy with hy | hy
            · exact HPP.out y hy
            · rw [List.mem_singleton] at hy; subst hy; exact HGP.out, hB.trans (HB3.out.mono hB.size)⟩
    · have hfl : Tryz.prog.follows Departure.mixedOrders = true := by kernel_rfl
      have e1 : (x.2.1.v.r.id.toList == id.toList) = false := sEq_false.2 hid
      have HGP : Hid (getP (l.map (·.v)) id x.2.1.v = false) := by
        show getP _ _ _ = false
        unfold getP
        rw [sEq_false.2 hid]
        rfl
      clear hmem hid
      gi_wp2
      refine wpIn_mono (Q := fun e a' W' => e = Exit.normal ∧ a' = ({ tmps := #[.slice a n c, .string id, undef, .pointer (some ⟨w.heap.size, 0, none⟩), .pointer (some ⟨w.heap.size + 1, 0, none⟩), .pointer (some ⟨w.heap.size + 1 + 1, 0, none⟩), .pointer (some ⟨w1.heap.size, 0, none⟩), .int .i64 0, undef, .pointer (some ⟨Bx, 0, none⟩), .tuple #[tallyV b1 b2, .int .i64 0], .slice a n c, .tuple #[tallyV b1 b2, .int .i64 0], tallyV b1 b2, .int .i64 0, .int .i64 0, .bool false, undef, undef, .slice a n c, .func (.func 136) #[] #[.pointer (some ⟨w1.heap.size + 1, 0, none⟩)], .int .i64 (x.1 : Int), x.2.1.val, .pointer (some ⟨Bx, 0, none⟩), .pointer (some ⟨Bx, 0, none⟩), .string x.2.1.v.r.id, .string id, .bool false, .bool false, undef, undef, undef, undef, undef, .bool false, undef, undef, undef, undef], defers := [] } : Act) ∧ W' = W.drew) ?first ?rest
      case first =>
        gi_region_with_o (refine ⟨trivial, ?_⟩)
        all_goals exact ⟨rfl, rfl, rfl⟩
      case rest =>
        rintro e a' W3 ⟨rfl, rfl, rfl⟩
        have HB3 : Hid (Below W.heap.size W W.drew) := (⟨rfl, rfl, rfl, Nat.le_refl _, fun _ _ => rfl⟩ : Below W.heap.size W W.drew)
        gi_wp2
        exact ⟨keeps_of_below HB3.out, HB3.out.mono (by have := hB.size; omega), fun y hy => by
          rcases List.mem_append.1 hy with hy | hy
          · exact HPP.out y hy
          · rw [List.mem_singleton] at hy; subst hy; exact HGP.out, hB.trans (HB3.out.mono hB.size)⟩
  case done =>
    rintro D xs W hD hxs ⟨hp, hB⟩ hK
    have hSW := HS2.out.below hB
    have hno : getV (l.map (·.v)) id = none := getV_no hxs (fun y hy => by
      obtain ⟨z, hz, rfl⟩ := List.mem_map.1 hy
      exact hp z hz)
    obtain ⟨g1, g2⟩ := get_none HOK.out hno
    have HG1 := Lib.hid g1
    have HG2 := Lib.hid g2
    have r0 := hSW.r0
    have r1 := hSW.r1
    have r2 := hSW.r2
    have r3 := hSW.r3
    have rz0 := hSW.rz 0
    have rz1 := hSW.rz 1
    have rz2 := hSW.rz 2
    have rz3 := hSW.rz 3
    have e0 := hSW.e0
    have ez := hSW.ez 0
    have hn1 : w.heap.size + 1 ≠ w.heap.size + 2 := by omega
    have HBW := Lib.hid hSW.b
    have HGOT := Lib.hid (got_bad hSW.b r0 r1 r2 r3 e0)
    have HDD := Lib.hid ((keeps_five (W := W) w.heap.size).same D _ hK rfl)
    clear hSW hno g1 g2 hp
    gi_wp2
    obtain ⟨q0, q1, q2, q3, q4, qb⟩ := HGOT.out
    have hK' := HDD.out
    refine ⟨by simp, .inl ⟨_, _, rfl, run_takeDeferred hK', ?_⟩⟩
    have hg := grownBy_putObj' (((((W.setCell ⟨w.heap.size + 1, 0, none⟩ (.string ⟨#[]⟩)).setCell ⟨w.heap.size + 1, 1, none⟩ (.int .i64 0)).setCell ⟨w.heap.size + 1, 2, none⟩ (.slice none 0 0)).setCell ⟨w.heap.size + 1, 3, none⟩ (.slice none 0 0)).setCell ⟨w.heap.size + 1 + 1, 0, none⟩ (.int .i64 4)) D (.deferred none)
    have hr : ∀ r, some D = some r → ∃ o : Obj, (((((W.setCell ⟨w.heap.size + 1, 0, none⟩ (.string ⟨#[]⟩)).setCell ⟨w.heap.size + 1, 1, none⟩ (.int .i64 0)).setCell ⟨w.heap.size + 1, 2, none⟩ (.slice none 0 0)).setCell ⟨w.heap.size + 1, 3, none⟩ (.slice none 0 0)).setCell ⟨w.heap.size + 1 + 1, 0, none⟩ (.int .i64 4)).heap[r]? = some o ∧ o.isCells = false := fun r e => by cases e; exact ⟨_, hK', rfl⟩
    have k0 := cell_kept q0 hg hr
    have k1 := cell_kept q1 hg hr
    have k2 := cell_kept q2 hg hr
    have k3 := cell_kept q3 hg hr
    have k4 := cell_kept q4 hg hr
    refine ⟨.tuple #[RecL.zero.v At.none, .int .i64 4], ?_, ?_⟩
    · simp [results, Tryz.f68, go_sem, k0, k1, k2, k3, k4]
      exact ⟨rfl, rfl, ⟨rfl, rfl, rfl⟩, rfl, rfl, rfl⟩
    · unfold GetTo
      rw [HG1.out, HG2.out]
      exact ⟨At.none, rfl, NewRec.none _ _ _ _, qb.grown hg qb.size (fun j e => by cases e; have := HS2.out.b.size; omega)⟩
  case stop =>
    rintro D c' pre W hD ⟨k, hk, hpre⟩ ⟨rfl, ini, last, rfl, h2, h3, hgot⟩ hK
    have hyes : getV (l.map (·.v)) id = some last.2.1.v := getV_pre (ini := ini.map (·.2.1)) (last := last.2.1) (k := k) (by rw [← hpre]; simp) (fun y hy => by
      obtain ⟨z, hz, rfl⟩ := List.mem_map.1 hy
      exact h2 z hz) h3
    obtain ⟨g1, g2⟩ := get_some HOK.out hyes
    have HG1 := Lib.hid g1
    have HG2 := Lib.hid g2
    clear hyes g1 g2 hpre h2 h3
    have hg := grownBy_putObj' W D (.deferred none)
    have hgo2 := hgot.own hg (fun r e => by cases e; exact ⟨by have := HS2.out.b.size; omega, _, hK, rfl⟩)
    gi_wp2
    refine ⟨by simp, .inl ⟨_, _, rfl, run_takeDeferred hK, ?_⟩⟩
    obtain ⟨hb, p, hn', q0, q1, q2, q3, q4⟩ := hgo2
    refine ⟨.tuple #[last.2.1.v.r.v p, .int .i64 0], ?_, ?_⟩
    · simp [results, Tryz.f68, go_sem, q0, q1, q2, q3, q4]
    · unfold GetTo
      rw [HG1.out, HG2.out]
      exact ⟨p, rfl, hn', hb⟩

set_option maxHeartbeats 2000000 in
theorem get_no {n : Nat} {er : Int} {a : Option Addr} {vs : List VerL} (c : Nat) (id : ByteArray) (w : World) (h : VsAt w a n vs) (hm : n ≤ maxLen) (he : stErr vs = er) (h0 : er ≠ 0) :
    Calls Tryz.prog 68 #[.slice a n c, .string id] w (GetTo RecL.zero er w) := by
  have HCT := Lib.hid (counts_bad c (gW id w) (h.below (gW_below id w)) hm he h0)
  have H0 := Lib.hid h0
  have h1 : (er == 0) = false := by simpa using h0
  have h2 : (er != 0) = true := by simpa using h0
  clear h hm he h0
  refine (callsIn_wide (n := 3)).1 ?_
  refine callsIn_of_wp_marks Tryz.func68 rfl trivial ?_ rfl
  simp only [Tryz.ntmps68, List.size_toArray, List.length_cons, List.length_nil, Nat.reduceAdd, Nat.reduceSub, Array.replicate_succ, Array.replicate_zero, List.push_toArray, List.append_toArray, List.nil_append, List.cons_append]
  gi_wp2
  refine ⟨trivial, ?_⟩
  refine (callsIn_wide.2 HCT.out).mono ?_
  rintro e w1 ⟨rfl, hb1⟩
  have hz1 : w.heap.size + 2 < w1.heap.size := by have := hb1.size; simp at this; omega
  obtain ⟨hc1, hf1⟩ := bcell hb1
  have r0 : w1.cell? ⟨w.heap.size + 1, 0, none⟩ = some (.string ⟨#[]⟩) := by rw [hc1 _ _ (by simp)]; simp [go_sem]
  have r1 : w1.cell? ⟨w.heap.size + 1, 1, none⟩ = some (.int .i64 0) := by rw [hc1 _ _ (by simp)]; simp [go_sem]
  have r2 : w1.cell? ⟨w.heap.size + 1, 2, none⟩ = some (.slice none 0 0) := by rw [hc1 _ _ (by simp)]; simp [go_sem]
  have r3 : w1.cell? ⟨w.heap.size + 1, 3, none⟩ = some (.slice none 0 0) := by rw [hc1 _ _ (by simp)]; simp [go_sem]
  have rz0 : w1.frozen? ⟨w.heap.size + 1, 0, none⟩ = false := by rw [hf1 _ _ (by simp)]; simp [go_sem]
  have rz1 : w1.frozen? ⟨w.heap.size + 1, 1, none⟩ = false := by rw [hf1 _ _ (by simp)]; simp [go_sem]
  have rz2 : w1.frozen? ⟨w.heap.size + 1, 2, none⟩ = false := by rw [hf1 _ _ (by simp)]; simp [go_sem]
  have rz3 : w1.frozen? ⟨w.heap.size + 1, 3, none⟩ = false := by rw [hf1 _ _ (by simp)]; simp [go_sem]
  have e0 : w1.cell? ⟨w.heap.size + 2, 0, none⟩ = some (.int .i64 0) := by rw [hc1 _ _ (by simp)]; simp [go_sem]
  have ez : w1.frozen? ⟨w.heap.size + 2, 0, none⟩ = false := by rw [hf1 _ _ (by simp)]; simp [go_sem]
  have hB := (gW_below id w).trans (hb1.mono (gW_below id w).size)
  have HB := Lib.hid hB
  have hn1 : w.heap.size + 1 ≠ w.heap.size + 2 := by omega
  have z1 : w.heap.size + 1 < w1.heap.size := by omega
  clear hc1 hf1 hb1 HCT
  have hle : w.heap.size ≤ w.heap.size + 1 := by omega
  have hle2 : w.heap.size ≤ w.heap.size + 1 + 1 := by omega
  have HGB := Lib.hid (got_err (o := .cells #[.map none, .map none] 162) er hB r0 r1 r2 r3 e0)
  clear hB
  gi_wp2
  obtain ⟨k0, k1, k2, k3, k4⟩ := HGB.out
  refine ⟨.tuple #[RecL.zero.v At.none, .int .i64 er], ?_, ?_⟩
  · simp [results, Tryz.f68, go_sem, k0, k1, k2, k3, k4]
    exact ⟨rfl, rfl, ⟨rfl, rfl, rfl⟩, rfl, rfl, rfl⟩
  · exact ⟨At.none, rfl, NewRec.none _ _ _ _, (((((HB.out.setCell hle _).setCell hle _).setCell hle _).setCell hle _).setCell hle2 _).alloc (by simp [World.setCell]; omega) _⟩

/-- Get, whatever lies there -/
theorem get_is {n : Nat} {er : Int} {R : RecL} {a : Option Addr} {vs : List VerL} (c : Nat) (id : ByteArray) (w : World) (h : VsAt w a n vs) (hm : n ≤ maxLen) (hR : getR vs id = R) (he : getErr vs id = er) :
    Calls Tryz.prog 68 #[.slice a n c, .string id] w (GetTo R er w) := by
  by_cases hs : stErr vs = 0
  · obtain ⟨l, rfl, hl, hsl⟩ := h
    have hn := (stErr_ok.1 hs).1
    rw [List.length_map, hl] at hn
    subst hR he
    exact get_to a l c id w hsl hl hn hs
  · have e1 : getErr vs id = stErr vs := by unfold getErr; rw [if_pos hs]
    have e2 : getR vs id = RecL.zero := by unfold getR; rw [if_pos hs]
    rw [e1] at he
    rw [e2] at hR
    subst hR
    exact get_no c id w h hm he (by rw [← he]; exact hs)
end Go.Proofs.YteimdhkajbldjaaGreat
