/- Contract of record.Set. -/
import Derived.Test.YtdnjboopaagleaaDoorRCheck
import Derived.Test.YtdnjboopaagleaaDoorRPlace
import Derived.Test.YtdnjboopaagleaaDoorRIns
import Derived.Deep.RegionHeld3
import Derived.Deep.DrawnRows
import Derived.Deep.Cut
import Derived.Deep.CutRange
set_option linter.unusedVariables false
set_option linter.unusedSimpArgs false
set_option maxRecDepth 100000
namespace Go.Proofs.YtdnjboopaagleaaDoor
open Go.RowKit Go.Sort

def SetTo (r : RecL) (n : Int) (w : World) (e : Ending) (w' : World) : Prop := ∃ p' : At, e = .returned (.tuple #[r.v p', .int .i64 n]) ∧ r.in_ p' w' ∧ p'.from_ w.heap.size ∧ Below w.heap.size w w'

theorem zero_in (w : World) : RecL.zero.in_ At.none w := ⟨SlF.nil _ _, SlS.nil _ _, Nat.le_refl _, Nat.le_refl _, Nat.zero_le _, Nat.zero_le _⟩

/-- the three blocks that Set begins with -/
abbrev setWorld (r : RecL) (p : At) (f : FieldL) (w : World) : World :=
  ((r.box p w).alloc (.cells #[.string f.key, .string f.val] 27)).alloc (.cells #[.string ⟨#[]⟩, .int .i64 0, .slice none 0 0, .slice none 0 0] 25)
theorem setWorld_below (r : RecL) (p : At) (f : FieldL) (w : World) : Below w.heap.size w (setWorld r p f w) :=
  (((Below.refl _ _).alloc (Nat.le_refl _) _).alloc (by simp) _).alloc (by simp; omega) _

set_option maxHeartbeats 1000000 in
theorem set_err (r : RecL) (p : At) (f : FieldL) (w : World) (hi : r.in_ p w) (h : r.err ≠ 0) :
    Calls Tryd.prog 7 #[r.v p, f.v] w (SetTo RecL.zero r.err w) := by
  have hA := setWorld_below r p f w
  have HI := Lib.hid hi
  clear hi
  obtain ⟨n, hn⟩ : ∃ n, r.err = n := ⟨_, rfl⟩
  have hb : (n == 0) = false := by rw [← hn]; simpa using h
  have hb' : ¬ n = 0 := by rw [← hn]; exact h
  rw [hn]
  have HN := Lib.hid hn
  clear hn h
  go_enter Tryd.func7, Tryd.ntmps7
  go_wp2_with fail
  refine (recCheck_is r p _ (HI.out.below hA) HN.out).mono ?_
  rintro e w1 ⟨rfl, hb1⟩
  have hB1 : Below w.heap.size w w1 := hA.trans (hb1.mono hA.size)
  obtain ⟨hc1, hf1⟩ := bcell hb1
  go_wp2_with fail
  refine bodyPost_ret (v := .tuple #[RecL.zero.v At.none, .int .i64 n]) (by simp [results, Tryd.results7, go_sem, hc1, RecL.zero, At.none]) rfl ⟨At.none, rfl, zero_in _, At.none_from _, ?_⟩
  go_grown

set_option maxHeartbeats 1000000 in
theorem set_form (r : RecL) (p : At) (f : FieldL) (w : World) (hi : r.in_ p w) (h : r.Ok) (hf : isFd f = false) :
    Calls Tryd.prog 7 #[r.v p, f.v] w (SetTo RecL.zero 3 w) := by
  have hA := setWorld_below r p f w
  have HI := Lib.hid hi
  have HO := Lib.hid h
  have HF := Lib.hid hf
  clear hi h hf
  go_enter Tryd.func7, Tryd.ntmps7
  go_wp2_with fail
  refine (recCheck_is r p _ (HI.out.below hA) (r.err_ok.2 HO.out)).mono ?_
  rintro e w1 ⟨rfl, hb1⟩
  have hB1 : Below w.heap.size w w1 := hA.trans (hb1.mono hA.size)
  have z1 : w.heap.size + 2 < w1.heap.size := by have := hb1.size; simp at this; omega
  have z2 : w.heap.size + 1 < w1.heap.size := by omega
  obtain ⟨hc1, hf1⟩ := bcell hb1
  go_wp2_with fail
  refine (isField_is f _ HF.out).mono ?_
  rintro e w2 ⟨rfl, hb2⟩
  have hB2 : Below w.heap.size w w2 := hB1.trans (hb2.mono hB1.size)
  obtain ⟨hc2, hf2⟩ := bcell hb2
  go_wp2_with fail
  refine bodyPost_ret (v := .tuple #[RecL.zero.v At.none, .int .i64 3]) (by simp [results, Tryd.results7, go_sem, hc2, hc1, z1, RecL.zero, At.none]) rfl ⟨At.none, rfl, zero_in _, At.none_from _, ?_⟩
  go_grown

set_option maxHeartbeats 1000000 in
theorem set_full (r : RecL) (p : At) (f : FieldL) (w : World) (hi : r.in_ p w) (h : r.Ok) (hf : isFd f = true) (ht : there r.fs f.key = false) (hl : r.fs.length = 6) :
    Calls Tryd.prog 7 #[r.v p, f.v] w (SetTo RecL.zero 2 w) := by
  have hA := setWorld_below r p f w
  have HI := Lib.hid hi
  have HO := Lib.hid h
  have HF := Lib.hid hf
  have HT := Lib.hid ht
  have hl2 : ((r.fs.length : Int) == 6) = true := by rw [hl]; rfl
  have hl3 : (r.fs.length : Int) = 6 := by omega
  clear hi h hf ht hl
  go_enter Tryd.func7, Tryd.ntmps7
  go_wp2_with fail
  refine (recCheck_is r p _ (HI.out.below hA) (r.err_ok.2 HO.out)).mono ?_
  rintro e w1 ⟨rfl, hb1⟩
  have hB1 : Below w.heap.size w w1 := hA.trans (hb1.mono hA.size)
  have z1 : w.heap.size + 2 < w1.heap.size := by have := hb1.size; simp at this; omega
  have z2 : w.heap.size + 1 < w1.heap.size := by omega
  have z3 : w.heap.size < w1.heap.size := by omega
  obtain ⟨hc1, hf1⟩ := bcell hb1
  go_wp2_with fail
  refine (isField_is f _ HF.out).mono ?_
  rintro e w2 ⟨rfl, hb2⟩
  have hB2 : Below w.heap.size w w2 := hB1.trans (hb2.mono hB1.size)
  have y1 : w.heap.size + 2 < w2.heap.size := Nat.lt_of_lt_of_le z1 hb2.size
  have y2 : w.heap.size + 1 < w2.heap.size := by omega
  have y3 : w.heap.size < w2.heap.size := by omega
  obtain ⟨hc2, hf2⟩ := bcell hb2
  go_wp2_with fail
  refine (place_any p.fa r.fs p.fc f.key _ (HI.out.hf.below hB2) HO.out.nf (fOk_asc HO.out.fs)).mono ?_
  rintro e w3 ⟨rfl, hb3⟩
  rw [HT.out]
  have hB3 : Below w.heap.size w w3 := hB2.trans (hb3.mono hB2.size)
  obtain ⟨hc3, hf3⟩ := bcell hb3
  go_wp2_with fail
  refine bodyPost_ret (v := .tuple #[RecL.zero.v At.none, .int .i64 2]) (by simp [results, Tryd.results7, go_sem, hc3, hc2, hc1, z1, y1, RecL.zero, At.none]) rfl ⟨At.none, rfl, zero_in _, At.none_from _, ?_⟩
  go_grown

/-- behind the two clones -/
structure SetMid (r : RecL) (f : FieldL) (w w1 wc : World) (A A' : Option Addr) (c c' : Nat) : Prop where
  b : Below w.heap.size w wc
  lt : w.heap.size + 2 < w1.heap.size
  b1 : w1.heap.size ≤ wc.heap.size
  ci : wc.cell? ⟨w.heap.size, 0, none⟩ = some (.string r.id)
  cc : wc.cell? ⟨w.heap.size, 1, none⟩ = some (.int .i64 r.cats)
  cf : wc.cell? ⟨w.heap.size, 2, none⟩ = some (.slice A r.fs.length c)
  cr : wc.cell? ⟨w.heap.size, 3, none⟩ = some (.slice A' r.rs.length c')
  z : wc.frozen? ⟨w.heap.size, 2, none⟩ = false
  k : wc.cell? ⟨w.heap.size + 1, 0, none⟩ = some (.string f.key)
  v : wc.cell? ⟨w.heap.size + 1, 1, none⟩ = some (.string f.val)
  o0 : wc.cell? ⟨w.heap.size + 2, 0, none⟩ = some (.string ⟨#[]⟩)
  o1 : wc.cell? ⟨w.heap.size + 2, 1, none⟩ = some (.int .i64 0)
  o2 : wc.cell? ⟨w.heap.size + 2, 2, none⟩ = some (.slice none 0 0)
  o3 : wc.cell? ⟨w.heap.size + 2, 3, none⟩ = some (.slice none 0 0)
  z0 : ∀ o, wc.frozen? ⟨w.heap.size + 2, o, none⟩ = false
  own1 : OwnF w1.heap.size wc (.slice A r.fs.length c) r.fs
  own2 : OwnS w1.heap.size wc (.slice A' r.rs.length c') r.rs
def SetMids (r : RecL) (f : FieldL) (w w1 wc : World) : Prop := ∃ A A' c c', SetMid r f w w1 wc A A' c c'

/-- ahead of the two clones -/
structure SetPre (r : RecL) (p : At) (f : FieldL) (w w3 : World) : Prop where
  b : Below w.heap.size w w3
  lt : w.heap.size + 2 < w3.heap.size
  a0 : w3.cell? ⟨w.heap.size, 0, none⟩ = some (.string r.id)
  a1 : w3.cell? ⟨w.heap.size, 1, none⟩ = some (.int .i64 r.cats)
  a2 : w3.cell? ⟨w.heap.size, 2, none⟩ = some (.slice p.fa r.fs.length p.fc)
  a3 : w3.cell? ⟨w.heap.size, 3, none⟩ = some (.slice p.ra r.rs.length p.rc)
  a4 : w3.cell? ⟨w.heap.size + 1, 0, none⟩ = some (.string f.key)
  a5 : w3.cell? ⟨w.heap.size + 1, 1, none⟩ = some (.string f.val)
  b0 : w3.cell? ⟨w.heap.size + 2, 0, none⟩ = some (.string ⟨#[]⟩)
  b1 : w3.cell? ⟨w.heap.size + 2, 1, none⟩ = some (.int .i64 0)
  b2 : w3.cell? ⟨w.heap.size + 2, 2, none⟩ = some (.slice none 0 0)
  b3 : w3.cell? ⟨w.heap.size + 2, 3, none⟩ = some (.slice none 0 0)
  f0 : ∀ o, w3.frozen? ⟨w.heap.size, o, none⟩ = false
  f2 : ∀ o, w3.frozen? ⟨w.heap.size + 2, o, none⟩ = false

theorem SetPre.mid {r : RecL} {p : At} {f : FieldL} {w w3 W : World} (P : SetPre r p f w w3) (hW : Below w3.heap.size w3 W) {A A' : Option Addr} {c c' : Nat}
    (h1 : OwnF w3.heap.size W (.slice A r.fs.length c) r.fs) (h2 : OwnS w3.heap.size W (.slice A' r.rs.length c') r.rs) :
    SetMids r f w w3 ((W.setCell ⟨w.heap.size, 2, none⟩ (.slice A r.fs.length c)).setCell ⟨w.heap.size, 3, none⟩ (.slice A' r.rs.length c')) ∧
    SetMids r f w w3 ((W.setCell ⟨w.heap.size, 3, none⟩ (.slice A' r.rs.length c')).setCell ⟨w.heap.size, 2, none⟩ (.slice A r.fs.length c)) := by
  have x1 := P.lt
  have x2 : w.heap.size + 1 < w3.heap.size := by omega
  have x3 : w.heap.size < w3.heap.size := by omega
  obtain ⟨hc, hf⟩ := bcell hW
  have hB := P.b.trans (hW.mono P.b.size)
  have a0 := (hc _ 0 x3).trans P.a0
  have a1 := (hc _ 1 x3).trans P.a1
  have a2 := (hc _ 2 x3).trans P.a2
  have a3 := (hc _ 3 x3).trans P.a3
  have a4 := (hc _ 0 x2).trans P.a4
  have a5 := (hc _ 1 x2).trans P.a5
  have b0 := (hc _ 0 x1).trans P.b0
  have b1 := (hc _ 1 x1).trans P.b1
  have b2 := (hc _ 2 x1).trans P.b2
  have b3 := (hc _ 3 x1).trans P.b3
  have f0 := (hf _ 2 x3).trans (P.f0 2)
  have f2 : ∀ o, W.frozen? ⟨w.heap.size + 2, o, none⟩ = false := fun o => (hf _ o x1).trans (P.f2 o)
  have hz := hW.size
  constructor
  · refine ⟨A, A', c, c', ?_⟩
    exact { b := (hB.setCell (Nat.le_refl _) _).setCell (Nat.le_refl _) _, lt := x1, b1 := by simpa [World.setCell] using hz, ci := by simp [a0, go_sem], cc := by simp [a1, go_sem], cf := by simp [a2, go_sem], cr := by simp [a3, go_sem], z := by simp [f0, go_sem], k := by simp [a4, go_sem], v := by simp [a5, go_sem], o0 := by simp [b0, go_sem], o1 := by simp [b1, go_sem], o2 := by simp [b2, go_sem], o3 := by simp [b3, go_sem], z0 := fun o => by simp [f2, go_sem], own1 := ownsRow_setCell_below (ownsRow_setCell_below h1 x3 _) x3 _, own2 := ownsRow_setCell_below (ownsRow_setCell_below h2 x3 _) x3 _ }
  · refine ⟨A, A', c, c', ?_⟩
    exact { b := (hB.setCell (Nat.le_refl _) _).setCell (Nat.le_refl _) _, lt := x1, b1 := by simpa [World.setCell] using hz, ci := by simp [a0, go_sem], cc := by simp [a1, go_sem], cf := by simp [a2, go_sem], cr := by simp [a3, go_sem], z := by simp [f0, go_sem], k := by simp [a4, go_sem], v := by simp [a5, go_sem], o0 := by simp [b0, go_sem], o1 := by simp [b1, go_sem], o2 := by simp [b2, go_sem], o3 := by simp [b3, go_sem], z0 := fun o => by simp [f2, go_sem], own1 := ownsRow_setCell_below (ownsRow_setCell_below h1 x3 _) x3 _, own2 := ownsRow_setCell_below (ownsRow_setCell_below h2 x3 _) x3 _ }

set_option maxHeartbeats 8000000 in
set_option maxRecDepth 100000 in
theorem set_there (r : RecL) (p : At) (f : FieldL) (w : World) (hi : r.in_ p w) (h : r.Ok) (hf : isFd f = true) (g : FieldL) (hg : r.fs[idx r.fs f.key]? = some g) (hk : g.key = f.key) :
    Calls Tryd.prog 7 #[r.v p, f.v] w (SetTo (r.put f) 0 w) := by
  have hA := setWorld_below r p f w
  have HI := Lib.hid hi
  have HO := Lib.hid h
  have HF := Lib.hid hf
  have HG := Lib.hid hg
  have HK := Lib.hid hk
  have ht : there r.fs f.key = true := (there_iff (fOk_asc h.fs)).2 ⟨g, hg, hk⟩
  have HT := Lib.hid ht
  clear hg hk ht
  clear hi h hf
  go_enter Tryd.func7, Tryd.ntmps7
  go_wp2_with fail
  refine (recCheck_is r p _ (HI.out.below hA) (r.err_ok.2 HO.out)).mono ?_
  rintro e w1 ⟨rfl, hb1⟩
  have hB1 : Below w.heap.size w w1 := hA.trans (hb1.mono hA.size)
  have z1 : w.heap.size + 2 < w1.heap.size := by have := hb1.size; simp at this; omega
  have z2 : w.heap.size + 1 < w1.heap.size := by omega
  have z3 : w.heap.size < w1.heap.size := by omega
  obtain ⟨hc1, hf1⟩ := bcell hb1
  go_wp2_with fail
  refine (isField_is f _ HF.out).mono ?_
  rintro e w2 ⟨rfl, hb2⟩
  have hB2 : Below w.heap.size w w2 := hB1.trans (hb2.mono hB1.size)
  have y1 : w.heap.size + 2 < w2.heap.size := Nat.lt_of_lt_of_le z1 hb2.size
  have y2 : w.heap.size + 1 < w2.heap.size := by omega
  have y3 : w.heap.size < w2.heap.size := by omega
  obtain ⟨hc2, hf2⟩ := bcell hb2
  go_wp2_with fail
  refine (place_any p.fa r.fs p.fc f.key _ (HI.out.hf.below hB2) HO.out.nf (fOk_asc HO.out.fs)).mono ?_
  rintro e w3 ⟨rfl, hb3⟩
  have hB3 : Below w.heap.size w w3 := hB2.trans (hb3.mono hB2.size)
  have x1 : w.heap.size + 2 < w3.heap.size := Nat.lt_of_lt_of_le y1 hb3.size
  have x2 : w.heap.size + 1 < w3.heap.size := by omega
  have x3 : w.heap.size < w3.heap.size := by omega
  obtain ⟨hc3, hf3⟩ := bcell hb3
  have HP : Hid (SetPre r p f w w3) := {
    b := hB3, lt := x1
    a0 := by simp [hc3, hc2, hc1, y3, z3, go_sem]
    a1 := by simp [hc3, hc2, hc1, y3, z3, go_sem]
    a2 := by simp [hc3, hc2, hc1, y3, z3, go_sem]
    a3 := by simp [hc3, hc2, hc1, y3, z3, go_sem]
    a4 := by simp [hc3, hc2, hc1, y2, z2, go_sem]
    a5 := by simp [hc3, hc2, hc1, y2, z2, go_sem]
    b0 := by simp [hc3, hc2, hc1, y1, z1, go_sem]
    b1 := by simp [hc3, hc2, hc1, y1, z1, go_sem]
    b2 := by simp [hc3, hc2, hc1, y1, z1, go_sem]
    b3 := by simp [hc3, hc2, hc1, y1, z1, go_sem]
    f0 := fun o => by simp [hf3, hf2, hf1, y3, z3, go_sem]
    f2 := fun o => by simp [hf3, hf2, hf1, y1, z1, go_sem] }
  have a2 := HP.out.a2
  have a3 := HP.out.a3
  have hB3' := Lib.hid hB3
  clear hc1 hf1 hc2 hf2 hc3 hf3 hb1 hb2 hb3 z1 z2 z3 y1 y2 y3 hB1 hB2 hA hB3
  have HCF : Hid (∀ W, Below w3.heap.size w3 W → Calls Tryd.prog 26 #[.slice p.fa r.fs.length p.fc] W fun e w' => ∃ A c, e = .returned (.slice A r.fs.length c) ∧ OwnF w3.heap.size w' (.slice A r.fs.length c) r.fs ∧ Below w3.heap.size w3 w' ∧ Below W.heap.size W w') := fun W hW =>
    (cloneF_any p.fa r.fs p.fc W ((HI.out.hf.below hB3'.out).below hW) (by have := HO.out.nf; omega)).mono fun e w' ⟨A, c, h1, h2, h3⟩ => ⟨A, c, h1, own_low h2 hW.size, hW.trans (h3.mono hW.size), h3⟩
  have HCS : Hid (∀ W, Below w3.heap.size w3 W → Calls Tryd.prog 27 #[.slice p.ra r.rs.length p.rc] W fun e w' => ∃ A c, e = .returned (.slice A r.rs.length c) ∧ OwnS w3.heap.size w' (.slice A r.rs.length c) r.rs ∧ Below w3.heap.size w3 w' ∧ Below W.heap.size W w') := fun W hW =>
    (cloneS_any p.ra r.rs p.rc W ((HI.out.hr.below hB3'.out).below hW) (by have := HO.out.nr; omega)).mono fun e w' ⟨A, c, h1, h2, h3⟩ => ⟨A, c, h1, own_low h2 hW.size, hW.trans (h3.mono hW.size), h3⟩
  have hS0 : Hid (∀ W, Below w3.heap.size w3 W → W.cell? ⟨w.heap.size, 2, none⟩ = some (.slice p.fa r.fs.length p.fc) ∧ W.cell? ⟨w.heap.size, 3, none⟩ = some (.slice p.ra r.rs.length p.rc) ∧ W.frozen? ⟨w.heap.size, 2, none⟩ = false ∧ W.frozen? ⟨w.heap.size, 3, none⟩ = false) := fun W hW =>
    ⟨(hW.cell (p := ⟨w.heap.size, 2, none⟩) x3).trans a2, (hW.cell (p := ⟨w.heap.size, 3, none⟩) x3).trans a3, (hW.frozen (p := ⟨w.heap.size, 2, none⟩) x3).trans (HP.out.f0 2), (hW.frozen (p := ⟨w.heap.size, 3, none⟩) x3).trans (HP.out.f0 3)⟩
  rw [HT.out]
  go_upto_region 9 with (fail)
  go_cut [] from 36 to 43 (fun wc => SetMids r f w w3 wc)
  case first =>
    go_region_with (first
      | (go_at_call 26; refine (HCF.out _ (by first | exact (Below.refl _ _).drew | assumption | exact Below.drew (by assumption))).mono ?_; rintro e wf ⟨A, c, rfl, hown, hbf, hbg⟩; obtain ⟨q1, q2, q3, q4⟩ := hS0.out wf hbf)
      | (go_at_call 27; refine (HCS.out _ (by first | exact (Below.refl _ _).drew | assumption | exact Below.drew (by assumption))).mono ?_; rintro e ws ⟨A', c', rfl, howns, hbs, hbt⟩; obtain ⟨r1, r2, r3, r4⟩ := hS0.out ws hbs))
    all_goals
      go_wp2_with fail
      go_meet
    all_goals
      case rel => first
        | exact (HP.out.mid hbs (OwnF.below hown hbt) howns).1
        | exact (HP.out.mid hbs (OwnF.below hown hbt) howns).2
        | exact (HP.out.mid hbf hown (OwnS.below howns hbg)).1
        | exact (HP.out.mid hbf hown (OwnS.below howns hbg)).2
  case rest =>
    obtain ⟨A, A', c, c', hm⟩ := hcut
    have HM := Lib.hid hm
    obtain ⟨mb, mlt, mb1, ci, cc, cf, cr, mz, mk, mv, o0, o1, o2, o3, z0, own1, own2⟩ := hm
    have z00 := z0 0; have z01 := z0 1; have z02 := z0 2; have z03 := z0 3
    have HO1 := Lib.hid own1
    have HO2 := Lib.hid own2
    have HB := Lib.hid mb
    have HB1 := Lib.hid mb1
    clear own1 own2 hS0 HCF HCS a2 a3 x1 x2 x3 mb1 mb z0
    obtain ⟨g, rfl⟩ : ∃ g, A = some ⟨g, 0, none⟩ := by
      rcases HO1.out.2 with ⟨e, h0⟩ | ⟨g, cap, cur, e, _⟩
      · have := (List.getElem?_eq_some_iff.1 HG.out).1
        omega
      · injection e with e1
        exact ⟨g, e1⟩
    have hgb := World.ownsRow.lt HO1.out g rfl
    have hgne : w.heap.size ≠ g ∧ w.heap.size + 2 ≠ g := by omega
    obtain ⟨n1, n2⟩ := hgne
    have n1' := n1.symm
    have n2' := n2.symm
    have hI : idx r.fs f.key < r.fs.length := (List.getElem?_eq_some_iff.1 HG.out).1
    have hcg := fun j hj => World.ownsRow.cellAt HO1.out j hj
    have hk1 := (hcg (idx r.fs f.key * 2) (by omega)).trans (cellsF_at HG.out).1
    have hk2 := (hcg (idx r.fs f.key * 2 + 1) (by omega)).trans (cellsF_at HG.out).2
    have hz1 := World.ownsRow.frozenAt HO1.out (idx r.fs f.key * 2)
    have hz2 := World.ownsRow.frozenAt HO1.out (idx r.fs f.key * 2 + 1)
    clear hcg
    have HIx : Hid (∃ I, I = idx r.fs f.key) := ⟨_, rfl⟩
    obtain ⟨I, hIe⟩ := HIx.out
    have HIe := Lib.hid hIe
    rw [← hIe] at hk1 hk2 hz1 hz2 hI ⊢
    clear hIe HIx
    go_wp2_with fail
    have hset : (r.put f).fs = r.fs.set I f := by
      rw [HIe.out]
      exact setFs_there (fOk_asc HO.out.fs) HG.out HK.out
    have hlen : (r.put f).fs.length = r.fs.length := by rw [hset, List.length_set]
    have hgs : ∀ b off, A' = some ⟨b, off, none⟩ → b ≠ g := fun b off e eb => by
      subst eb
      exact OwnF.apart HO1.out HO2.out rfl e
    have hoff : ∀ b off, A' = some ⟨b, off, none⟩ → b ≠ w.heap.size + 2 := fun b off e => by have := (World.ownsRow.lt HO2.out b (by rw [e]; rfl)).1; omega
    refine bodyPost_ret (v := .tuple #[.agg #[.string r.id, .int .i64 r.cats, .slice (some ⟨g, 0, none⟩) r.fs.length c, .slice A' r.rs.length c'], .int .i64 0]) (by simp [results, Tryd.results7, go_sem, ci, cc, cf, cr, o0, o1, o2, o3, n1, n2, n1', n2']) rfl ⟨⟨some ⟨g, 0, none⟩, c, A', c'⟩, ?_, ?_, ⟨fun b off e => by cases e; omega, fun b off e => by have := (World.ownsRow.lt HO2.out b (by rw [show A' = _ from e]; rfl)).1; omega⟩, ?_⟩
    · show Ending.returned (.tuple #[.agg #[.string r.id, .int .i64 r.cats, .slice (some ⟨g, 0, none⟩) r.fs.length c, .slice A' r.rs.length c'], .int .i64 0]) = Ending.returned (.tuple #[.agg #[.string r.id, .int .i64 r.cats, .slice (some ⟨g, 0, none⟩) (r.put f).fs.length c, .slice A' r.rs.length c'], .int .i64 0])
      rw [hlen]
    · have hs1 : SlF ((wc.setCell ⟨g, I * 2, none⟩ (.string f.key)).setCell ⟨g, I * 2 + 1, none⟩ (.string f.val)) (some ⟨g, 0, none⟩) (r.fs.set I f) := by
        intro k f' hf'
        have hkl : k < r.fs.length := by simpa using (List.getElem?_eq_some_iff.1 hf').1
        refine ⟨g, 0, rfl, ?_, ?_⟩
        all_goals
          by_cases e : k = I
          · subst e
            rw [List.getElem?_set_self hkl] at hf'
            cases hf'
            simp [go_sem, hk1, hk2]
          · rw [List.getElem?_set_ne (by omega)] at hf'
            obtain ⟨q1, q2⟩ := cellsF_at hf'
            have m1 := World.ownsRow.cellAt HO1.out (k * 2) (by omega)
            have m2 := World.ownsRow.cellAt HO1.out (k * 2 + 1) (by omega)
            rw [q1] at m1
            rw [q2] at m2
            rw [World.cell?_setCell_other _ _ _ _ (fun e' => by injection e' with _ e' _; omega), World.cell?_setCell_other _ _ _ _ (fun e' => by injection e' with _ e' _; omega), Nat.zero_add]
            first | exact m1 | exact m2
      rw [← hset] at hs1
      have hs2 := HO2.out.sl
      exact ⟨(((hs1.far (by rintro b off ⟨⟩; exact n2') _).far (by rintro b off ⟨⟩; exact n2') _).far (by rintro b off ⟨⟩; exact n2') _).far (by rintro b off ⟨⟩; exact n2') _,
        (((((hs2.1.far (fun b off e => hgs b off e) _).far (fun b off e => hgs b off e) _).far hoff _).far hoff _).far hoff _).far hoff _,
        by rw [hlen]; exact HO1.out.sl.2.1, hs2.2.1, HO1.out.sl.2.2, hs2.2.2⟩
    · have hb := HB.out
      have h2' : w.heap.size ≤ w.heap.size + 1 + 1 := by omega
      exact (((((hb.setCell (by show _ ≤ g; omega) _).setCell (by show _ ≤ g; omega) _).setCell h2' _).setCell h2' _).setCell h2' _).setCell h2' _

set_option maxHeartbeats 8000000 in
set_option maxRecDepth 100000 in
theorem set_new (r : RecL) (p : At) (f : FieldL) (w : World) (hi : r.in_ p w) (h : r.Ok) (hf : isFd f = true) (ht : there r.fs f.key = false) (hl : r.fs.length ≠ 6) :
    Calls Tryd.prog 7 #[r.v p, f.v] w (SetTo (r.put f) 0 w) := by
  have hA := setWorld_below r p f w
  have HI := Lib.hid hi
  have HO := Lib.hid h
  have HF := Lib.hid hf
  have HT := Lib.hid ht
  have hl2 : ((r.fs.length : Int) == 6) = false := by simp; omega
  have hl3 : ¬ (r.fs.length : Int) = 6 := by omega
  clear ht
  clear hi h hf
  go_enter Tryd.func7, Tryd.ntmps7
  go_wp2_with fail
  refine (recCheck_is r p _ (HI.out.below hA) (r.err_ok.2 HO.out)).mono ?_
  rintro e w1 ⟨rfl, hb1⟩
  have hB1 : Below w.heap.size w w1 := hA.trans (hb1.mono hA.size)
  have z1 : w.heap.size + 2 < w1.heap.size := by have := hb1.size; simp at this; omega
  have z2 : w.heap.size + 1 < w1.heap.size := by omega
  have z3 : w.heap.size < w1.heap.size := by omega
  obtain ⟨hc1, hf1⟩ := bcell hb1
  go_wp2_with fail
  refine (isField_is f _ HF.out).mono ?_
  rintro e w2 ⟨rfl, hb2⟩
  have hB2 : Below w.heap.size w w2 := hB1.trans (hb2.mono hB1.size)
  have y1 : w.heap.size + 2 < w2.heap.size := Nat.lt_of_lt_of_le z1 hb2.size
  have y2 : w.heap.size + 1 < w2.heap.size := by omega
  have y3 : w.heap.size < w2.heap.size := by omega
  obtain ⟨hc2, hf2⟩ := bcell hb2
  go_wp2_with fail
  refine (place_any p.fa r.fs p.fc f.key _ (HI.out.hf.below hB2) HO.out.nf (fOk_asc HO.out.fs)).mono ?_
  rintro e w3 ⟨rfl, hb3⟩
  have hB3 : Below w.heap.size w w3 := hB2.trans (hb3.mono hB2.size)
  have x1 : w.heap.size + 2 < w3.heap.size := Nat.lt_of_lt_of_le y1 hb3.size
  have x2 : w.heap.size + 1 < w3.heap.size := by omega
  have x3 : w.heap.size < w3.heap.size := by omega
  obtain ⟨hc3, hf3⟩ := bcell hb3
  have HP : Hid (SetPre r p f w w3) := {
    b := hB3, lt := x1
    a0 := by simp [hc3, hc2, hc1, y3, z3, go_sem]
    a1 := by simp [hc3, hc2, hc1, y3, z3, go_sem]
    a2 := by simp [hc3, hc2, hc1, y3, z3, go_sem]
    a3 := by simp [hc3, hc2, hc1, y3, z3, go_sem]
    a4 := by simp [hc3, hc2, hc1, y2, z2, go_sem]
    a5 := by simp [hc3, hc2, hc1, y2, z2, go_sem]
    b0 := by simp [hc3, hc2, hc1, y1, z1, go_sem]
    b1 := by simp [hc3, hc2, hc1, y1, z1, go_sem]
    b2 := by simp [hc3, hc2, hc1, y1, z1, go_sem]
    b3 := by simp [hc3, hc2, hc1, y1, z1, go_sem]
    f0 := fun o => by simp [hf3, hf2, hf1, y3, z3, go_sem]
    f2 := fun o => by simp [hf3, hf2, hf1, y1, z1, go_sem] }
  have a2 := HP.out.a2
  have a3 := HP.out.a3
  have hB3' := Lib.hid hB3
  clear hc1 hf1 hc2 hf2 hc3 hf3 hb1 hb2 hb3 z1 z2 z3 y1 y2 y3 hB1 hB2 hA hB3
  have HCF : Hid (∀ W, Below w3.heap.size w3 W → Calls Tryd.prog 26 #[.slice p.fa r.fs.length p.fc] W fun e w' => ∃ A c, e = .returned (.slice A r.fs.length c) ∧ OwnF w3.heap.size w' (.slice A r.fs.length c) r.fs ∧ Below w3.heap.size w3 w' ∧ Below W.heap.size W w') := fun W hW =>
    (cloneF_any p.fa r.fs p.fc W ((HI.out.hf.below hB3'.out).below hW) (by have := HO.out.nf; omega)).mono fun e w' ⟨A, c, h1, h2, h3⟩ => ⟨A, c, h1, own_low h2 hW.size, hW.trans (h3.mono hW.size), h3⟩
  have HCS : Hid (∀ W, Below w3.heap.size w3 W → Calls Tryd.prog 27 #[.slice p.ra r.rs.length p.rc] W fun e w' => ∃ A c, e = .returned (.slice A r.rs.length c) ∧ OwnS w3.heap.size w' (.slice A r.rs.length c) r.rs ∧ Below w3.heap.size w3 w' ∧ Below W.heap.size W w') := fun W hW =>
    (cloneS_any p.ra r.rs p.rc W ((HI.out.hr.below hB3'.out).below hW) (by have := HO.out.nr; omega)).mono fun e w' ⟨A, c, h1, h2, h3⟩ => ⟨A, c, h1, own_low h2 hW.size, hW.trans (h3.mono hW.size), h3⟩
  have hS0 : Hid (∀ W, Below w3.heap.size w3 W → W.cell? ⟨w.heap.size, 2, none⟩ = some (.slice p.fa r.fs.length p.fc) ∧ W.cell? ⟨w.heap.size, 3, none⟩ = some (.slice p.ra r.rs.length p.rc) ∧ W.frozen? ⟨w.heap.size, 2, none⟩ = false ∧ W.frozen? ⟨w.heap.size, 3, none⟩ = false) := fun W hW =>
    ⟨(hW.cell (p := ⟨w.heap.size, 2, none⟩) x3).trans a2, (hW.cell (p := ⟨w.heap.size, 3, none⟩) x3).trans a3, (hW.frozen (p := ⟨w.heap.size, 2, none⟩) x3).trans (HP.out.f0 2), (hW.frozen (p := ⟨w.heap.size, 3, none⟩) x3).trans (HP.out.f0 3)⟩
  rw [HT.out]
  go_upto_region 9 with (fail)
  go_cut [] from 36 to 43 (fun wc => SetMids r f w w3 wc)
  case first =>
    go_region_with (first
      | (go_at_call 26; refine (HCF.out _ (by first | exact (Below.refl _ _).drew | assumption | exact Below.drew (by assumption))).mono ?_; rintro e wf ⟨A, c, rfl, hown, hbf, hbg⟩; obtain ⟨q1, q2, q3, q4⟩ := hS0.out wf hbf)
      | (go_at_call 27; refine (HCS.out _ (by first | exact (Below.refl _ _).drew | assumption | exact Below.drew (by assumption))).mono ?_; rintro e ws ⟨A', c', rfl, howns, hbs, hbt⟩; obtain ⟨r1, r2, r3, r4⟩ := hS0.out ws hbs))
    all_goals
      go_wp2_with fail
      go_meet
    all_goals
      case rel => first
        | exact (HP.out.mid hbs (OwnF.below hown hbt) howns).1
        | exact (HP.out.mid hbs (OwnF.below hown hbt) howns).2
        | exact (HP.out.mid hbf hown (OwnS.below howns hbg)).1
        | exact (HP.out.mid hbf hown (OwnS.below howns hbg)).2
  case rest =>
    obtain ⟨A, A', c, c', hm⟩ := hcut
    have HM := Lib.hid hm
    obtain ⟨mb, mlt, mb1, ci, cc, cf, cr, mz, mk, mv, o0, o1, o2, o3, z0, own1, own2⟩ := hm
    have z00 := z0 0; have z01 := z0 1; have z02 := z0 2; have z03 := z0 3
    have HO1 := Lib.hid own1
    have HO2 := Lib.hid own2
    have HB := Lib.hid mb
    have HB1 := Lib.hid mb1
    clear own1 own2 hS0 HCF HCS a2 a3 x1 x2 x3 mb1 mb z0
    have hIl := (idx_spec f.key (fOk_asc HO.out.fs)).2
    have HIx : Hid (∃ I, I = idx r.fs f.key) := ⟨_, rfl⟩
    obtain ⟨I, hIe⟩ := HIx.out
    have HIe := Lib.hid hIe
    rw [← hIe] at hIl ⊢
    clear hIe HIx
    have HIL := Lib.hid hIl
    clear hIl
    have q0 : w.heap.size < wc.heap.size := by have := HB1.out; omega
    have q1 : w.heap.size + 1 < wc.heap.size := by have := HB1.out; omega
    have q2 : w.heap.size + 2 < wc.heap.size := by have := HB1.out; omega
    go_wp2_with fail
    refine (ins_any w3.heap.size A r.fs c wc.heap.size 1 I f _ (World.ownsRow.alloc HO1.out _) (by have := HB1.out; simp; omega) (by have := HO.out.nf; omega) (heap_alloc_new wc _) (fun g e => ?_) HIL.out).mono ?_
    · have := (World.ownsRow.lt HO1.out g (by rw [e]; rfl)).2
      omega
    rintro e w4 ⟨A2, c2, rfl, hown4, hb4, ho4⟩
    have HO4 := Lib.hid hown4
    have HH4 := Lib.hid ho4
    have HB4 := Lib.hid hb4
    have p0 : w.heap.size < w3.heap.size := by omega
    have p1 : w.heap.size + 1 < w3.heap.size := by omega
    have hc4 : ∀ b o, b < w3.heap.size → w4.cell? ⟨b, o, none⟩ = (wc.alloc (.cells #[.string f.key, .string f.val] 27)).cell? ⟨b, o, none⟩ := fun b o h => hb4.cell (p := ⟨b, o, none⟩) h
    have hf4 : ∀ b o, b < w3.heap.size → w4.frozen? ⟨b, o, none⟩ = (wc.alloc (.cells #[.string f.key, .string f.val] 27)).frozen? ⟨b, o, none⟩ := fun b o h => hb4.frozen (p := ⟨b, o, none⟩) h
    have d0 : w4.cell? ⟨w.heap.size, 0, none⟩ = some (.string r.id) := by rw [hc4 _ _ p0]; simp [go_sem, ci, q0]
    have d1 : w4.cell? ⟨w.heap.size, 1, none⟩ = some (.int .i64 r.cats) := by rw [hc4 _ _ p0]; simp [go_sem, cc, q0]
    have d2 : w4.cell? ⟨w.heap.size, 2, none⟩ = some (.slice A r.fs.length c) := by rw [hc4 _ _ p0]; simp [go_sem, cf, q0]
    have d3 : w4.cell? ⟨w.heap.size, 3, none⟩ = some (.slice A' r.rs.length c') := by rw [hc4 _ _ p0]; simp [go_sem, cr, q0]
    have d4 : w4.frozen? ⟨w.heap.size, 2, none⟩ = false := by rw [hf4 _ _ p0]; simp [go_sem, mz, q0]
    have e0 : w4.cell? ⟨w.heap.size + 2, 0, none⟩ = some (.string ⟨#[]⟩) := by rw [hc4 _ _ mlt]; simp [go_sem, o0, q2]
    have e1 : w4.cell? ⟨w.heap.size + 2, 1, none⟩ = some (.int .i64 0) := by rw [hc4 _ _ mlt]; simp [go_sem, o1, q2]
    have e2 : w4.cell? ⟨w.heap.size + 2, 2, none⟩ = some (.slice none 0 0) := by rw [hc4 _ _ mlt]; simp [go_sem, o2, q2]
    have e3 : w4.cell? ⟨w.heap.size + 2, 3, none⟩ = some (.slice none 0 0) := by rw [hc4 _ _ mlt]; simp [go_sem, o3, q2]
    have g0 : w4.frozen? ⟨w.heap.size + 2, 0, none⟩ = false := by rw [hf4 _ _ mlt]; simp [go_sem, z00, q2]
    have g1 : w4.frozen? ⟨w.heap.size + 2, 1, none⟩ = false := by rw [hf4 _ _ mlt]; simp [go_sem, z01, q2]
    have g2 : w4.frozen? ⟨w.heap.size + 2, 2, none⟩ = false := by rw [hf4 _ _ mlt]; simp [go_sem, z02, q2]
    have g3 : w4.frozen? ⟨w.heap.size + 2, 3, none⟩ = false := by rw [hf4 _ _ mlt]; simp [go_sem, z03, q2]
    have hlen : (insF r.fs I f).length = (r.put f).fs.length := by
      rw [HIe.out]
      show _ = (setFs r.fs f).length
      rw [setFs_new (fOk_asc HO.out.fs) HT.out]
      rfl
    have hset : insF r.fs I f = (r.put f).fs := by
      rw [HIe.out]
      exact (setFs_new (fOk_asc HO.out.fs) HT.out).symm
    have HS := Lib.hid hset
    clear hc4 hf4 hown4 ho4 hb4 ci cc cf cr mz mk mv o0 o1 o2 o3 z00 z01 z02 z03 hset
    rw [hlen]
    obtain ⟨N, hN⟩ : ∃ N, N = (r.put f).fs.length := ⟨_, rfl⟩
    have HNN := Lib.hid hN
    rw [← hN] at hlen ⊢
    have HLL := Lib.hid hlen
    clear hN hlen
    go_wp2_with fail
    refine bodyPost_ret (v := .tuple #[.agg #[.string r.id, .int .i64 r.cats, .slice A2 N c2, .slice A' r.rs.length c'], .int .i64 0]) (by simp [results, Tryd.results7, go_sem, d0, d1, d2, d3, e0, e1, e2, e3]) rfl ⟨⟨A2, c2, A', c'⟩, ?_, ?_, ⟨fun b off e => by have := (World.ownsRow.lt HO4.out b (by rw [show A2 = _ from e]; rfl)).1; omega, fun b off e => by have := (World.ownsRow.lt HO2.out b (by rw [show A' = _ from e]; rfl)).1; omega⟩, ?_⟩
    · show Ending.returned (.tuple #[.agg #[.string r.id, .int .i64 r.cats, .slice A2 N c2, .slice A' r.rs.length c'], .int .i64 0]) = Ending.returned (.tuple #[.agg #[.string r.id, .int .i64 r.cats, .slice A2 (r.put f).fs.length c2, .slice A' r.rs.length c'], .int .i64 0])
      rw [HNN.out]
    · have hs1 := HO4.out.sl.1
      rw [HS.out] at hs1
      have hs2 := HO2.out.sl
      have hs3 : SlS w4 A' r.rs := by
        intro k s hk
        obtain ⟨b, off, e, hcl⟩ := hs2.1 k s hk
        have hbl := cell_lt hcl
        refine ⟨b, off, e, ?_⟩
        have hne : A ≠ some ⟨b, 0, none⟩ := fun e' => OwnF.apart HO1.out HO2.out e' e
        rw [World.cell?_of_block (w := wc) ((HH4.out b (by simp; omega) hne).trans (Below.heap_alloc wc _ b hbl))]
        exact hcl
      have hA2 : ∀ b off, A2 = some ⟨b, off, none⟩ → w3.heap.size ≤ b := fun b off e => (World.ownsRow.lt HO4.out b (by rw [e]; rfl)).1
      have hA' : ∀ b off, A' = some ⟨b, off, none⟩ → w3.heap.size ≤ b := fun b off e => (World.ownsRow.lt HO2.out b (by rw [e]; rfl)).1
      have far2 : ∀ b off, A2 = some ⟨b, off, none⟩ → b ≠ w.heap.size + 2 := fun b off e => by have := hA2 b off e; omega
      have far1 : ∀ b off, A2 = some ⟨b, off, none⟩ → b ≠ w.heap.size := fun b off e => by have := hA2 b off e; omega
      have fbr2 : ∀ b off, A' = some ⟨b, off, none⟩ → b ≠ w.heap.size + 2 := fun b off e => by have := hA' b off e; omega
      have fbr1 : ∀ b off, A' = some ⟨b, off, none⟩ → b ≠ w.heap.size := fun b off e => by have := hA' b off e; omega
      have hl4 := HO4.out.sl.2
      rw [HS.out] at hl4
      exact ⟨((((hs1.far far1 _).far far2 _).far far2 _).far far2 _).far far2 _, ((((hs3.far fbr1 _).far fbr2 _).far fbr2 _).far fbr2 _).far fbr2 _, hl4.1, hs2.2.1, hl4.2, hs2.2.2⟩
    · have hb : Below w.heap.size w w4 := (HB.out.alloc HB.out.size _).trans (HB4.out.mono (by omega))
      have h2' : w.heap.size ≤ w.heap.size + 1 + 1 := by omega
      exact ((((hb.setCell (Nat.le_refl _) _).setCell h2' _).setCell h2' _).setCell h2' _).setCell h2' _

/-- P18 in one -/
theorem set_any (r : RecL) (p : At) (f : FieldL) (w : World) (hi : r.in_ p w) :
    Calls Tryd.prog 7 #[r.v p, f.v] w (SetTo (r.setRec f) (r.setErr f) w) := by
  by_cases h : r.err = 0
  · have ho := r.err_ok.1 h
    by_cases hf : isFd f = true
    · cases ht : there r.fs f.key with
      | true =>
        have h0 : r.setErr f = 0 := RecL.setErr_ok.2 ⟨ho, hf, fun k => by rw [ht] at k; cases k.1⟩
        unfold RecL.setRec
        rw [if_pos h0, h0]
        obtain ⟨g, hg, hk⟩ := (there_iff (fOk_asc ho.fs)).1 ht
        exact set_there r p f w hi ho hf g hg hk
      | false =>
        by_cases hl : r.fs.length = 6
        · have h2 : r.setErr f = 2 := by
            unfold RecL.setErr
            rw [if_neg (fun k => k h), if_neg (by rw [hf]; simp), if_pos ⟨ht, hl⟩]
          unfold RecL.setRec
          rw [if_neg (by rw [h2]; decide), h2]
          exact set_full r p f w hi ho hf ht hl
        · have h0 : r.setErr f = 0 := RecL.setErr_ok.2 ⟨ho, hf, fun k => hl k.2⟩
          unfold RecL.setRec
          rw [if_pos h0, h0]
          exact set_new r p f w hi ho hf ht hl
    · have hf : isFd f = false := by simpa using hf
      have h3 : r.setErr f = 3 := by
        unfold RecL.setErr
        rw [if_neg (fun k => k h), if_pos hf]
      unfold RecL.setRec
      rw [if_neg (by rw [h3]; decide), h3]
      exact set_form r p f w hi ho hf
  · have h1 : r.setErr f = r.err := by
      unfold RecL.setErr
      rw [if_pos h]
    unfold RecL.setRec
    rw [if_neg (by rw [h1]; exact h), h1]
    exact set_err r p f w hi h
theorem set_is {q : RecL} {n : Int} (r : RecL) (p : At) (f : FieldL) (w : World) (hi : r.in_ p w) (h1 : r.setRec f = q) (h2 : r.setErr f = n) :
    Calls Tryd.prog 7 #[r.v p, f.v] w (SetTo q n w) := by
  subst h1 h2
  exact set_any r p f w hi
end Go.Proofs.YtdnjboopaagleaaDoor
