/- Contracts of with, Put, Cut. -/
import Derived.Test.YteimdhkajbldjaaGreatSChosen
set_option linter.unusedVariables false
set_option linter.unusedSimpArgs false
set_option maxRecDepth 100000
namespace Go.Proofs.YteimdhkajbldjaaGreat
open Go.RowKit Go.Sort Go.Maps

set_option maxHeartbeats 400000 in
theorem yes_any (x : PV) (w : World) : Calls Tryz.prog 135 #[x.val] w fun e w' => e = .returned (.bool true) ∧ Below w.heap.size w w' := by
  go_enter Tryz.func135, Tryz.ntmps135
  go_wp2_with fail
  go_ret
  exact ⟨rfl, by go_grown⟩

theorem filter_true {α : Type} (l : List α) : l.filter (fun _ => true) = l := by rw [List.filter_eq_self]; exact fun _ _ => rfl

/-- a copy of all -/
theorem all_any (a : Option Addr) (l : List PV) (c : Nat) (w : World) (hs : SlW w a l) (hn : l.length ≤ 5120) (hok : ∀ x ∈ l, x.v.r.fs.length ≤ 6 ∧ x.v.r.rs.length ≤ 4) :
    Calls Tryz.prog 94 #[.slice a l.length c, .func (.func 135) #[] #[]] w (ChosenTo (l.map (·.v)) w) := by
  have := chosenAll (fun _ => true) a l c w hs hn hok (fun W x _ _ => yes_any x W)
  rwa [filter_true] at this

abbrev WithS (x : PV) (w w' : World) : Prop := Below w.heap.size w w' ∧ w'.cell? ⟨w.heap.size + 1, 0, none⟩ = some (.string x.v.r.id) ∧ w'.cell? ⟨w.heap.size + 1, 1, none⟩ = some (.int .i64 x.v.r.cats) ∧
      w'.cell? ⟨w.heap.size + 1, 2, none⟩ = some (.slice x.p.fa x.v.r.fs.length x.p.fc) ∧ w'.cell? ⟨w.heap.size + 1, 3, none⟩ = some (.slice x.p.ra x.v.r.rs.length x.p.rc) ∧ w'.cell? ⟨w.heap.size + 1, 4, none⟩ = some (.bool x.v.gone)
theorem with_keep {x : PV} {w w3 w4 : World} (hb : Below w3.heap.size w3 w4) (h : WithS x w w3) : WithS x w w4 := by
  obtain ⟨h, h1, h2, h3, h4, h5⟩ := h
  obtain ⟨hc, _⟩ := bcell hb
  exact ⟨h.trans (hb.mono h.size), (hc _ _ (cell_lt h1)).trans h1, (hc _ _ (cell_lt h1)).trans h2, (hc _ _ (cell_lt h1)).trans h3, (hc _ _ (cell_lt h1)).trans h4, (hc _ _ (cell_lt h1)).trans h5⟩
theorem with_alloc {x : PV} {w w3 : World} {o : Obj} (h : WithS x w w3) : WithS x w (w3.alloc o) := with_keep ((Below.refl _ _).alloc (Nat.le_refl _) _) h

/-- rows and versions that are new, at whatever world -/
structure RowAll (B : Nat) (w : World) (v : Value) (q : List PV) : Prop where
  row : RowV B w v q
  all : AllNew B w q
theorem RowAll.below {B : Nat} {w w' : World} {v : Value} {q : List PV} (h : RowAll B w v q) (hb : Below w.heap.size w w') : RowAll B w' v q := ⟨h.row.below hb, h.all.below hb⟩
structure OneAll (B : Nat) (w : World) (y : PV) : Prop where
  one : NewRec B w y.v.r y.p
theorem OneAll.below {B : Nat} {w w' : World} {y : PV} (h : OneAll B w y) (hb : Below w.heap.size w w') : OneAll B w' y := ⟨h.one.below hb⟩
/-- the new version lies in a block of its own -/
structure Laid (g : Nat) (w : World) (y : PV) : Prop where
  at_ : ∀ j u, (cellsV [y])[j]? = some u → w.cell? ((⟨g, 0, none⟩ : Addr).add j) = some u
theorem Laid.new (w : World) (y : PV) : Laid w.heap.size (y.box w) y := ⟨cell_five_new w y _⟩
theorem Laid.below {g : Nat} {w w' : World} {y : PV} (h : Laid g w y) (hb : Below w.heap.size w w') : Laid g w' y := ⟨fun j u hu => by
  have := h.at_ j u hu
  rw [addr_at] at this ⊢
  exact (hb.cell (p := ⟨g, j, none⟩) (cell_lt this)).trans this⟩

theorem RowAll.of {x : PV} {w W wc : World} {v : Value} {q : List PV} (hS : WithS x w W) (hr : RowV W.heap.size wc v q) (ha : AllNew W.heap.size wc q) : RowAll w.heap.size wc v q :=
  ⟨own_low hr hS.1.size, ha.low hS.1.size⟩
theorem OneAll.of {x : PV} {w W wc : World} {y : PV} (hS : WithS x w W) (hr : NewRec W.heap.size wc y.v.r y.p) : OneAll w.heap.size wc y := ⟨hr.low hS.1.size⟩
theorem ba {W : World} {o : Obj} : Below W.heap.size W (W.alloc o) := (Below.refl _ _).alloc (Nat.le_refl _) _

def AllTo (n : Nat) (vs : List VerL) (w : World) (e : Ending) (w' : World) : Prop := ∃ A c q, e = .returned (.slice A n c) ∧ q.length = n ∧ q.map (·.v) = vs ∧ RowV w.heap.size w' (.slice A n c) q ∧ AllNew w.heap.size w' q ∧ Below w.heap.size w w'
theorem all_to {n : Nat} (a : Option Addr) (l : List PV) (c : Nat) (w : World) (hs : SlW w a l) (hn : l.length ≤ 5120) (hok : ∀ x ∈ l, x.v.r.fs.length ≤ 6 ∧ x.v.r.rs.length ≤ 4) (h : l.length = n) :
    Calls Tryz.prog 94 #[.slice a n c, .func (.func 135) #[] #[]] w (AllTo n (l.map (·.v)) w) := by
  subst h
  refine (all_any a l c w hs hn hok).mono fun e w' h => ?_
  obtain ⟨A, c', he, ⟨q, hq, hr, ha⟩, hb⟩ := h
  have hl : q.length = l.length := by
    have := congrArg List.length hq
    rwa [List.length_map, List.length_map] at this
  rw [List.length_map] at he hr
  exact ⟨A, c', q, he, hl, hq, hr, ha, hb⟩

def WithTo (n : Nat) (vs : List VerL) (w : World) (e : Ending) (w' : World) : Prop := ∃ A c, e = .returned (.tuple #[.slice A (n + 1) c, .int .i64 0]) ∧ NewVs w.heap.size vs w' (.slice A (n + 1) c) ∧ Below w.heap.size w w'

structure WithFin (B : Nat) (x : PV) (w w9 : World) (v : Value) (q : List PV) : Prop where
  row : RowV B w9 v q
  all : AllNew w.heap.size w9 q
  b : Below w.heap.size w w9
  s : WithS x w w9
theorem with_fin {x : PV} {w w1 wc wy w9 : World} {A1 : Option Addr} {n c1 : Nat} {q : List PV} {p' : At} {v' : Value} (hs : WithS x w w1.drew) (h1 : w.heap.size + 1 < w1.heap.size) (hbc : Below w1.heap.size w1 wc) (hby : Below wc.heap.size wc wy)
    (hr : RowV w1.heap.size wc (.slice A1 n c1) q) (ha : AllNew w1.heap.size wc q) (hn : NewRec wc.heap.size wy x.v.r p')
    (hown : w9.ownsRow w1.heap.size 55 5 v' (q.length + 1) (cellsV q ++ cellsV [(⟨x.v, p'⟩ : PV)])) (hg : (PV.box ⟨x.v, p'⟩ wy).grownBy w9 (Value.slice A1 n c1).ownBlock) : WithFin w.heap.size x w w9 v' (q ++ [⟨x.v, p'⟩]) := by
  have hw := hs.1
  have hbb : Below wy.heap.size wy (PV.box ⟨x.v, p'⟩ wy) := PV.box_below _ _
  have hb2 : Below w1.heap.size w1 (PV.box ⟨x.v, p'⟩ wy) := (hbc.trans (hby.mono hbc.size)).trans (hbb.mono (Nat.le_trans hbc.size hby.size))
  have hr2 : RowV w1.heap.size (PV.box ⟨x.v, p'⟩ wy) (.slice A1 n c1) q := (hr.below hby).below hbb
  have hb3 : Below w1.heap.size w1 w9 := hb2.grown hg hb2.size (fun j hj => ((World.ownsRow.lt hr2) j hj).1)
  have hb3' : Below w1.drew.heap.size w1.drew w9 := ⟨hb3.os, hb3.tape, hb3.output, hb3.size, hb3.block⟩
  have hww : w.heap.size ≤ w1.heap.size := by omega
  refine ⟨?_, ?_, hw.trans (hb3'.mono hw.size), with_keep hb3' hs⟩
  · unfold RowV
    rw [cellsV_append, List.length_append]
    exact own_low hown hww
  · have a1 : AllNew w.heap.size (PV.box ⟨x.v, p'⟩ wy) q := ((ha.below hby).below hbb).low hww
    have a2 : AllNew w.heap.size (PV.box ⟨x.v, p'⟩ wy) [(⟨x.v, p'⟩ : PV)] := AllNew.one ((hn.below hbb).low (by have := hbc.size; omega))
    exact (a1.append a2).grown hr2 hg

set_option maxHeartbeats 4000000 in
theorem with_ok {n b1 b2 k : Nat} {f : Int → Nat} {g : ByteArray → Int → Bool} (a : Option Addr) (l : List PV) (c : Nat) (x : PV) (w : World) (ht : Tally w b1 b2 k f g) (hs : SlW w a l) (hn : l.length ≤ 5120) (hok : ∀ x ∈ l, x.v.r.fs.length ≤ 6 ∧ x.v.r.rs.length ≤ 4)
    (hi : x.in_ w) (h6 : x.v.r.fs.length ≤ 6) (h4 : x.v.r.rs.length ≤ 4) (hc : (Lit.int .i64 x.v.r.cats).wf = true) (hf : f x.v.r.cats < 20) (hln : l.length = n) :
    Calls Tryz.prog 109 #[tallyV b1 b2, .slice a n c, x.val] w (WithTo n (l.map (·.v) ++ [x.v]) w) := by
  have hA : Below w.heap.size w ((w.alloc (.cells #[.map (some b1), .map (some b2)] 162)).alloc (.cells #[.string x.v.r.id, .int .i64 x.v.r.cats, .slice x.p.fa x.v.r.fs.length x.p.fc, .slice x.p.ra x.v.r.rs.length x.p.rc, .bool x.v.gone] 55)) := ((Below.refl _ _).alloc (Nat.le_refl _) _).alloc (by simp) _
  obtain ⟨i0, hi0, hz0, hz1, hz2⟩ := info_parts Tryz.infoVer
  have hn' := hn
  rw [hln] at hn'
  have HALL : Hid (∀ W, Below w.heap.size w W → Calls Tryz.prog 94 #[.slice a n c, .func (.func 135) #[] #[]] W (AllTo n (l.map (·.v)) W)) := fun W hW => all_to a l c W (hs.below hW) hn hok hln
  have HCP : Hid (∀ W, Below w.heap.size w W → Calls Tryz.prog 112 #[x.val] W (CopyTo x W)) := fun W hW => copy_any x W (hi.below hW) h6 h4
  obtain ⟨vs, hvs⟩ : ∃ vs, vs = l.map (·.v) := ⟨_, rfl⟩
  rw [← hvs] at HALL ⊢
  have HT := Lib.hid ht
  have HC := Lib.hid hc
  have HF := Lib.hid hf
  have HA := Lib.hid hA
  clear ht hs hok hi hc hf hA hln hn hvs h6 h4
  go_enter Tryz.func109, Tryz.ntmps109
  go_wp2_with fail
  refine (full_is x.v.r.cats _ (HT.out.below HA.out) HC.out (b := false) (by have := HF.out; simpa using this)).mono ?_
  rintro e w1 ⟨rfl, hb1, hz⟩
  have hs1 : w.heap.size + 1 < w1.heap.size := by simp at hz; omega
  obtain ⟨hc1, hf1⟩ := bcell hb1
  have a0 : w1.cell? ⟨w.heap.size + 1, 0, none⟩ = some (.string x.v.r.id) := by rw [hc1 _ _ (by simp)]; simp [go_sem]
  have a1 : w1.cell? ⟨w.heap.size + 1, 1, none⟩ = some (.int .i64 x.v.r.cats) := by rw [hc1 _ _ (by simp)]; simp [go_sem]
  have a2 : w1.cell? ⟨w.heap.size + 1, 2, none⟩ = some (.slice x.p.fa x.v.r.fs.length x.p.fc) := by rw [hc1 _ _ (by simp)]; simp [go_sem]
  have a3 : w1.cell? ⟨w.heap.size + 1, 3, none⟩ = some (.slice x.p.ra x.v.r.rs.length x.p.rc) := by rw [hc1 _ _ (by simp)]; simp [go_sem]
  have a4 : w1.cell? ⟨w.heap.size + 1, 4, none⟩ = some (.bool x.v.gone) := by rw [hc1 _ _ (by simp)]; simp [go_sem]
  have hB1 : Below w.heap.size w w1 := HA.out.trans (hb1.mono HA.out.size)
  have hB1d : Below w.heap.size w w1.drew := ⟨hB1.os, hB1.tape, hB1.output, hB1.size, hB1.block⟩
  clear hb1 hz hc1 hf1
  go_wp2_with fail
  have HST : WithS x w w1.drew := ⟨hB1d, a0, a1, a2, a3, a4⟩
  clear a0 a1 a2 a3 a4 hB1 hB1d
  go_region_held3 (fun w' => Below w.heap.size w w' ∧ w'.cell? ⟨w.heap.size + 1, 0, none⟩ = some (.string x.v.r.id) ∧ w'.cell? ⟨w.heap.size + 1, 1, none⟩ = some (.int .i64 x.v.r.cats) ∧
      w'.cell? ⟨w.heap.size + 1, 2, none⟩ = some (.slice x.p.fa x.v.r.fs.length x.p.fc) ∧ w'.cell? ⟨w.heap.size + 1, 3, none⟩ = some (.slice x.p.ra x.v.r.rs.length x.p.rc) ∧ w'.cell? ⟨w.heap.size + 1, 4, none⟩ = some (.bool x.v.gone)) (first | exact HSL | exact with_alloc HSY | exact HSY | exact HSC | exact HST)
    (first
      | (go_at_call 94; refine (HALL.out _ (And.left (by assumption))).mono ?_; rintro e wc ⟨A1, c1, q, rfl, hql, hqv, hr, ha, hbc⟩; have HSC := with_keep hbc HST; have HQL := Lib.hid hql; have HQV := Lib.hid hqv; have HBC := Lib.hid (show Below w1.heap.size w1 wc from ⟨hbc.os, hbc.tape, hbc.output, hbc.size, hbc.block⟩); have HR := Lib.hid (show RowV w1.heap.size wc (.slice A1 n c1) q from hr); have HAN := Lib.hid (show AllNew w1.heap.size wc q from ha); clear hql hqv hr ha)
      | (go_at_call 112; refine (HCP.out _ (And.left (by assumption))).mono ?_; rintro e wy ⟨p', rfl, hnr, hby⟩; have HSY := with_keep hby HSC; have HNR := Lib.hid hnr; have HBY := Lib.hid hby; clear hnr)
      | (refine step_append_lies _ (by rfl) (.tmp 14) (.tmp 17) 45 (by rfl) w1.heap.size 55 i0 _ 5 80 Tryz.underlying45 hi0 hz0 hz1 hz2 (by rfl) (by decide) (.slice A1 n c1) q.length (cellsV q) (by rfl) ((HR.out.below HBY.out).below ba) ⟨_, 0, none⟩ 1 1 (cellsV [(⟨x.v, p'⟩ : PV)]) (by rfl) rfl (cell_five_new _ (⟨x.v, p'⟩ : PV) _) (cellsV_one _) (by decide) (by have := HQL.out; unfold maxLen; omega) (by have := HQL.out; omega) (Nat.le_trans (Nat.le_trans HBC.out.size HBY.out.size) (World.size_alloc _ _ ▸ Nat.le_succ _)) _ rfl ?_; intro g cap w9 hown hgrow hat hlt; have HFIN := Lib.hid (with_fin HST hs1 HBC.out HBY.out HR.out HAN.out HNR.out hown hgrow); have HSL := HFIN.out.s; clear hown hgrow hat hlt))
  all_goals
    go_wp2_with fail
    go_ret2
    obtain ⟨f1, f2, f3, _⟩ := HFIN.out
    rw [HQL.out] at f1
    refine ⟨some ⟨g, 0, none⟩, cap, (by rw [HQL.out]; rfl), ⟨q ++ [⟨x.v, p'⟩], ?_, ?_, f2⟩, f3⟩
    · rw [List.map_append, HQV.out]
      rfl
    · exact own_low f1 (Nat.le_refl _)
end Go.Proofs.YteimdhkajbldjaaGreat
