/- The contract of RecordOrder's second closure: fields set one after another. -/
import Derived.Test.YtdnjboopaagleaaDoorRSet
import Derived.Test.YtdnjboopaagleaaDoorROrdMath
set_option linter.unusedVariables false
set_option linter.unusedSimpArgs false
set_option maxRecDepth 100000
namespace Go.Proofs.YtdnjboopaagleaaDoor
open Go.RowKit Go.Sort

def MadeTo (l : List FieldL) (w : World) (e : Ending) (w' : World) : Prop := ∃ p' : At, e = .returned (.tuple #[(recOf l).v p', .bool true]) ∧ (recOf l).in_ p' w' ∧ Below w.heap.size w w' ∧ p'.from_ w.heap.size

/-- what is known in the loop: where the record lies, and where the result -/
structure MadePre (R : RecL) (p : At) (w W : World) : Prop where
  b : Below w.heap.size w W
  lt : w.heap.size + 1 < W.heap.size
  o0 : W.cell? ⟨w.heap.size, 0, none⟩ = some (.string ⟨#[]⟩)
  o1 : W.cell? ⟨w.heap.size, 1, none⟩ = some (.int .i64 0)
  o2 : W.cell? ⟨w.heap.size, 2, none⟩ = some (.slice none 0 0)
  o3 : W.cell? ⟨w.heap.size, 3, none⟩ = some (.slice none 0 0)
  z0 : ∀ o, W.frozen? ⟨w.heap.size, o, none⟩ = false
  c0 : W.cell? ⟨w.heap.size + 1, 0, none⟩ = some (.string R.id)
  c1 : W.cell? ⟨w.heap.size + 1, 1, none⟩ = some (.int .i64 R.cats)
  c2 : W.cell? ⟨w.heap.size + 1, 2, none⟩ = some (.slice p.fa R.fs.length p.fc)
  c3 : W.cell? ⟨w.heap.size + 1, 3, none⟩ = some (.slice p.ra R.rs.length p.rc)
  z1 : ∀ o, W.frozen? ⟨w.heap.size + 1, o, none⟩ = false
  i : R.in_ p W
  far : p.from_ (w.heap.size + 2)

/-- the record is stored anew -/
theorem MadePre.store {R R' : RecL} {p p' : At} {w W W' : World} (h : MadePre R p w W) (hB : Below W.heap.size W W') (hi : R'.in_ p' W') (hf : p'.from_ W.heap.size) :
    MadePre R' p' w ((((W'.setCell ⟨w.heap.size + 1, 0, none⟩ (.string R'.id)).setCell ⟨w.heap.size + 1, 1, none⟩ (.int .i64 R'.cats)).setCell ⟨w.heap.size + 1, 2, none⟩ (.slice p'.fa R'.fs.length p'.fc)).setCell ⟨w.heap.size + 1, 3, none⟩ (.slice p'.ra R'.rs.length p'.rc)) := by
  have x1 := h.lt
  have x0 : w.heap.size < W.heap.size := by omega
  obtain ⟨hc, hz⟩ := bcell hB
  have hBB := h.b.trans (hB.mono h.b.size)
  have a0 := (hc _ 0 x0).trans h.o0
  have a1 := (hc _ 1 x0).trans h.o1
  have a2 := (hc _ 2 x0).trans h.o2
  have a3 := (hc _ 3 x0).trans h.o3
  have b0 := (hc _ 0 x1).trans h.c0
  have b1 := (hc _ 1 x1).trans h.c1
  have b2 := (hc _ 2 x1).trans h.c2
  have b3 := (hc _ 3 x1).trans h.c3
  have f0 : ∀ o, W'.frozen? ⟨w.heap.size, o, none⟩ = false := fun o => (hz _ o x0).trans (h.z0 o)
  have f1 : ∀ o, W'.frozen? ⟨w.heap.size + 1, o, none⟩ = false := fun o => (hz _ o x1).trans (h.z1 o)
  have hsz := hB.size
  have hle : w.heap.size ≤ w.heap.size + 1 := by omega
  have n1 : ∀ b off, p'.fa = some ⟨b, off, none⟩ → b ≠ w.heap.size + 1 := fun b off e => by have := hf.1 b off e; omega
  have n2 : ∀ b off, p'.ra = some ⟨b, off, none⟩ → b ≠ w.heap.size + 1 := fun b off e => by have := hf.2 b off e; omega
  exact {
    b := (((hBB.setCell hle _).setCell hle _).setCell hle _).setCell hle _
    lt := by simpa [World.setCell] using (show w.heap.size + 1 < W'.heap.size by omega)
    o0 := by simp [a0, go_sem]
    o1 := by simp [a1, go_sem]
    o2 := by simp [a2, go_sem]
    o3 := by simp [a3, go_sem]
    z0 := fun o => by simp [f0, go_sem]
    c0 := by simp [b0, go_sem]
    c1 := by simp [b1, go_sem]
    c2 := by simp [b2, go_sem]
    c3 := by simp [b3, go_sem]
    z1 := fun o => by simp [f1, go_sem]
    i := ⟨(((hi.hf.far n1 _).far n1 _).far n1 _).far n1 _, (((hi.hr.far n2 _).far n2 _).far n2 _).far n2 _, hi.fl, hi.rl, hi.fm, hi.rm⟩
    far := ⟨fun b off e => by have := hf.1 b off e; omega, fun b off e => by have := hf.2 b off e; omega⟩ }
theorem MadePre.below {R : RecL} {p : At} {w W W' : World} (h : MadePre R p w W) (hB : Below W.heap.size W W') : MadePre R p w W' := by
  have x1 := h.lt
  have x0 : w.heap.size < W.heap.size := by omega
  obtain ⟨hc, hz⟩ := bcell hB
  exact ⟨h.b.trans (hB.mono h.b.size), Nat.lt_of_lt_of_le x1 hB.size, (hc _ _ x0).trans h.o0, (hc _ _ x0).trans h.o1, (hc _ _ x0).trans h.o2, (hc _ _ x0).trans h.o3, fun o => (hz _ o x0).trans (h.z0 o),
    (hc _ _ x1).trans h.c0, (hc _ _ x1).trans h.c1, (hc _ _ x1).trans h.c2, (hc _ _ x1).trans h.c3, fun o => (hz _ o x1).trans (h.z1 o), h.i.below hB, h.far⟩

set_option maxHeartbeats 4000000 in
theorem made_any (a : Option Addr) (l : List FieldL) (c : Nat) (w : World) (hs : SlF w a l) (hl : Fresh l) :
    Calls Tryd.prog 22 #[.slice a l.length c] w (MadeTo l w) := by
  have HS := Lib.hid hs
  have HL := Lib.hid hl
  have n6 := hl.le
  clear hs hl
  go_enter Tryd.func22, Tryd.ntmps22
  go_wp2_with fail
  go_loopw [11] (fun i wr => ∃ (k : Nat) (p : At), k ≤ l.length ∧ i = .int .i64 k ∧ Hid (MadePre (recOf (l.take k)) p w wr)) (fun i _ => l.length - (intOf i).toNat)
  case atStart =>
    refine ⟨0, At.none, Nat.zero_le _, rfl, ?_⟩
    show MadePre (recOf []) At.none w _
    exact {
      b := ((Below.refl _ _).alloc (Nat.le_refl _) _).alloc (by simp) _
      lt := by simp
      o0 := by simp [go_sem]
      o1 := by simp [go_sem]
      o2 := by simp [go_sem]
      o3 := by simp [go_sem]
      z0 := fun o => by simp [go_sem]
      c0 := by simp [go_sem, recOf]
      c1 := by simp [go_sem, recOf]
      c2 := by simp [go_sem, recOf, setAll, At.none]
      c3 := by simp [go_sem, recOf, At.none]
      z1 := fun o => by simp [go_sem]
      i := ⟨SlF.nil _ _, SlS.nil _ _, Nat.le_refl _, Nat.le_refl _, Nat.zero_le _, Nat.zero_le _⟩
      far := At.none_from _ }
  case round =>
    obtain ⟨k, p, hk, rfl, HM⟩ := hrel
    by_cases hlt : k < l.length
    · obtain ⟨f, hf⟩ : ∃ f, l[k]? = some f := ⟨_, List.getElem?_eq_getElem hlt⟩
      obtain ⟨b, off, rfl, d1, d2⟩ := (HS.out.below HM.out.b) k f hf
      have hsn : l.take (k + 1) = l.take k ++ [f] := by rw [List.take_add_one, hf]; rfl
      have hset := recOf_set (l := l.take k) (f := f) (by rw [← hsn]; exact HL.out.take _)
      rw [← hsn] at hset
      have HSET := Lib.hid hset
      clear hf hsn hset
      have c0 := HM.out.c0
      have c1 := HM.out.c1
      have c2 := HM.out.c2
      have c3 := HM.out.c3
      have hlw := HM.out.lt
      have HM1 := Lib.hid (HM.out.below ((Below.refl _ _).alloc (Nat.le_refl _) (.cells #[.string f.key, .string f.val] 27)))
      obtain ⟨R, hR⟩ : ∃ R, R = recOf (l.take k) := ⟨_, rfl⟩
      rw [← hR] at HSET HM1 c0 c1 c2 c3
      clear hR
      obtain ⟨R', hR'⟩ : ∃ R', R' = recOf (l.take (k + 1)) := ⟨_, rfl⟩
      have HR' := Lib.hid hR'
      rw [← hR'] at HSET
      clear hR' HM
      go_wp2_with fail
      refine (set_is R p f _ HM1.out.i HSET.out.2 HSET.out.1).mono ?_
      rintro e w2 ⟨p2, rfl, hi2, hf2, hb2⟩
      have HST := Lib.hid (HM1.out.store hb2 hi2 hf2)
      obtain ⟨hc2, hz2⟩ := bcell hb2
      have x1 := HM1.out.lt
      have e0 := (hc2 _ 0 x1).trans HM1.out.c0
      have e1 := (hc2 _ 1 x1).trans HM1.out.c1
      have e2 := (hc2 _ 2 x1).trans HM1.out.c2
      have e3 := (hc2 _ 3 x1).trans HM1.out.c3
      have g0 := (hz2 _ 0 x1).trans (HM1.out.z1 0)
      have g1 := (hz2 _ 1 x1).trans (HM1.out.z1 1)
      have g2 := (hz2 _ 2 x1).trans (HM1.out.z1 2)
      have g3 := (hz2 _ 3 x1).trans (HM1.out.z1 3)
      clear c0 c1 c2 c3 hc2 hz2 hb2 hi2 hf2 d1 d2 x1
      go_wp2_with fail
      go_roundw
      case rel => exact ⟨k + 1, p2, by omega, by go_num, HR'.out ▸ HST.out⟩
      case measure => simp [intOf]; omega
    · obtain rfl : k = l.length := by omega
      rw [List.take_length] at HM
      obtain ⟨R, hR⟩ : ∃ R, R = recOf l := ⟨_, rfl⟩
      have HR := Lib.hid hR
      rw [← hR] at HM
      clear hR
      obtain ⟨mb, mlt, o0, o1, o2, o3, z0, c0, c1, c2, c3, z1, mi, mf⟩ := HM.out
      have z00 := z0 0; have z01 := z0 1; have z02 := z0 2; have z03 := z0 3
      have mb' := mb
      clear z0 z1 mi mf mb
      have hn : w.heap.size ≠ w.heap.size + 1 := by omega
      go_wp2_with fail
      refine bodyPost_ret (v := .tuple #[R.v p, .bool true]) (by simp [results, Tryd.results22, go_sem, o0, o1, o2, o3, z00, z01, z02, z03]) rfl ?_
      unfold MadeTo
      rw [← HR.out]
      have h2 : w.heap.size ≤ w.heap.size := Nat.le_refl _
      have hm1 : ∀ b off, p.fa = some ⟨b, off, none⟩ → b ≠ w.heap.size := fun b off e => by have := HM.out.far.1 b off e; omega
      have hm2 : ∀ b off, p.ra = some ⟨b, off, none⟩ → b ≠ w.heap.size := fun b off e => by have := HM.out.far.2 b off e; omega
      have hi := HM.out.i
      exact ⟨p, rfl, ⟨(((hi.hf.far hm1 _).far hm1 _).far hm1 _).far hm1 _, (((hi.hr.far hm2 _).far hm2 _).far hm2 _).far hm2 _, hi.fl, hi.rl, hi.fm, hi.rm⟩, (((mb'.setCell h2 _).setCell h2 _).setCell h2 _).setCell h2 _, fun b off e => by have := HM.out.far.1 b off e; omega, fun b off e => by have := HM.out.far.2 b off e; omega⟩
end Go.Proofs.YtdnjboopaagleaaDoor
