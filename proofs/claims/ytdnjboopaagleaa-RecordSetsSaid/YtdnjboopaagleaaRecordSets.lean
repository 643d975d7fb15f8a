/- RecordSets: what was set is told, other fields are as they were: the walk. -/
import Derived.Test.YtdnjboopaagleaaRSet
import Derived.Test.YtdnjboopaagleaaRSetMath
import Derived.Test.YtdnjboopaagleaaRGet
import Derived.Test.YtdnjboopaagleaaREq
set_option linter.unusedVariables false
set_option linter.unusedSimpArgs false
namespace Go.Proofs.Ytdnjboopaagleaa
open Go.RowKit Go.Sort

theorem one_max : 1 ≤ maxLen := by unfold maxLen; omega
/-- the record that the law begins with -/
def sNone : RecL := ⟨⟨#[97]⟩, 0, [], []⟩
def sF : FieldL := ⟨⟨#[107]⟩, ⟨#[118]⟩⟩
theorem sNone_ok : sNone.Ok := ⟨by decide, by decide, by decide, by decide, by decide, fun i f hi => absurd hi (by simp [sNone]), fun i s hi => absurd hi (by simp [sNone])⟩
theorem sNone_set : sNone.setRec sF = ⟨⟨#[97]⟩, 0, [sF], []⟩ ∧ sNone.setErr sF = 0 := by
  have h : sNone.setErr sF = 0 := RecL.setErr_ok.2 ⟨sNone_ok, by decide, fun k => by cases k.2⟩
  exact ⟨RecL.setRec_ok h, h⟩

/-- Set, where it sets -/
def SetPut (r : RecL) (f : FieldL) (w : World) (e : Ending) (w' : World) : Prop := ∃ p' : At, e = .returned (.tuple #[.agg #[.string r.id, .int .i64 r.cats, .slice p'.fa (setFs r.fs f).length p'.fc, .slice p'.ra r.rs.length p'.rc], .int .i64 0]) ∧ (r.put f).in_ p' w' ∧ p'.from_ w.heap.size ∧ Below w.heap.size w w'
theorem set_put (r : RecL) (p : At) (f : FieldL) (w : World) (hi : r.in_ p w) (h : r.setErr f = 0) : Calls Try.prog 5 #[r.v p, f.v] w (SetPut r f w) :=
  (set_is (q := r.put f) (n := 0) r p f w hi (RecL.setRec_ok h) h).mono fun e w' ⟨p', h1, h2, h3, h4⟩ => ⟨p', h1, h2, h3, h4⟩
def SetPut2 (r : RecL) (f g : FieldL) (w : World) (e : Ending) (w' : World) : Prop := ∃ p' : At, e = .returned (.tuple #[.agg #[.string r.id, .int .i64 r.cats, .slice p'.fa (setFs (setFs r.fs f) g).length p'.fc, .slice p'.ra r.rs.length p'.rc], .int .i64 0]) ∧ ((r.put f).put g).in_ p' w' ∧ p'.from_ w.heap.size ∧ Below w.heap.size w w'
theorem set_put2 (r : RecL) (p : At) (f g : FieldL) (w : World) (hi : (r.put f).in_ p w) (h : (r.put f).setErr g = 0) : Calls Try.prog 5 #[(r.put f).v p, g.v] w (SetPut2 r f g w) :=
  (set_put (r.put f) p g w hi h).mono fun e w' ⟨p', h1, h2, h3, h4⟩ => ⟨p', h1, h2, h3, h4⟩
/-- .. and where it doesn't -/
def SetNo (n : Int) (w : World) (e : Ending) (w' : World) : Prop := e = .returned (.tuple #[.agg #[.string ⟨#[]⟩, .int .i64 0, .slice none 0 0, .slice none 0 0], .int .i64 n]) ∧ Below w.heap.size w w'
theorem zero_at {p : At} {w : World} (h : RecL.zero.in_ p w) : True := trivial

set_option maxHeartbeats 16000000 in
set_option maxRecDepth 100000 in
theorem recordSets_walk (r : RecL) (p : At) (f g : FieldL) (w : World) (hi : r.in_ p w) :
    Calls Try.prog 3 #[r.v p, f.v, g.v] w fun e w' => e = .returned (.bool true) ∧ Below w.heap.size w w' := by
  have hA : Below w.heap.size w (((r.box p w).alloc (.cells #[.string f.key, .string f.val] 27)).alloc (.cells #[.string g.key, .string g.val] 27)) := (((Below.refl _ _).alloc (Nat.le_refl _) _).alloc (by simp) _).alloc (by simp; omega) _
  have HI := Lib.hid hi
  clear hi
  go_enter Try.func3, Try.ntmps3
  go_wp2_with fail
  refine (set_is sNone ⟨none, 0, none, 0⟩ sF _ ⟨SlF.nil _ _, SlS.nil _ _, Nat.le_refl _, Nat.le_refl _, Nat.zero_le _, Nat.zero_le _⟩ sNone_set.1 sNone_set.2).mono ?_
  rintro e w1 ⟨p1, rfl, hi1, -, hb1⟩
  have hB1 : Below w.heap.size w w1 := hA.trans (hb1.mono hA.size)
  have lt_R_1 : w.heap.size < w1.heap.size := by have h := (hb1).size; first | omega | (simp at h; omega)
  have c_R_0_1 : w1.cell? ⟨w.heap.size, 0, none⟩ = some (.string r.id) := by rw [(hb1).cell (p := ⟨w.heap.size, 0, none⟩) (by first | omega | (simp; done) | (simp; omega))]; first | rfl | simp [go_sem]
  have c_R_1_1 : w1.cell? ⟨w.heap.size, 1, none⟩ = some (.int .i64 r.cats) := by rw [(hb1).cell (p := ⟨w.heap.size, 1, none⟩) (by first | omega | (simp; done) | (simp; omega))]; first | rfl | simp [go_sem]
  have c_R_2_1 : w1.cell? ⟨w.heap.size, 2, none⟩ = some (.slice p.fa r.fs.length p.fc) := by rw [(hb1).cell (p := ⟨w.heap.size, 2, none⟩) (by first | omega | (simp; done) | (simp; omega))]; first | rfl | simp [go_sem]
  have c_R_3_1 : w1.cell? ⟨w.heap.size, 3, none⟩ = some (.slice p.ra r.rs.length p.rc) := by rw [(hb1).cell (p := ⟨w.heap.size, 3, none⟩) (by first | omega | (simp; done) | (simp; omega))]; first | rfl | simp [go_sem]
  have lt_F_1 : w.heap.size + 1 < w1.heap.size := by have h := (hb1).size; first | omega | (simp at h; omega)
  have c_F_0_1 : w1.cell? ⟨w.heap.size + 1, 0, none⟩ = some (.string f.key) := by rw [(hb1).cell (p := ⟨w.heap.size + 1, 0, none⟩) (by first | omega | (simp; done) | (simp; omega))]; first | rfl | simp [go_sem]
  have c_F_1_1 : w1.cell? ⟨w.heap.size + 1, 1, none⟩ = some (.string f.val) := by rw [(hb1).cell (p := ⟨w.heap.size + 1, 1, none⟩) (by first | omega | (simp; done) | (simp; omega))]; first | rfl | simp [go_sem]
  have lt_G_1 : w.heap.size + 2 < w1.heap.size := by have h := (hb1).size; first | omega | (simp at h; omega)
  have c_G_0_1 : w1.cell? ⟨w.heap.size + 2, 0, none⟩ = some (.string g.key) := by rw [(hb1).cell (p := ⟨w.heap.size + 2, 0, none⟩) (by first | omega | (simp; done) | (simp; omega))]; first | rfl | simp [go_sem]
  have c_G_1_1 : w1.cell? ⟨w.heap.size + 2, 1, none⟩ = some (.string g.val) := by rw [(hb1).cell (p := ⟨w.heap.size + 2, 1, none⟩) (by first | omega | (simp; done) | (simp; omega))]; first | rfl | simp [go_sem]
  have HI1 := Lib.hid hi1
  clear hi1
  go_wp2_with fail
  have hB1a : Below w.heap.size w ((w1.alloc (.cells #[.string ⟨#[97]⟩, .int .i64 0, .slice p1.fa 1 p1.fc, .slice p1.ra 0 p1.rc] 25)).alloc (.cells #[.string ⟨#[107]⟩, .string ⟨#[118]⟩] 27)) := (hB1.alloc hB1.size _).alloc (by have := hB1.size; simp; omega) _
  have hs1 : SlF ((w1.alloc (.cells #[.string ⟨#[97]⟩, .int .i64 0, .slice p1.fa 1 p1.fc, .slice p1.ra 0 p1.rc] 25)).alloc (.cells #[.string ⟨#[107]⟩, .string ⟨#[118]⟩] 27)) (some ⟨w1.heap.size + 1, 0, none⟩) [sF] := by
    intro k h hf
    have e : k = 0 := by have := (List.getElem?_eq_some_iff.1 hf).1; have : k < 1 := this; omega
    subst e
    have e : h = sF := by simpa using hf.symm
    subst e
    exact ⟨_, 0, rfl, by simp [go_sem, sF], by simp [go_sem, sF]⟩
  refine (eqF_is (b := true) p1.fa (some ⟨w1.heap.size + 1, 0, none⟩) [sF] [sF] p1.fc 1 _ (HI1.out.hf.below (((Below.refl _ _).alloc (Nat.le_refl _) _).alloc (by simp) _)) hs1 one_max one_max (by simp)).mono ?_
  clear hs1
  rintro e w2 ⟨rfl, hb2⟩
  have hB2 : Below w.heap.size w w2 := hB1a.trans (hb2.mono hB1a.size)
  have hbp_2 : Below w1.heap.size w1 w2 := (((Below.refl _ _).alloc (by first | exact Nat.le_refl _ | (simp; done) | (simp; omega)) _).alloc (by first | exact Nat.le_refl _ | (simp; done) | (simp; omega)) _).trans ((hb2).mono (by first | exact Nat.le_refl _ | (simp; done) | (simp; omega)))
  have lt_R_2 : w.heap.size < w2.heap.size := Nat.lt_of_lt_of_le lt_R_1 hbp_2.size
  have c_R_0_2 : w2.cell? ⟨w.heap.size, 0, none⟩ = some (.string r.id) := (hbp_2.cell (p := ⟨w.heap.size, 0, none⟩) lt_R_1).trans c_R_0_1
  have c_R_1_2 : w2.cell? ⟨w.heap.size, 1, none⟩ = some (.int .i64 r.cats) := (hbp_2.cell (p := ⟨w.heap.size, 1, none⟩) lt_R_1).trans c_R_1_1
  have c_R_2_2 : w2.cell? ⟨w.heap.size, 2, none⟩ = some (.slice p.fa r.fs.length p.fc) := (hbp_2.cell (p := ⟨w.heap.size, 2, none⟩) lt_R_1).trans c_R_2_1
  have c_R_3_2 : w2.cell? ⟨w.heap.size, 3, none⟩ = some (.slice p.ra r.rs.length p.rc) := (hbp_2.cell (p := ⟨w.heap.size, 3, none⟩) lt_R_1).trans c_R_3_1
  have lt_F_2 : w.heap.size + 1 < w2.heap.size := Nat.lt_of_lt_of_le lt_F_1 hbp_2.size
  have c_F_0_2 : w2.cell? ⟨w.heap.size + 1, 0, none⟩ = some (.string f.key) := (hbp_2.cell (p := ⟨w.heap.size + 1, 0, none⟩) lt_F_1).trans c_F_0_1
  have c_F_1_2 : w2.cell? ⟨w.heap.size + 1, 1, none⟩ = some (.string f.val) := (hbp_2.cell (p := ⟨w.heap.size + 1, 1, none⟩) lt_F_1).trans c_F_1_1
  have lt_G_2 : w.heap.size + 2 < w2.heap.size := Nat.lt_of_lt_of_le lt_G_1 hbp_2.size
  have c_G_0_2 : w2.cell? ⟨w.heap.size + 2, 0, none⟩ = some (.string g.key) := (hbp_2.cell (p := ⟨w.heap.size + 2, 0, none⟩) lt_G_1).trans c_G_0_1
  have c_G_1_2 : w2.cell? ⟨w.heap.size + 2, 1, none⟩ = some (.string g.val) := (hbp_2.cell (p := ⟨w.heap.size + 2, 1, none⟩) lt_G_1).trans c_G_1_1
  clear c_R_0_1 c_R_1_1 c_R_2_1 c_R_3_1 c_F_0_1 c_F_1_1 c_G_0_1 c_G_1_1 lt_R_1 lt_F_1 lt_G_1
  clear hb1 hb2 hA hB1 hB1a
  go_wp2_with fail
  by_cases h1 : r.setErr f = 0
  · -- f is set
    have HE := Lib.hid h1
    clear h1
    refine (set_put r p f _ (HI.out.below hB2) HE.out).mono ?_
    rintro e w3 ⟨p3, rfl, hi3, -, hb3⟩
    have hB3 : Below w.heap.size w w3 := hB2.trans (hb3.mono hB2.size)
    have hbp_3 : Below w2.heap.size w2 w3 := (Below.refl _ _).trans ((hb3).mono (by first | exact Nat.le_refl _ | (simp; done) | (simp; omega)))
    have lt_R_3 : w.heap.size < w3.heap.size := Nat.lt_of_lt_of_le lt_R_2 hbp_3.size
    have c_R_0_3 : w3.cell? ⟨w.heap.size, 0, none⟩ = some (.string r.id) := (hbp_3.cell (p := ⟨w.heap.size, 0, none⟩) lt_R_2).trans c_R_0_2
    have c_R_1_3 : w3.cell? ⟨w.heap.size, 1, none⟩ = some (.int .i64 r.cats) := (hbp_3.cell (p := ⟨w.heap.size, 1, none⟩) lt_R_2).trans c_R_1_2
    have c_R_2_3 : w3.cell? ⟨w.heap.size, 2, none⟩ = some (.slice p.fa r.fs.length p.fc) := (hbp_3.cell (p := ⟨w.heap.size, 2, none⟩) lt_R_2).trans c_R_2_2
    have c_R_3_3 : w3.cell? ⟨w.heap.size, 3, none⟩ = some (.slice p.ra r.rs.length p.rc) := (hbp_3.cell (p := ⟨w.heap.size, 3, none⟩) lt_R_2).trans c_R_3_2
    have lt_F_3 : w.heap.size + 1 < w3.heap.size := Nat.lt_of_lt_of_le lt_F_2 hbp_3.size
    have c_F_0_3 : w3.cell? ⟨w.heap.size + 1, 0, none⟩ = some (.string f.key) := (hbp_3.cell (p := ⟨w.heap.size + 1, 0, none⟩) lt_F_2).trans c_F_0_2
    have c_F_1_3 : w3.cell? ⟨w.heap.size + 1, 1, none⟩ = some (.string f.val) := (hbp_3.cell (p := ⟨w.heap.size + 1, 1, none⟩) lt_F_2).trans c_F_1_2
    have lt_G_3 : w.heap.size + 2 < w3.heap.size := Nat.lt_of_lt_of_le lt_G_2 hbp_3.size
    have c_G_0_3 : w3.cell? ⟨w.heap.size + 2, 0, none⟩ = some (.string g.key) := (hbp_3.cell (p := ⟨w.heap.size + 2, 0, none⟩) lt_G_2).trans c_G_0_2
    have c_G_1_3 : w3.cell? ⟨w.heap.size + 2, 1, none⟩ = some (.string g.val) := (hbp_3.cell (p := ⟨w.heap.size + 2, 1, none⟩) lt_G_2).trans c_G_1_2
    clear c_R_0_2 c_R_1_2 c_R_2_2 c_R_3_2 c_F_0_2 c_F_1_2 c_G_0_2 c_G_1_2 lt_R_2 lt_F_2 lt_G_2
    have HI3 := Lib.hid hi3
    clear hi3 hb3
    have HG := Lib.hid (RecL.get_put HE.out)
    have HXE := Lib.hid (RecL.put_err HE.out)
    have hB3a : Below w.heap.size w (w3.alloc (.cells #[.string r.id, .int .i64 r.cats, .slice p3.fa (setFs r.fs f).length p3.fc, .slice p3.ra r.rs.length p3.rc] 25)) := hB3.alloc hB3.size _
    go_wp2_with fail
    refine (get_is (r.put f) p3 f.key _ (HI3.out.below ((Below.refl _ _).alloc (Nat.le_refl _) _)) HG.out.1 HG.out.2).mono ?_
    rintro e w4 ⟨rfl, hb4⟩
    have hB4 : Below w.heap.size w w4 := hB3a.trans (hb4.mono hB3a.size)
    have hbp_4 : Below w3.heap.size w3 w4 := ((Below.refl _ _).alloc (by first | exact Nat.le_refl _ | (simp; done) | (simp; omega)) _).trans ((hb4).mono (by first | exact Nat.le_refl _ | (simp; done) | (simp; omega)))
    have lt_R_4 : w.heap.size < w4.heap.size := Nat.lt_of_lt_of_le lt_R_3 hbp_4.size
    have c_R_0_4 : w4.cell? ⟨w.heap.size, 0, none⟩ = some (.string r.id) := (hbp_4.cell (p := ⟨w.heap.size, 0, none⟩) lt_R_3).trans c_R_0_3
    have c_R_1_4 : w4.cell? ⟨w.heap.size, 1, none⟩ = some (.int .i64 r.cats) := (hbp_4.cell (p := ⟨w.heap.size, 1, none⟩) lt_R_3).trans c_R_1_3
    have c_R_2_4 : w4.cell? ⟨w.heap.size, 2, none⟩ = some (.slice p.fa r.fs.length p.fc) := (hbp_4.cell (p := ⟨w.heap.size, 2, none⟩) lt_R_3).trans c_R_2_3
    have c_R_3_4 : w4.cell? ⟨w.heap.size, 3, none⟩ = some (.slice p.ra r.rs.length p.rc) := (hbp_4.cell (p := ⟨w.heap.size, 3, none⟩) lt_R_3).trans c_R_3_3
    have lt_F_4 : w.heap.size + 1 < w4.heap.size := Nat.lt_of_lt_of_le lt_F_3 hbp_4.size
    have c_F_0_4 : w4.cell? ⟨w.heap.size + 1, 0, none⟩ = some (.string f.key) := (hbp_4.cell (p := ⟨w.heap.size + 1, 0, none⟩) lt_F_3).trans c_F_0_3
    have c_F_1_4 : w4.cell? ⟨w.heap.size + 1, 1, none⟩ = some (.string f.val) := (hbp_4.cell (p := ⟨w.heap.size + 1, 1, none⟩) lt_F_3).trans c_F_1_3
    have lt_G_4 : w.heap.size + 2 < w4.heap.size := Nat.lt_of_lt_of_le lt_G_3 hbp_4.size
    have c_G_0_4 : w4.cell? ⟨w.heap.size + 2, 0, none⟩ = some (.string g.key) := (hbp_4.cell (p := ⟨w.heap.size + 2, 0, none⟩) lt_G_3).trans c_G_0_3
    have c_G_1_4 : w4.cell? ⟨w.heap.size + 2, 1, none⟩ = some (.string g.val) := (hbp_4.cell (p := ⟨w.heap.size + 2, 1, none⟩) lt_G_3).trans c_G_1_3
    have lt_X_4 : w3.heap.size < w4.heap.size := by have h := (hb4).size; first | omega | (simp at h; omega)
    have c_X_0_4 : w4.cell? ⟨w3.heap.size, 0, none⟩ = some (.string r.id) := by rw [(hb4).cell (p := ⟨w3.heap.size, 0, none⟩) (by first | omega | (simp; done) | (simp; omega))]; first | rfl | simp [go_sem]
    have c_X_1_4 : w4.cell? ⟨w3.heap.size, 1, none⟩ = some (.int .i64 r.cats) := by rw [(hb4).cell (p := ⟨w3.heap.size, 1, none⟩) (by first | omega | (simp; done) | (simp; omega))]; first | rfl | simp [go_sem]
    have c_X_2_4 : w4.cell? ⟨w3.heap.size, 2, none⟩ = some (.slice p3.fa (setFs r.fs f).length p3.fc) := by rw [(hb4).cell (p := ⟨w3.heap.size, 2, none⟩) (by first | omega | (simp; done) | (simp; omega))]; first | rfl | simp [go_sem]
    have c_X_3_4 : w4.cell? ⟨w3.heap.size, 3, none⟩ = some (.slice p3.ra r.rs.length p3.rc) := by rw [(hb4).cell (p := ⟨w3.heap.size, 3, none⟩) (by first | omega | (simp; done) | (simp; omega))]; first | rfl | simp [go_sem]
    clear c_R_0_3 c_R_1_3 c_R_2_3 c_R_3_3 c_F_0_3 c_F_1_3 c_G_0_3 c_G_1_3 lt_R_3 lt_F_3 lt_G_3
    have HI4 := Lib.hid ((HI3.out.below ((Below.refl _ _).alloc (Nat.le_refl _) _)).below hb4)
    clear hb4
    go_wp2_with fail
    refine (recCheck_is (r.put f) p3 _ HI4.out HXE.out).mono ?_
    rintro e w5 ⟨rfl, hb5⟩
    have hB5 : Below w.heap.size w w5 := hB4.trans (hb5.mono hB4.size)
    have hbp_5 : Below w4.heap.size w4 w5 := (Below.refl _ _).trans ((hb5).mono (by first | exact Nat.le_refl _ | (simp; done) | (simp; omega)))
    have lt_R_5 : w.heap.size < w5.heap.size := Nat.lt_of_lt_of_le lt_R_4 hbp_5.size
    have c_R_0_5 : w5.cell? ⟨w.heap.size, 0, none⟩ = some (.string r.id) := (hbp_5.cell (p := ⟨w.heap.size, 0, none⟩) lt_R_4).trans c_R_0_4
    have c_R_1_5 : w5.cell? ⟨w.heap.size, 1, none⟩ = some (.int .i64 r.cats) := (hbp_5.cell (p := ⟨w.heap.size, 1, none⟩) lt_R_4).trans c_R_1_4
    have c_R_2_5 : w5.cell? ⟨w.heap.size, 2, none⟩ = some (.slice p.fa r.fs.length p.fc) := (hbp_5.cell (p := ⟨w.heap.size, 2, none⟩) lt_R_4).trans c_R_2_4
    have c_R_3_5 : w5.cell? ⟨w.heap.size, 3, none⟩ = some (.slice p.ra r.rs.length p.rc) := (hbp_5.cell (p := ⟨w.heap.size, 3, none⟩) lt_R_4).trans c_R_3_4
    have lt_F_5 : w.heap.size + 1 < w5.heap.size := Nat.lt_of_lt_of_le lt_F_4 hbp_5.size
    have c_F_0_5 : w5.cell? ⟨w.heap.size + 1, 0, none⟩ = some (.string f.key) := (hbp_5.cell (p := ⟨w.heap.size + 1, 0, none⟩) lt_F_4).trans c_F_0_4
    have c_F_1_5 : w5.cell? ⟨w.heap.size + 1, 1, none⟩ = some (.string f.val) := (hbp_5.cell (p := ⟨w.heap.size + 1, 1, none⟩) lt_F_4).trans c_F_1_4
    have lt_G_5 : w.heap.size + 2 < w5.heap.size := Nat.lt_of_lt_of_le lt_G_4 hbp_5.size
    have c_G_0_5 : w5.cell? ⟨w.heap.size + 2, 0, none⟩ = some (.string g.key) := (hbp_5.cell (p := ⟨w.heap.size + 2, 0, none⟩) lt_G_4).trans c_G_0_4
    have c_G_1_5 : w5.cell? ⟨w.heap.size + 2, 1, none⟩ = some (.string g.val) := (hbp_5.cell (p := ⟨w.heap.size + 2, 1, none⟩) lt_G_4).trans c_G_1_4
    have lt_X_5 : w3.heap.size < w5.heap.size := Nat.lt_of_lt_of_le lt_X_4 hbp_5.size
    have c_X_0_5 : w5.cell? ⟨w3.heap.size, 0, none⟩ = some (.string r.id) := (hbp_5.cell (p := ⟨w3.heap.size, 0, none⟩) lt_X_4).trans c_X_0_4
    have c_X_1_5 : w5.cell? ⟨w3.heap.size, 1, none⟩ = some (.int .i64 r.cats) := (hbp_5.cell (p := ⟨w3.heap.size, 1, none⟩) lt_X_4).trans c_X_1_4
    have c_X_2_5 : w5.cell? ⟨w3.heap.size, 2, none⟩ = some (.slice p3.fa (setFs r.fs f).length p3.fc) := (hbp_5.cell (p := ⟨w3.heap.size, 2, none⟩) lt_X_4).trans c_X_2_4
    have c_X_3_5 : w5.cell? ⟨w3.heap.size, 3, none⟩ = some (.slice p3.ra r.rs.length p3.rc) := (hbp_5.cell (p := ⟨w3.heap.size, 3, none⟩) lt_X_4).trans c_X_3_4
    clear c_R_0_4 c_R_1_4 c_R_2_4 c_R_3_4 c_F_0_4 c_F_1_4 c_G_0_4 c_G_1_4 c_X_0_4 c_X_1_4 c_X_2_4 c_X_3_4 lt_R_4 lt_F_4 lt_G_4 lt_X_4
    have HI5 := Lib.hid (HI4.out.below hb5)
    clear hb5
    go_wp2_with fail
    refine (eqS_is (b := true) p3.ra p.ra r.rs r.rs p3.rc p.rc _ HI5.out.hr (HI.out.hr.below hB5) (Nat.le_trans HI.out.rl HI.out.rm) (Nat.le_trans HI.out.rl HI.out.rm) (by simp)).mono ?_
    rintro e w6 ⟨rfl, hb6⟩
    have hB6 : Below w.heap.size w w6 := hB5.trans (hb6.mono hB5.size)
    have hbp_6 : Below w5.heap.size w5 w6 := (Below.refl _ _).trans ((hb6).mono (by first | exact Nat.le_refl _ | (simp; done) | (simp; omega)))
    have lt_R_6 : w.heap.size < w6.heap.size := Nat.lt_of_lt_of_le lt_R_5 hbp_6.size
    have c_R_0_6 : w6.cell? ⟨w.heap.size, 0, none⟩ = some (.string r.id) := (hbp_6.cell (p := ⟨w.heap.size, 0, none⟩) lt_R_5).trans c_R_0_5
    have c_R_1_6 : w6.cell? ⟨w.heap.size, 1, none⟩ = some (.int .i64 r.cats) := (hbp_6.cell (p := ⟨w.heap.size, 1, none⟩) lt_R_5).trans c_R_1_5
    have c_R_2_6 : w6.cell? ⟨w.heap.size, 2, none⟩ = some (.slice p.fa r.fs.length p.fc) := (hbp_6.cell (p := ⟨w.heap.size, 2, none⟩) lt_R_5).trans c_R_2_5
    have c_R_3_6 : w6.cell? ⟨w.heap.size, 3, none⟩ = some (.slice p.ra r.rs.length p.rc) := (hbp_6.cell (p := ⟨w.heap.size, 3, none⟩) lt_R_5).trans c_R_3_5
    have lt_F_6 : w.heap.size + 1 < w6.heap.size := Nat.lt_of_lt_of_le lt_F_5 hbp_6.size
    have c_F_0_6 : w6.cell? ⟨w.heap.size + 1, 0, none⟩ = some (.string f.key) := (hbp_6.cell (p := ⟨w.heap.size + 1, 0, none⟩) lt_F_5).trans c_F_0_5
    have c_F_1_6 : w6.cell? ⟨w.heap.size + 1, 1, none⟩ = some (.string f.val) := (hbp_6.cell (p := ⟨w.heap.size + 1, 1, none⟩) lt_F_5).trans c_F_1_5
    have lt_G_6 : w.heap.size + 2 < w6.heap.size := Nat.lt_of_lt_of_le lt_G_5 hbp_6.size
    have c_G_0_6 : w6.cell? ⟨w.heap.size + 2, 0, none⟩ = some (.string g.key) := (hbp_6.cell (p := ⟨w.heap.size + 2, 0, none⟩) lt_G_5).trans c_G_0_5
    have c_G_1_6 : w6.cell? ⟨w.heap.size + 2, 1, none⟩ = some (.string g.val) := (hbp_6.cell (p := ⟨w.heap.size + 2, 1, none⟩) lt_G_5).trans c_G_1_5
    have lt_X_6 : w3.heap.size < w6.heap.size := Nat.lt_of_lt_of_le lt_X_5 hbp_6.size
    have c_X_0_6 : w6.cell? ⟨w3.heap.size, 0, none⟩ = some (.string r.id) := (hbp_6.cell (p := ⟨w3.heap.size, 0, none⟩) lt_X_5).trans c_X_0_5
    have c_X_1_6 : w6.cell? ⟨w3.heap.size, 1, none⟩ = some (.int .i64 r.cats) := (hbp_6.cell (p := ⟨w3.heap.size, 1, none⟩) lt_X_5).trans c_X_1_5
    have c_X_2_6 : w6.cell? ⟨w3.heap.size, 2, none⟩ = some (.slice p3.fa (setFs r.fs f).length p3.fc) := (hbp_6.cell (p := ⟨w3.heap.size, 2, none⟩) lt_X_5).trans c_X_2_5
    have c_X_3_6 : w6.cell? ⟨w3.heap.size, 3, none⟩ = some (.slice p3.ra r.rs.length p3.rc) := (hbp_6.cell (p := ⟨w3.heap.size, 3, none⟩) lt_X_5).trans c_X_3_5
    clear c_R_0_5 c_R_1_5 c_R_2_5 c_R_3_5 c_F_0_5 c_F_1_5 c_G_0_5 c_G_1_5 c_X_0_5 c_X_1_5 c_X_2_5 c_X_3_5 lt_R_5 lt_F_5 lt_G_5 lt_X_5
    have HI6 := Lib.hid (HI5.out.below hb6)
    clear hb6
    go_wp2_with fail
    go_loopw [94] (fun i wr => ∃ k : Nat, k ≤ r.fs.length ∧ i = .int .i64 k ∧ Below w6.heap.size w6 wr) (fun i _ => r.fs.length - (intOf i).toNat)
    case atStart => exact ⟨0, Nat.zero_le _, rfl, Below.refl _ _⟩
    case round =>
      obtain ⟨k, hk, rfl, hbr⟩ := hrel
      have hB : Below w.heap.size w wr := hB6.trans (hbr.mono hB6.size)
      have hbp_7 : Below w6.heap.size w6 wr := (Below.refl _ _).trans ((hbr).mono (by first | exact Nat.le_refl _ | (simp; done) | (simp; omega)))
      have lt_R_7 : w.heap.size < wr.heap.size := Nat.lt_of_lt_of_le lt_R_6 hbp_7.size
      have c_R_0_7 : wr.cell? ⟨w.heap.size, 0, none⟩ = some (.string r.id) := (hbp_7.cell (p := ⟨w.heap.size, 0, none⟩) lt_R_6).trans c_R_0_6
      have c_R_1_7 : wr.cell? ⟨w.heap.size, 1, none⟩ = some (.int .i64 r.cats) := (hbp_7.cell (p := ⟨w.heap.size, 1, none⟩) lt_R_6).trans c_R_1_6
      have c_R_2_7 : wr.cell? ⟨w.heap.size, 2, none⟩ = some (.slice p.fa r.fs.length p.fc) := (hbp_7.cell (p := ⟨w.heap.size, 2, none⟩) lt_R_6).trans c_R_2_6
      have c_R_3_7 : wr.cell? ⟨w.heap.size, 3, none⟩ = some (.slice p.ra r.rs.length p.rc) := (hbp_7.cell (p := ⟨w.heap.size, 3, none⟩) lt_R_6).trans c_R_3_6
      have lt_F_7 : w.heap.size + 1 < wr.heap.size := Nat.lt_of_lt_of_le lt_F_6 hbp_7.size
      have c_F_0_7 : wr.cell? ⟨w.heap.size + 1, 0, none⟩ = some (.string f.key) := (hbp_7.cell (p := ⟨w.heap.size + 1, 0, none⟩) lt_F_6).trans c_F_0_6
      have c_F_1_7 : wr.cell? ⟨w.heap.size + 1, 1, none⟩ = some (.string f.val) := (hbp_7.cell (p := ⟨w.heap.size + 1, 1, none⟩) lt_F_6).trans c_F_1_6
      have lt_G_7 : w.heap.size + 2 < wr.heap.size := Nat.lt_of_lt_of_le lt_G_6 hbp_7.size
      have c_G_0_7 : wr.cell? ⟨w.heap.size + 2, 0, none⟩ = some (.string g.key) := (hbp_7.cell (p := ⟨w.heap.size + 2, 0, none⟩) lt_G_6).trans c_G_0_6
      have c_G_1_7 : wr.cell? ⟨w.heap.size + 2, 1, none⟩ = some (.string g.val) := (hbp_7.cell (p := ⟨w.heap.size + 2, 1, none⟩) lt_G_6).trans c_G_1_6
      have lt_X_7 : w3.heap.size < wr.heap.size := Nat.lt_of_lt_of_le lt_X_6 hbp_7.size
      have c_X_0_7 : wr.cell? ⟨w3.heap.size, 0, none⟩ = some (.string r.id) := (hbp_7.cell (p := ⟨w3.heap.size, 0, none⟩) lt_X_6).trans c_X_0_6
      have c_X_1_7 : wr.cell? ⟨w3.heap.size, 1, none⟩ = some (.int .i64 r.cats) := (hbp_7.cell (p := ⟨w3.heap.size, 1, none⟩) lt_X_6).trans c_X_1_6
      have c_X_2_7 : wr.cell? ⟨w3.heap.size, 2, none⟩ = some (.slice p3.fa (setFs r.fs f).length p3.fc) := (hbp_7.cell (p := ⟨w3.heap.size, 2, none⟩) lt_X_6).trans c_X_2_6
      have c_X_3_7 : wr.cell? ⟨w3.heap.size, 3, none⟩ = some (.slice p3.ra r.rs.length p3.rc) := (hbp_7.cell (p := ⟨w3.heap.size, 3, none⟩) lt_X_6).trans c_X_3_6
      clear c_R_0_6 c_R_1_6 c_R_2_6 c_R_3_6 c_F_0_6 c_F_1_6 c_G_0_6 c_G_1_6 c_X_0_6 c_X_1_6 c_X_2_6 c_X_3_6 lt_R_6 lt_F_6 lt_G_6 lt_X_6
      have hmx := Nat.le_trans HI.out.fl HI.out.fm
      unfold maxLen at hmx
      have HIr := Lib.hid (HI6.out.below hbr)
      by_cases hlt : k < r.fs.length
      · obtain ⟨h, hf⟩ : ∃ h, r.fs[k]? = some h := ⟨_, List.getElem?_eq_getElem hlt⟩
        obtain ⟨b, off, hfa, h1, h2⟩ := (HI.out.hf.below hB) k h hf
        have hget := RecL.get_other HE.out (List.mem_of_getElem? hf)
        have HGET := Lib.hid hget
        obtain ⟨pa, pc, qa, qc⟩ := p
        simp only at hfa
        subst hfa
        clear hget hf
        have hBa : Below w.heap.size w (wr.alloc (.cells #[.string h.key, .string h.val] 27)) := hB.alloc hB.size _
        by_cases he : h.key = f.key
        · have l1 : (h.key.toList == f.key.toList) = true := sEq_iff.2 he
          clear he
          go_wp2_with fail
          refine (get_is (r.put f) p3 h.key _ (HIr.out.below ((Below.refl _ _).alloc (Nat.le_refl _) _)) HGET.out.1 HGET.out.2).mono ?_
          rintro e w7 ⟨rfl, hb7⟩
          have hB7 : Below w6.heap.size w6 w7 := (hbr.alloc hbr.size _).trans (hb7.mono (by have := hbr.size; simp; omega))
          have hbq : Below wr.heap.size wr w7 := ((Below.refl _ _).alloc (Nat.le_refl _) _).trans (hb7.mono (by simp))
          have k1 : w7.cell? ⟨wr.heap.size, 0, none⟩ = some (.string h.key) := by rw [hb7.cell (p := ⟨wr.heap.size, 0, none⟩) (by simp)]; simp [go_sem]
          have k2 : w7.cell? ⟨w.heap.size + 1, 0, none⟩ = some (.string f.key) := (hbq.cell (p := ⟨w.heap.size + 1, 0, none⟩) lt_F_7).trans c_F_0_7
          go_wp2_with fail
          go_roundw
          case rel => exact ⟨k + 1, by omega, by go_num, hB7⟩
          case measure => simp [intOf]; omega
        · have l1 : (h.key.toList == f.key.toList) = false := sEq_false.2 he
          have HNE := Lib.hid he
          have hv : (r.put f).get h.key = h.val := by
            rw [HGET.out.1, if_neg]
            rw [Bool.not_eq_true, sEq_false]
            exact Ne.symm HNE.out
          have HV := Lib.hid hv
          clear he hv
          go_wp2_with fail
          refine (get_is (r.put f) p3 h.key _ (HIr.out.below ((Below.refl _ _).alloc (Nat.le_refl _) _)) HV.out HGET.out.2).mono ?_
          rintro e w7 ⟨rfl, hb7⟩
          have hB7 : Below w6.heap.size w6 w7 := (hbr.alloc hbr.size _).trans (hb7.mono (by have := hbr.size; simp; omega))
          have hbq : Below wr.heap.size wr w7 := ((Below.refl _ _).alloc (Nat.le_refl _) _).trans (hb7.mono (by simp))
          have k1 : w7.cell? ⟨wr.heap.size, 0, none⟩ = some (.string h.key) := by rw [hb7.cell (p := ⟨wr.heap.size, 0, none⟩) (by simp)]; simp [go_sem]
          have k3 : w7.cell? ⟨wr.heap.size, 1, none⟩ = some (.string h.val) := by rw [hb7.cell (p := ⟨wr.heap.size, 1, none⟩) (by simp)]; simp [go_sem]
          have k2 : w7.cell? ⟨w.heap.size + 1, 0, none⟩ = some (.string f.key) := (hbq.cell (p := ⟨w.heap.size + 1, 0, none⟩) lt_F_7).trans c_F_0_7
          go_wp2_with fail
          go_roundw
          case rel => exact ⟨k + 1, by omega, by go_num, hB7⟩
          case measure => simp [intOf]; omega
      · -- behind the loop
        have HBr := Lib.hid hbr
        clear hbr
        go_wp2_with fail
        by_cases h2 : (r.put f).setErr g = 0
        · have HE2 := Lib.hid h2
          clear h2
          refine (set_put2 r p3 f g _ HIr.out HE2.out).mono ?_
          rintro e w8 ⟨p8, rfl, hi8, -, hb8⟩
          have hB8 : Below w.heap.size w w8 := hB.trans (hb8.mono hB.size)
          have hbp_8 : Below wr.heap.size wr w8 := (Below.refl _ _).trans ((hb8).mono (by first | exact Nat.le_refl _ | (simp; done) | (simp; omega)))
          have lt_R_8 : w.heap.size < w8.heap.size := Nat.lt_of_lt_of_le lt_R_7 hbp_8.size
          have c_R_0_8 : w8.cell? ⟨w.heap.size, 0, none⟩ = some (.string r.id) := (hbp_8.cell (p := ⟨w.heap.size, 0, none⟩) lt_R_7).trans c_R_0_7
          have c_R_1_8 : w8.cell? ⟨w.heap.size, 1, none⟩ = some (.int .i64 r.cats) := (hbp_8.cell (p := ⟨w.heap.size, 1, none⟩) lt_R_7).trans c_R_1_7
          have c_R_2_8 : w8.cell? ⟨w.heap.size, 2, none⟩ = some (.slice p.fa r.fs.length p.fc) := (hbp_8.cell (p := ⟨w.heap.size, 2, none⟩) lt_R_7).trans c_R_2_7
          have c_R_3_8 : w8.cell? ⟨w.heap.size, 3, none⟩ = some (.slice p.ra r.rs.length p.rc) := (hbp_8.cell (p := ⟨w.heap.size, 3, none⟩) lt_R_7).trans c_R_3_7
          have lt_F_8 : w.heap.size + 1 < w8.heap.size := Nat.lt_of_lt_of_le lt_F_7 hbp_8.size
          have c_F_0_8 : w8.cell? ⟨w.heap.size + 1, 0, none⟩ = some (.string f.key) := (hbp_8.cell (p := ⟨w.heap.size + 1, 0, none⟩) lt_F_7).trans c_F_0_7
          have c_F_1_8 : w8.cell? ⟨w.heap.size + 1, 1, none⟩ = some (.string f.val) := (hbp_8.cell (p := ⟨w.heap.size + 1, 1, none⟩) lt_F_7).trans c_F_1_7
          have lt_G_8 : w.heap.size + 2 < w8.heap.size := Nat.lt_of_lt_of_le lt_G_7 hbp_8.size
          have c_G_0_8 : w8.cell? ⟨w.heap.size + 2, 0, none⟩ = some (.string g.key) := (hbp_8.cell (p := ⟨w.heap.size + 2, 0, none⟩) lt_G_7).trans c_G_0_7
          have c_G_1_8 : w8.cell? ⟨w.heap.size + 2, 1, none⟩ = some (.string g.val) := (hbp_8.cell (p := ⟨w.heap.size + 2, 1, none⟩) lt_G_7).trans c_G_1_7
          have lt_X_8 : w3.heap.size < w8.heap.size := Nat.lt_of_lt_of_le lt_X_7 hbp_8.size
          have c_X_0_8 : w8.cell? ⟨w3.heap.size, 0, none⟩ = some (.string r.id) := (hbp_8.cell (p := ⟨w3.heap.size, 0, none⟩) lt_X_7).trans c_X_0_7
          have c_X_1_8 : w8.cell? ⟨w3.heap.size, 1, none⟩ = some (.int .i64 r.cats) := (hbp_8.cell (p := ⟨w3.heap.size, 1, none⟩) lt_X_7).trans c_X_1_7
          have c_X_2_8 : w8.cell? ⟨w3.heap.size, 2, none⟩ = some (.slice p3.fa (setFs r.fs f).length p3.fc) := (hbp_8.cell (p := ⟨w3.heap.size, 2, none⟩) lt_X_7).trans c_X_2_7
          have c_X_3_8 : w8.cell? ⟨w3.heap.size, 3, none⟩ = some (.slice p3.ra r.rs.length p3.rc) := (hbp_8.cell (p := ⟨w3.heap.size, 3, none⟩) lt_X_7).trans c_X_3_7
          clear c_R_0_7 c_R_1_7 c_R_2_7 c_R_3_7 c_F_0_7 c_F_1_7 c_G_0_7 c_G_1_7 c_X_0_7 c_X_1_7 c_X_2_7 c_X_3_7 lt_R_7 lt_F_7 lt_G_7 lt_X_7
          have HI8 := Lib.hid hi8
          clear hi8 hb8
          by_cases hk : g.key = f.key
          · have l1 : (g.key.toList == f.key.toList) = true := sEq_iff.2 hk
            have HT := Lib.hid (RecL.set_twice HE.out HE2.out hk)
            clear hk
            go_wp2_with fail
            refine (set_put r p g _ (HI.out.below (hB8.alloc hB8.size _)) HT.out.1).mono ?_
            rintro e w9 ⟨p9, rfl, hi9, -, hb9⟩
            have hB9 : Below w.heap.size w w9 := (hB8.alloc hB8.size _).trans (hb9.mono (by have := hB8.size; simp; omega))
            have hbp_9 : Below w8.heap.size w8 w9 := ((Below.refl _ _).alloc (by first | exact Nat.le_refl _ | (simp; done) | (simp; omega)) _).trans ((hb9).mono (by first | exact Nat.le_refl _ | (simp; done) | (simp; omega)))
            have lt_R_9 : w.heap.size < w9.heap.size := Nat.lt_of_lt_of_le lt_R_8 hbp_9.size
            have c_R_0_9 : w9.cell? ⟨w.heap.size, 0, none⟩ = some (.string r.id) := (hbp_9.cell (p := ⟨w.heap.size, 0, none⟩) lt_R_8).trans c_R_0_8
            have c_R_1_9 : w9.cell? ⟨w.heap.size, 1, none⟩ = some (.int .i64 r.cats) := (hbp_9.cell (p := ⟨w.heap.size, 1, none⟩) lt_R_8).trans c_R_1_8
            have c_R_2_9 : w9.cell? ⟨w.heap.size, 2, none⟩ = some (.slice p.fa r.fs.length p.fc) := (hbp_9.cell (p := ⟨w.heap.size, 2, none⟩) lt_R_8).trans c_R_2_8
            have c_R_3_9 : w9.cell? ⟨w.heap.size, 3, none⟩ = some (.slice p.ra r.rs.length p.rc) := (hbp_9.cell (p := ⟨w.heap.size, 3, none⟩) lt_R_8).trans c_R_3_8
            have lt_F_9 : w.heap.size + 1 < w9.heap.size := Nat.lt_of_lt_of_le lt_F_8 hbp_9.size
            have c_F_0_9 : w9.cell? ⟨w.heap.size + 1, 0, none⟩ = some (.string f.key) := (hbp_9.cell (p := ⟨w.heap.size + 1, 0, none⟩) lt_F_8).trans c_F_0_8
            have c_F_1_9 : w9.cell? ⟨w.heap.size + 1, 1, none⟩ = some (.string f.val) := (hbp_9.cell (p := ⟨w.heap.size + 1, 1, none⟩) lt_F_8).trans c_F_1_8
            have lt_G_9 : w.heap.size + 2 < w9.heap.size := Nat.lt_of_lt_of_le lt_G_8 hbp_9.size
            have c_G_0_9 : w9.cell? ⟨w.heap.size + 2, 0, none⟩ = some (.string g.key) := (hbp_9.cell (p := ⟨w.heap.size + 2, 0, none⟩) lt_G_8).trans c_G_0_8
            have c_G_1_9 : w9.cell? ⟨w.heap.size + 2, 1, none⟩ = some (.string g.val) := (hbp_9.cell (p := ⟨w.heap.size + 2, 1, none⟩) lt_G_8).trans c_G_1_8
            have lt_Y_9 : w8.heap.size < w9.heap.size := by have h := (hb9).size; first | omega | (simp at h; omega)
            have c_Y_0_9 : w9.cell? ⟨w8.heap.size, 0, none⟩ = some (.string r.id) := by rw [(hb9).cell (p := ⟨w8.heap.size, 0, none⟩) (by first | omega | (simp; done) | (simp; omega))]; first | rfl | simp [go_sem]
            have c_Y_1_9 : w9.cell? ⟨w8.heap.size, 1, none⟩ = some (.int .i64 r.cats) := by rw [(hb9).cell (p := ⟨w8.heap.size, 1, none⟩) (by first | omega | (simp; done) | (simp; omega))]; first | rfl | simp [go_sem]
            have c_Y_2_9 : w9.cell? ⟨w8.heap.size, 2, none⟩ = some (.slice p8.fa (setFs (setFs r.fs f) g).length p8.fc) := by rw [(hb9).cell (p := ⟨w8.heap.size, 2, none⟩) (by first | omega | (simp; done) | (simp; omega))]; first | rfl | simp [go_sem]
            have c_Y_3_9 : w9.cell? ⟨w8.heap.size, 3, none⟩ = some (.slice p8.ra r.rs.length p8.rc) := by rw [(hb9).cell (p := ⟨w8.heap.size, 3, none⟩) (by first | omega | (simp; done) | (simp; omega))]; first | rfl | simp [go_sem]
            clear c_R_0_8 c_R_1_8 c_R_2_8 c_R_3_8 c_F_0_8 c_F_1_8 c_G_0_8 c_G_1_8 lt_R_8 lt_F_8 lt_G_8
            have HI9 := Lib.hid hi9
            have HI8b := Lib.hid (HI8.out.below hbp_9)
            clear hi9 hb9
            go_wp2_with fail
            refine (same_is (b := true) ((r.put f).put g) (r.put g) p8 p9 _ (HI8b.out.below ((Below.refl _ _).alloc (Nat.le_refl _) _)) (HI9.out.below ((Below.refl _ _).alloc (Nat.le_refl _) _)) (by rw [HT.out.2]; simp)).mono ?_
            rintro e w10 ⟨rfl, hb10⟩
            have hB10 : Below w.heap.size w w10 := (hB9.alloc hB9.size _).trans (hb10.mono (by have := hB9.size; simp; omega))
            go_wp2_with fail
            go_ret
            exact ⟨rfl, hB10⟩
          · have l1 : (g.key.toList == f.key.toList) = false := sEq_false.2 hk
            have HT := Lib.hid (RecL.set_swap HE.out HE2.out hk)
            clear hk
            go_wp2_with fail
            refine (set_put r p g _ (HI.out.below (hB8.alloc hB8.size _)) HT.out.1).mono ?_
            rintro e w9 ⟨p9, rfl, hi9, -, hb9⟩
            have hB9 : Below w.heap.size w w9 := (hB8.alloc hB8.size _).trans (hb9.mono (by have := hB8.size; simp; omega))
            have hbp_9 : Below w8.heap.size w8 w9 := ((Below.refl _ _).alloc (by first | exact Nat.le_refl _ | (simp; done) | (simp; omega)) _).trans ((hb9).mono (by first | exact Nat.le_refl _ | (simp; done) | (simp; omega)))
            have lt_R_9 : w.heap.size < w9.heap.size := Nat.lt_of_lt_of_le lt_R_8 hbp_9.size
            have c_R_0_9 : w9.cell? ⟨w.heap.size, 0, none⟩ = some (.string r.id) := (hbp_9.cell (p := ⟨w.heap.size, 0, none⟩) lt_R_8).trans c_R_0_8
            have c_R_1_9 : w9.cell? ⟨w.heap.size, 1, none⟩ = some (.int .i64 r.cats) := (hbp_9.cell (p := ⟨w.heap.size, 1, none⟩) lt_R_8).trans c_R_1_8
            have c_R_2_9 : w9.cell? ⟨w.heap.size, 2, none⟩ = some (.slice p.fa r.fs.length p.fc) := (hbp_9.cell (p := ⟨w.heap.size, 2, none⟩) lt_R_8).trans c_R_2_8
            have c_R_3_9 : w9.cell? ⟨w.heap.size, 3, none⟩ = some (.slice p.ra r.rs.length p.rc) := (hbp_9.cell (p := ⟨w.heap.size, 3, none⟩) lt_R_8).trans c_R_3_8
            have lt_F_9 : w.heap.size + 1 < w9.heap.size := Nat.lt_of_lt_of_le lt_F_8 hbp_9.size
            have c_F_0_9 : w9.cell? ⟨w.heap.size + 1, 0, none⟩ = some (.string f.key) := (hbp_9.cell (p := ⟨w.heap.size + 1, 0, none⟩) lt_F_8).trans c_F_0_8
            have c_F_1_9 : w9.cell? ⟨w.heap.size + 1, 1, none⟩ = some (.string f.val) := (hbp_9.cell (p := ⟨w.heap.size + 1, 1, none⟩) lt_F_8).trans c_F_1_8
            have lt_G_9 : w.heap.size + 2 < w9.heap.size := Nat.lt_of_lt_of_le lt_G_8 hbp_9.size
            have c_G_0_9 : w9.cell? ⟨w.heap.size + 2, 0, none⟩ = some (.string g.key) := (hbp_9.cell (p := ⟨w.heap.size + 2, 0, none⟩) lt_G_8).trans c_G_0_8
            have c_G_1_9 : w9.cell? ⟨w.heap.size + 2, 1, none⟩ = some (.string g.val) := (hbp_9.cell (p := ⟨w.heap.size + 2, 1, none⟩) lt_G_8).trans c_G_1_8
            have lt_Y_9 : w8.heap.size < w9.heap.size := by have h := (hb9).size; first | omega | (simp at h; omega)
            have c_Y_0_9 : w9.cell? ⟨w8.heap.size, 0, none⟩ = some (.string r.id) := by rw [(hb9).cell (p := ⟨w8.heap.size, 0, none⟩) (by first | omega | (simp; done) | (simp; omega))]; first | rfl | simp [go_sem]
            have c_Y_1_9 : w9.cell? ⟨w8.heap.size, 1, none⟩ = some (.int .i64 r.cats) := by rw [(hb9).cell (p := ⟨w8.heap.size, 1, none⟩) (by first | omega | (simp; done) | (simp; omega))]; first | rfl | simp [go_sem]
            have c_Y_2_9 : w9.cell? ⟨w8.heap.size, 2, none⟩ = some (.slice p8.fa (setFs (setFs r.fs f) g).length p8.fc) := by rw [(hb9).cell (p := ⟨w8.heap.size, 2, none⟩) (by first | omega | (simp; done) | (simp; omega))]; first | rfl | simp [go_sem]
            have c_Y_3_9 : w9.cell? ⟨w8.heap.size, 3, none⟩ = some (.slice p8.ra r.rs.length p8.rc) := by rw [(hb9).cell (p := ⟨w8.heap.size, 3, none⟩) (by first | omega | (simp; done) | (simp; omega))]; first | rfl | simp [go_sem]
            clear c_R_0_8 c_R_1_8 c_R_2_8 c_R_3_8 c_F_0_8 c_F_1_8 c_G_0_8 c_G_1_8 lt_R_8 lt_F_8 lt_G_8
            have HNE : Hid (w8.heap.size ≠ w9.heap.size) := Nat.ne_of_lt lt_Y_9
            have HI9 := Lib.hid hi9
            have HI8b := Lib.hid (HI8.out.below hbp_9)
            clear hi9 hb9
            go_wp2_with fail
            refine (set_put2 r p9 g f _ (HI9.out.below ((Below.refl _ _).alloc (Nat.le_refl _) _)) HT.out.2.1).mono ?_
            rintro e w10 ⟨p10, rfl, hi10, hn10, hb10⟩
            have hB10 : Below w.heap.size w w10 := (hB9.alloc hB9.size _).trans (hb10.mono (by have := hB9.size; simp; omega))
            have HI10 := Lib.hid hi10
            have hbp_10 : Below w9.heap.size w9 w10 := ((Below.refl _ _).alloc (by first | exact Nat.le_refl _ | (simp; done) | (simp; omega)) _).trans ((hb10).mono (by first | exact Nat.le_refl _ | (simp; done) | (simp; omega)))
            have lt_F_10 : w.heap.size + 1 < w10.heap.size := Nat.lt_of_lt_of_le lt_F_9 hbp_10.size
            have c_F_0_10 : w10.cell? ⟨w.heap.size + 1, 0, none⟩ = some (.string f.key) := (hbp_10.cell (p := ⟨w.heap.size + 1, 0, none⟩) lt_F_9).trans c_F_0_9
            have c_F_1_10 : w10.cell? ⟨w.heap.size + 1, 1, none⟩ = some (.string f.val) := (hbp_10.cell (p := ⟨w.heap.size + 1, 1, none⟩) lt_F_9).trans c_F_1_9
            have lt_Y_10 : w8.heap.size < w10.heap.size := Nat.lt_of_lt_of_le lt_Y_9 hbp_10.size
            have c_Y_0_10 : w10.cell? ⟨w8.heap.size, 0, none⟩ = some (.string r.id) := (hbp_10.cell (p := ⟨w8.heap.size, 0, none⟩) lt_Y_9).trans c_Y_0_9
            have c_Y_1_10 : w10.cell? ⟨w8.heap.size, 1, none⟩ = some (.int .i64 r.cats) := (hbp_10.cell (p := ⟨w8.heap.size, 1, none⟩) lt_Y_9).trans c_Y_1_9
            have c_Y_2_10 : w10.cell? ⟨w8.heap.size, 2, none⟩ = some (.slice p8.fa (setFs (setFs r.fs f) g).length p8.fc) := (hbp_10.cell (p := ⟨w8.heap.size, 2, none⟩) lt_Y_9).trans c_Y_2_9
            have c_Y_3_10 : w10.cell? ⟨w8.heap.size, 3, none⟩ = some (.slice p8.ra r.rs.length p8.rc) := (hbp_10.cell (p := ⟨w8.heap.size, 3, none⟩) lt_Y_9).trans c_Y_3_9
            have lt_Z_10 : w9.heap.size < w10.heap.size := by have h := (hb10).size; first | omega | (simp at h; omega)
            have c_Z_0_10 : w10.cell? ⟨w9.heap.size, 0, none⟩ = some (.string r.id) := by rw [(hb10).cell (p := ⟨w9.heap.size, 0, none⟩) (by first | omega | (simp; done) | (simp; omega))]; first | rfl | simp [go_sem]
            have c_Z_1_10 : w10.cell? ⟨w9.heap.size, 1, none⟩ = some (.int .i64 r.cats) := by rw [(hb10).cell (p := ⟨w9.heap.size, 1, none⟩) (by first | omega | (simp; done) | (simp; omega))]; first | rfl | simp [go_sem]
            have c_Z_2_10 : w10.cell? ⟨w9.heap.size, 2, none⟩ = some (.slice p9.fa (setFs r.fs g).length p9.fc) := by rw [(hb10).cell (p := ⟨w9.heap.size, 2, none⟩) (by first | omega | (simp; done) | (simp; omega))]; first | rfl | simp [go_sem]
            have c_Z_3_10 : w10.cell? ⟨w9.heap.size, 3, none⟩ = some (.slice p9.ra r.rs.length p9.rc) := by rw [(hb10).cell (p := ⟨w9.heap.size, 3, none⟩) (by first | omega | (simp; done) | (simp; omega))]; first | rfl | simp [go_sem]
            clear c_F_0_9 c_F_1_9 c_Y_0_9 c_Y_1_9 c_Y_2_9 c_Y_3_9 lt_F_9 lt_Y_9
            have z0 : ∀ o, w10.frozen? ⟨w9.heap.size, o, none⟩ = false := fun o => by rw [hb10.frozen (p := ⟨w9.heap.size, o, none⟩) (by simp)]; simp [go_sem]
            have z00 := z0 0; have z01 := z0 1; have z02 := z0 2; have z03 := z0 3
            have hle : w8.heap.size ≤ w9.heap.size := hbp_9.size
            have hbs : Below w8.heap.size w8 ((((w10.setCell ⟨w9.heap.size, 0, none⟩ (.string r.id)).setCell ⟨w9.heap.size, 1, none⟩ (.int .i64 r.cats)).setCell ⟨w9.heap.size, 2, none⟩ (.slice p10.fa (setFs (setFs r.fs g) f).length p10.fc)).setCell ⟨w9.heap.size, 3, none⟩ (.slice p10.ra r.rs.length p10.rc)) := ((((hbp_9.trans (hbp_10.mono hle)).setCell hle _).setCell hle _).setCell hle _).setCell hle _
            have HI8c := Lib.hid (HI8.out.below hbs)
            have n1 : ∀ b off, p10.fa = some ⟨b, off, none⟩ → b ≠ w9.heap.size := fun b off e => by have := hn10.1 b off e; simp at this; omega
            have n2 : ∀ b off, p10.ra = some ⟨b, off, none⟩ → b ≠ w9.heap.size := fun b off e => by have := hn10.2 b off e; simp at this; omega
            have HI10s : Hid (((r.put g).put f).in_ p10 ((((w10.setCell ⟨w9.heap.size, 0, none⟩ (.string r.id)).setCell ⟨w9.heap.size, 1, none⟩ (.int .i64 r.cats)).setCell ⟨w9.heap.size, 2, none⟩ (.slice p10.fa (setFs (setFs r.fs g) f).length p10.fc)).setCell ⟨w9.heap.size, 3, none⟩ (.slice p10.ra r.rs.length p10.rc))) :=
              ⟨(((hi10.hf.far n1 _).far n1 _).far n1 _).far n1 _, (((hi10.hr.far n2 _).far n2 _).far n2 _).far n2 _, hi10.fl, hi10.rl, hi10.fm, hi10.rm⟩
            have hBs : Below w.heap.size w ((((w10.setCell ⟨w9.heap.size, 0, none⟩ (.string r.id)).setCell ⟨w9.heap.size, 1, none⟩ (.int .i64 r.cats)).setCell ⟨w9.heap.size, 2, none⟩ (.slice p10.fa (setFs (setFs r.fs g) f).length p10.fc)).setCell ⟨w9.heap.size, 3, none⟩ (.slice p10.ra r.rs.length p10.rc)) := (((hB10.setCell hB9.size _).setCell hB9.size _).setCell hB9.size _).setCell hB9.size _
            have HBS := Lib.hid hBs
            have hne := HNE.out
            have hne' : w9.heap.size ≠ w8.heap.size := Ne.symm hne
            clear hi10 z0 n1 n2 hn10 hbs hBs hb10
            go_wp2_with fail
            refine (same_is (b := true) ((r.put f).put g) ((r.put g).put f) p8 p10 _ HI8c.out HI10s.out (by rw [HT.out.2.2]; simp)).mono ?_
            rintro e w11 ⟨rfl, hb11⟩
            have hB11 : Below w.heap.size w w11 := HBS.out.trans (hb11.mono HBS.out.size)
            go_wp2_with fail
            go_ret
            exact ⟨rfl, hB11⟩
        · refine (set_is (q := RecL.zero) (n := (r.put f).setErr g) (r.put f) p3 g _ HIr.out (RecL.setRec_err h2) rfl).mono ?_
          rintro e w8 ⟨p8, rfl, hi8, -, hb8⟩
          have hB8 : Below w.heap.size w w8 := hB.trans (hb8.mono hB.size)
          have HI8 := Lib.hid hi8
          generalize (r.put f).setErr g = n at h2
          have hn : (n == 0) = false := by simpa using h2
          clear hi8
          go_wp2_with fail
          refine (same_is (b := true) RecL.zero RecL.zero p8 At.none _ (HI8.out.below ((Below.refl _ _).alloc (Nat.le_refl _) _)) (zero_in _) (by simp)).mono ?_
          rintro e w9 ⟨rfl, hb9⟩
          have hB9 : Below w.heap.size w w9 := (hB8.alloc hB8.size _).trans (hb9.mono (by have := hB8.size; simp; omega))
          go_wp2_with fail
          go_ret
          exact ⟨rfl, hB9⟩
  · -- f is not set
    refine (set_is (q := RecL.zero) (n := r.setErr f) r p f _ (HI.out.below hB2) (RecL.setRec_err h1) rfl).mono ?_
    rintro e w3 ⟨p3, rfl, hi3, -, hb3⟩
    have hB3 : Below w.heap.size w w3 := hB2.trans (hb3.mono hB2.size)
    have HI3 := Lib.hid hi3
    generalize r.setErr f = n at h1
    have hn : (n == 0) = false := by simpa using h1
    clear hi3
    go_wp2_with fail
    refine (same_is (b := true) RecL.zero RecL.zero p3 At.none _ (HI3.out.below ((Below.refl _ _).alloc (Nat.le_refl _) _)) (zero_in _) (by simp)).mono ?_
    rintro e w4 ⟨rfl, hb4⟩
    have hB4 : Below w.heap.size w w4 := (hB3.alloc hB3.size _).trans (hb4.mono (by have := hB3.size; simp; omega))
    go_wp2_with fail
    go_ret
    exact ⟨rfl, hB4⟩
end Go.Proofs.Ytdnjboopaagleaa
