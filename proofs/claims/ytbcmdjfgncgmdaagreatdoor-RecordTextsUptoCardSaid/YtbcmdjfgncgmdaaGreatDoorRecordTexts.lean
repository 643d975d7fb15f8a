/- RecordTexts: what Write and Read answer, and what the document says, are the same: the walk. -/
import Derived.Test.YtbcmdjfgncgmdaaGreatDoorRHeld
import Derived.Test.YtbcmdjfgncgmdaaGreatDoorRRefRead
import Derived.Test.YtbcmdjfgncgmdaaGreatDoorRRefText
set_option linter.unusedVariables false
set_option linter.unusedSimpArgs false
set_option maxRecDepth 100000
namespace Go.Proofs.YtbcmdjfgncgmdaaGreatDoor
open Go.RowKit Go.Sort

/-- the record whose text the law knows -/
def rA : RecL := ⟨⟨#[97]⟩, 0, [], []⟩
theorem rA_ok : rA.Ok := ⟨show isNm ⟨#[97]⟩ = true by decide, show (0 : Int) ≤ 0 by decide, show (0 : Int) ≤ 255 by decide, show 0 ≤ 6 by decide, show 0 ≤ 4 by decide, fun i f hi hf => by simp [rA] at hf, fun i s hi hs => by simp [rA] at hs⟩
theorem rA_text : wrS rA = ⟨#[97, 59, 48, 59, 59]⟩ := by
  rw [wrS_ok (r := rA) ((RecL.err_ok rA).2 rA_ok)]
  have e : Lib.itoa 0 = [48] := by
    unfold Lib.itoa
    rw [if_neg (by omega), Lib.decDigits_one (by decide)]
    rfl
  unfold RecL.text
  show bs (Lib.join [[97], Lib.itoa 0, Lib.join [] [44], Lib.join [] [44]] [59]) = _
  rw [e]
  rfl
theorem refRead_is {R : RecL} {er : Int} (s : ByteArray) (w : World) (hE : Env w) (hs : s.size < 4294967281) (hR : rdRec s.data.toList = R) (he : rdErr s.data.toList = er) :
    Calls Tryz.prog 16 #[.string s] w fun e w' => ∃ p' : At, e = .returned (.tuple #[R.v p', .int .i64 er]) ∧ R.in_ p' w' ∧ Below w.heap.size w w' := by
  have := refRead_any s w hE hs
  unfold ReadTo at this
  rw [hR, he] at this
  exact this
theorem refRecord_is {er : Int} (r : RecL) (p : At) (w : World) (hi : r.in_ p w) (hs : r.short) (he : r.err = er) :
    Calls Tryz.prog 18 #[r.v p] w fun e w' => e = .returned (.int .i64 er) ∧ Below w.heap.size w w' := he ▸ refRecord_any r p w hi hs

set_option maxHeartbeats 4000000 in
theorem recordTexts_walk (r : RecL) (p : At) (s : ByteArray) (w : World) (hE : Env w) (hi : r.in_ p w) (hsh : r.short) (hs : s.size < 4294967281) :
    Calls Tryz.prog 3 #[r.v p, .string s] w fun e w' => e = .returned (.bool true) ∧ Below w.heap.size w w' := by
  have HE := Lib.hid hE
  have HI := Lib.hid hi
  have HSH := Lib.hid hsh
  obtain ⟨R, hR⟩ : ∃ R, rdRec s.data.toList = R := ⟨_, rfl⟩
  obtain ⟨g, hG⟩ : ∃ g, rdErr s.data.toList = g := ⟨_, rfl⟩
  have HR := Lib.hid hR
  have HG := Lib.hid hG
  obtain ⟨S, hS⟩ : ∃ S, wrS r = S := ⟨_, rfl⟩
  obtain ⟨er, her⟩ : ∃ er, r.err = er := ⟨_, rfl⟩
  have HS := Lib.hid hS
  have HER := Lib.hid her
  clear hE hi hsh hR hG hS her
  have hA := r.box_below p w
  have A0 := held_new r p w
  go_enter Tryz.func3, Tryz.ntmps3
  go_wp2_with fail
  refine (write_is r p _ (HE.out.below hA) (HI.out.below hA) HS.out HER.out).mono ?_
  rintro e w1 ⟨rfl, hb1⟩
  have hB1 : Below w.heap.size w w1 := hA.trans (hb1.mono hA.size)
  have A1 := A0.below hb1
  clear A0 hA hb1
  go_wp2_with fail
  refine (read_is s w1 (HE.out.below hB1) hs HR.out HG.out).mono ?_
  rintro e w2 ⟨p2, rfl, hi2, hb2⟩
  have hB2 := hB1.trans (hb2.mono hB1.size)
  have A2 := A1.below hb2
  have hn2 : Below w2.heap.size w2 (w2.alloc (.cells #[.string R.id, .int .i64 R.cats, .slice p2.fa R.fs.length p2.fc, .slice p2.ra R.rs.length p2.rc] 25)) := (Below.refl _ _).alloc (Nat.le_refl _) _
  have hB2a : Below w.heap.size w (w2.alloc (.cells #[.string R.id, .int .i64 R.cats, .slice p2.fa R.fs.length p2.fc, .slice p2.ra R.rs.length p2.rc] 25)) := hB2.alloc hB2.size _
  have X2 := held_new R p2 w2
  have HI2 := Lib.hid (hi2.below hn2)
  have A2a := A2.below hn2
  clear A1 A2 hb2 hi2 hB1
  go_wp2_with fail
  refine (write_is rA At.none _ (HE.out.below hB2a) ⟨SlF.nil _ _, SlS.nil _ _, Nat.le_refl _, Nat.le_refl _, Nat.zero_le _, Nat.zero_le _⟩ rA_text ((RecL.err_ok rA).2 rA_ok)).mono ?_
  rintro e w3 ⟨rfl, hb3⟩
  have hB3 := hB2a.trans (hb3.mono hB2a.size)
  have A3 := A2a.below hb3
  have X3 := X2.below hb3
  have HI3 := Lib.hid (HI2.out.below hb3)
  have l0 : ((⟨#[97, 59, 48, 59, 59]⟩ : ByteArray).toList == (⟨#[97, 59, 48, 59, 59]⟩ : ByteArray).toList) = true := by simp
  clear A2a X2 HI2 hb3 hB2 hB2a hn2
  go_wp2_with fail
  refine (refRead_is s w3 (HE.out.below hB3) hs HR.out HG.out).mono ?_
  rintro e w4 ⟨p4, rfl, hi4, hb4⟩
  have hB4 := hB3.trans (hb4.mono hB3.size)
  have hn4 : Below w4.heap.size w4 (w4.alloc (.cells #[.string R.id, .int .i64 R.cats, .slice p4.fa R.fs.length p4.fc, .slice p4.ra R.rs.length p4.rc] 25)) := (Below.refl _ _).alloc (Nat.le_refl _) _
  have hB4a : Below w.heap.size w (w4.alloc (.cells #[.string R.id, .int .i64 R.cats, .slice p4.fa R.fs.length p4.fc, .slice p4.ra R.rs.length p4.rc] 25)) := hB4.alloc hB4.size _
  have A4 := A3.below hb4
  have X4 := X3.below hb4
  have A4a := A4.below hn4
  have HI3a := Lib.hid ((HI3.out.below hb4).below hn4)
  have HI4 := Lib.hid (hi4.below hn4)
  obtain ⟨x0, x1, x2, x3⟩ := id X4
  have xl := X4.lt
  clear A3 X3 A4 hb4 hi4 hB3 HI3 l0
  go_wp2_with fail
  refine (same_is (b := true) R R p2 p4 _ HI3a.out HI4.out (by simp)).mono ?_
  rintro e w5 ⟨rfl, hb5⟩
  have hB5 := hB4a.trans (hb5.mono hB4a.size)
  have A5 := A4a.below hb5
  clear x0 x1 x2 x3 xl X4 A4a hb5 hB4 hB4a HI3a HI4 hn4
  obtain ⟨a0, a1, a2, a3⟩ := id A5
  have al := A5.lt
  go_wp2_with fail
  refine (refRecord_is r p w5 (HI.out.below hB5) HSH.out HER.out).mono ?_
  rintro e w6 ⟨rfl, hb6⟩
  have hB6 := hB5.trans (hb6.mono hB5.size)
  have A6 := A5.below hb6
  clear a0 a1 a2 a3 al A5 hb6 hB5
  by_cases he : er = 0
  · subst he
    obtain rfl : S = bs r.text := HS.out.symm.trans (wrS_ok HER.out)
    have lS : ((bs r.text).toList == (bs r.text).toList) = true := by simp
    obtain ⟨a0, a1, a2, a3⟩ := id A6
    have al := A6.lt
    go_wp2_with fail
    refine (refText_any r p w6 ((RecL.err_ok r).1 HER.out) (HI.out.below hB6)).mono ?_
    rintro e w7 ⟨rfl, hb7⟩
    have hB7 := hB6.trans (hb7.mono hB6.size)
    go_wp2_with fail
    go_ret
    exact ⟨rfl, hB7⟩
  · have he1 : (er == 0) = false := by simpa using he
    obtain rfl : S = ⟨#[]⟩ := HS.out.symm.trans (wrS_no fun e => he (HER.out.symm.trans e))
    go_wp2_with fail
    go_ret
    exact ⟨rfl, hB6⟩
end Go.Proofs.YtbcmdjfgncgmdaaGreatDoor
