/- RecordBack: a record is read as it was written, a text is written as it was read: the walk. -/
import Derived.Test.YtbcmdjfgncgmdaaDoorRHeld
set_option linter.unusedVariables false
set_option linter.unusedSimpArgs false
set_option maxRecDepth 100000
namespace Go.Proofs.YtbcmdjfgncgmdaaDoor
open Go.RowKit Go.Sort

/-- the record that the law begins with -/
def rL : RecL := ⟨⟨#[97]⟩, 3, [⟨⟨#[107]⟩, ⟨#[118]⟩⟩], [⟨#[98]⟩, ⟨#[99]⟩]⟩
theorem rL_ok : rL.Ok := ⟨show isNm ⟨#[97]⟩ = true by decide, show (0 : Int) ≤ 3 by decide, show (3 : Int) ≤ 255 by decide, show 1 ≤ 6 by decide, show 2 ≤ 4 by decide, fun i f hi hf => by
  have e : i = 0 := by have : i < 1 := hi; omega
  subst e
  have e : f = ⟨⟨#[107]⟩, ⟨#[118]⟩⟩ := by simpa [rL] using hf.symm
  subst e
  exact ⟨by decide, fun j g h => by omega⟩, fun i s hi hs => by
  match i, hs with
  | 0, hs =>
    have e : s = ⟨#[98]⟩ := by simpa [rL] using hs.symm
    subst e
    exact ⟨by decide, fun j g h => by omega⟩
  | 1, hs =>
    have e : s = ⟨#[99]⟩ := by simpa [rL] using hs.symm
    subst e
    refine ⟨by decide, fun j g h hg => ?_⟩
    have e : j = 0 := by omega
    subst e
    have e : g = ⟨#[98]⟩ := by simpa [rL] using hg.symm
    subst e
    simp [sLt, Lib.toList_data, Op.bytesLess]
  | k + 2, hs => simp [rL] at hs⟩
theorem rL_text : wrS rL = ⟨#[97, 59, 51, 59, 107, 61, 118, 59, 98, 44, 99]⟩ := by
  rw [wrS_ok (r := rL) ((RecL.err_ok rL).2 rL_ok)]
  have e : Lib.itoa 3 = [51] := by
    unfold Lib.itoa
    rw [if_neg (by omega), Lib.decDigits_one (by decide)]
    rfl
  unfold RecL.text
  show bs (Lib.join [[97], Lib.itoa 3, Lib.join [fieldText ⟨⟨#[107]⟩, ⟨#[118]⟩⟩] [44], Lib.join [[98], [99]] [44]] [59]) = _
  rw [e]
  rfl

set_option maxHeartbeats 4000000 in
theorem recordBack_walk (r q : RecL) (p p' : At) (s : ByteArray) (w : World) (hE : Env w) (hi : r.in_ p w) (hi' : q.in_ p' w) (hs : s.size < 4294967281) :
    Calls Tryd.prog 4 #[r.v p, q.v p', .string s] w fun e w' => e = .returned (.bool true) ∧ Below w.heap.size w w' := by
  have HE := Lib.hid hE
  have HI := Lib.hid hi
  have HI' := Lib.hid hi'
  obtain ⟨R, hR⟩ : ∃ R, rdRec s.data.toList = R := ⟨_, rfl⟩
  obtain ⟨g, hG⟩ : ∃ g, rdErr s.data.toList = g := ⟨_, rfl⟩
  have HR := Lib.hid hR
  have HG := Lib.hid hG
  obtain ⟨S, hS⟩ : ∃ S, wrS r = S := ⟨_, rfl⟩
  obtain ⟨er, her⟩ : ∃ er, r.err = er := ⟨_, rfl⟩
  have HS := Lib.hid hS
  have HER := Lib.hid her
  obtain ⟨T, hT⟩ : ∃ T, wrS q = T := ⟨_, rfl⟩
  obtain ⟨eq, heq⟩ : ∃ eq, q.err = eq := ⟨_, rfl⟩
  have HT := Lib.hid hT
  have HEQ := Lib.hid heq
  clear hE hi hi' hR hG hS her hT heq
  have hA2 : Below w.heap.size w ((w.alloc (.cells #[.string r.id, .int .i64 r.cats, .slice p.fa r.fs.length p.fc, .slice p.ra r.rs.length p.rc] 28)).alloc (.cells #[.string q.id, .int .i64 q.cats, .slice p'.fa q.fs.length p'.fc, .slice p'.ra q.rs.length p'.rc] 28)) := ((Below.refl _ _).alloc (Nat.le_refl _) _).alloc (by simp) _
  have hA3 := hA2.alloc hA2.size (.cells #[.string ⟨#[107]⟩, .string ⟨#[118]⟩] 30)
  have hA := hA3.alloc hA3.size (.cells #[.string ⟨#[98]⟩, .string ⟨#[99]⟩] 9)
  go_enter Tryd.func4, Tryd.ntmps4
  go_wp2_with fail
  refine (write_is rL ⟨some ⟨w.heap.size + 1 + 1, 0, none⟩, 1, some ⟨w.heap.size + 1 + 1 + 1, 0, none⟩, 2⟩ _ (HE.out.below hA) ⟨?_, ?_, Nat.le_refl _, Nat.le_refl _, show 1 ≤ maxLen from by unfold maxLen; omega, show 2 ≤ maxLen from by unfold maxLen; omega⟩ rL_text ((RecL.err_ok rL).2 rL_ok)).mono ?_
  · intro k f hf
    have e : k = 0 := by have := (List.getElem?_eq_some_iff.1 hf).1; have : k < 1 := this; omega
    subst e
    have e : f = ⟨⟨#[107]⟩, ⟨#[118]⟩⟩ := by simpa [rL] using hf.symm
    subst e
    exact ⟨_, 0, rfl, by simp [go_sem], by simp [go_sem]⟩
  · intro k x hx
    match k, hx with
    | 0, hx =>
      have e : x = ⟨#[98]⟩ := by simpa [rL] using hx.symm
      subst e
      exact ⟨_, 0, rfl, by simp [go_sem]⟩
    | 1, hx =>
      have e : x = ⟨#[99]⟩ := by simpa [rL] using hx.symm
      subst e
      exact ⟨_, 0, rfl, by simp [go_sem]⟩
    | k + 2, hx => simp [rL] at hx
  rintro e w1 ⟨rfl, hb1⟩
  have hB1 : Below w.heap.size w w1 := hA.trans (hb1.mono hA.size)
  have A1 : Held r p w.heap.size w1 := Held.below ⟨by simp [go_sem], by simp [go_sem], by simp [go_sem], by simp [go_sem]⟩ hb1
  have D1 : Held q p' (w.heap.size + 1) w1 := Held.below ⟨by simp [go_sem], by simp [go_sem], by simp [go_sem], by simp [go_sem]⟩ hb1
  obtain ⟨a0, a1, a2, a3⟩ := id A1
  have al := A1.lt
  have l0 : ((⟨#[97, 59, 51, 59, 107, 61, 118, 59, 98, 44, 99]⟩ : ByteArray).toList == (⟨#[97, 59, 51, 59, 107, 61, 118, 59, 98, 44, 99]⟩ : ByteArray).toList) = true := by simp
  clear hA2 hA3 hA hb1
  go_wp2_with fail
  refine (write_is r p _ (HE.out.below hB1) (HI.out.below hB1) HS.out HER.out).mono ?_
  rintro e w2 ⟨rfl, hb2⟩
  have hB2 : Below w.heap.size w w2 := hB1.trans (hb2.mono hB1.size)
  have A2 := A1.below hb2
  have D2 := D1.below hb2
  clear A1 D1 a0 a1 a2 a3 al hb2 hB1 l0
  obtain ⟨d0, d1, d2, d3⟩ := id D2
  have dl := D2.lt
  go_wp2_with fail
  refine (write_is q p' _ (HE.out.below hB2) (HI'.out.below hB2) HT.out HEQ.out).mono ?_
  rintro e w3 ⟨rfl, hb3⟩
  have hB3 : Below w.heap.size w w3 := hB2.trans (hb3.mono hB2.size)
  have A3 := A2.below hb3
  have D3 := D2.below hb3
  clear A2 D2 d0 d1 d2 d3 dl hb3 hB2
  by_cases he : er = 0
  · subst he
    obtain rfl : S = bs r.text := HS.out.symm.trans (wrS_ok HER.out)
    have HRT := Lib.hid (rd_text HER.out)
    have HSZ := Lib.hid (show (bs r.text).size < 4294967281 from by
      have := text_len ((RecL.err_ok r).1 HER.out)
      rw [size_len, data_bs]
      omega)
    go_wp2_with fail
    refine (read_is (bs r.text) w3 (HE.out.below hB3) HSZ.out HRT.out.1 HRT.out.2).mono ?_
    rintro e w4 ⟨p3, rfl, hi3, hb4⟩
    have hB4 : Below w.heap.size w w4 := hB3.trans (hb4.mono hB3.size)
    have A4 := A3.below hb4
    have D4 := D3.below hb4
    have hn4 : Below w4.heap.size w4 (w4.alloc (.cells #[.string r.id, .int .i64 r.cats, .slice p3.fa r.fs.length p3.fc, .slice p3.ra r.rs.length p3.rc] 28)) := (Below.refl _ _).alloc (Nat.le_refl _) _
    have hB4a : Below w.heap.size w (w4.alloc (.cells #[.string r.id, .int .i64 r.cats, .slice p3.fa r.fs.length p3.fc, .slice p3.ra r.rs.length p3.rc] 28)) := hB4.alloc hB4.size _
    have HI3 := Lib.hid hi3
    obtain ⟨a0, a1, a2, a3⟩ := id A4
    have al := A4.lt
    clear A3 D3 hb4 hi3 hB3
    go_wp2_with fail
    refine (same_is (b := true) r r p3 p _ (HI3.out.below hn4) (HI.out.below hB4a) (by simp)).mono ?_
    rintro e w5 ⟨rfl, hb5⟩
    have hB5 : Below w.heap.size w w5 := hB4a.trans (hb5.mono hB4a.size)
    have A5 := (A4.below hn4).below hb5
    have D5 := (D4.below hn4).below hb5
    clear A4 D4 hb5 a0 a1 a2 a3 al hB4 hB4a HI3 hn4
    by_cases he2 : eq = 0
    · subst he2
      obtain rfl : T = bs q.text := HT.out.symm.trans (wrS_ok HEQ.out)
      obtain ⟨bb, hbb⟩ : ∃ bb, decide (r = q) = bb := ⟨_, rfl⟩
      have HBB := Lib.hid hbb
      have lt : ((bs r.text).toList == (bs q.text).toList) = bb := by
        rw [← hbb]
        by_cases h : r = q
        · rw [decide_eq_true h, h]
          simp
        · rw [decide_eq_false h]
          exact sEq_false.2 fun k => h ((text_inj ((RecL.err_ok r).1 HER.out) ((RecL.err_ok q).1 HEQ.out)).1 (bs_inj k))
      obtain ⟨a0, a1, a2, a3⟩ := id A5
      have al := A5.lt
      obtain ⟨d0, d1, d2, d3⟩ := id D5
      have dl := D5.lt
      clear hbb
      go_wp2_with fail
      refine (same_is r q p p' _ (HI.out.below hB5) (HI'.out.below hB5) HBB.out).mono ?_
      rintro e w6 ⟨rfl, hb6⟩
      have hB6 : Below w.heap.size w w6 := hB5.trans (hb6.mono hB5.size)
      clear A5 D5 hb6 a0 a1 a2 a3 al d0 d1 d2 d3 dl hB5
      cases bb
      · go_wp2_with fail
        refine (read_is s w6 (HE.out.below hB6) hs HR.out HG.out).mono ?_
        rintro e w7 ⟨p4, rfl, hi4, hb7⟩
        have hB7 : Below w.heap.size w w7 := hB6.trans (hb7.mono hB6.size)
        have HI4 := Lib.hid hi4
        have hB4a : Below w.heap.size w (w7.alloc (.cells #[.string R.id, .int .i64 R.cats, .slice p4.fa R.fs.length p4.fc, .slice p4.ra R.rs.length p4.rc] 28)) := hB7.alloc hB7.size _
        have hb4a : Below w7.heap.size w7 (w7.alloc (.cells #[.string R.id, .int .i64 R.cats, .slice p4.fa R.fs.length p4.fc, .slice p4.ra R.rs.length p4.rc] 28)) := (Below.refl _ _).alloc (Nat.le_refl _) _
        have X := held_new R p4 w7
        obtain ⟨x0, x1, x2, x3⟩ := id X
        have xl := X.lt
        clear hi4 hb7
        by_cases hg : g = 0
        · subst hg
          have HW := Lib.hid (rd_ok HR.out HG.out)
          have lS : (s.toList == s.toList) = true := by simp
          go_wp2_with fail
          refine (write_is R p4 _ (HE.out.below hB4a) (HI4.out.below hb4a) HW.out.1 HW.out.2).mono ?_
          rintro e w8 ⟨rfl, hb8⟩
          have hB8 := hB4a.trans (hb8.mono hB4a.size)
          have X8 := X.below hb8
          obtain ⟨x0, x1, x2, x3⟩ := id X8
          have xl := X8.lt
          have HI8 := Lib.hid ((HI4.out.below hb4a).below hb8)
          clear X x0 x1 x2 x3
          obtain ⟨x0, x1, x2, x3⟩ := id X8
          go_wp2_with fail
          refine (recCheck_is R p4 _ HI8.out HW.out.2).mono ?_
          rintro e w9 ⟨rfl, hb9⟩
          have hB9 := hB8.trans (hb9.mono hB8.size)
          clear x0 x1 x2 x3
          go_wp2_with fail
          go_ret
          exact ⟨rfl, hB9⟩
        · have hg1 : (g == 0) = false := by simpa using hg
          have HW := Lib.hid (rd_no HR.out HG.out hg)
          go_wp2_with fail
          refine (same_is (b := true) R RecL.zero p4 At.none _ (HI4.out.below hb4a) (zero_in _) (by rw [HW.out]; simp)).mono ?_
          rintro e w8 ⟨rfl, hb8⟩
          have hB8 := hB4a.trans (hb8.mono hB4a.size)
          go_wp2_with fail
          go_ret
          exact ⟨rfl, hB8⟩
      · go_wp2_with fail
        refine (read_is s w6 (HE.out.below hB6) hs HR.out HG.out).mono ?_
        rintro e w7 ⟨p4, rfl, hi4, hb7⟩
        have hB7 : Below w.heap.size w w7 := hB6.trans (hb7.mono hB6.size)
        have HI4 := Lib.hid hi4
        have hB4a : Below w.heap.size w (w7.alloc (.cells #[.string R.id, .int .i64 R.cats, .slice p4.fa R.fs.length p4.fc, .slice p4.ra R.rs.length p4.rc] 28)) := hB7.alloc hB7.size _
        have hb4a : Below w7.heap.size w7 (w7.alloc (.cells #[.string R.id, .int .i64 R.cats, .slice p4.fa R.fs.length p4.fc, .slice p4.ra R.rs.length p4.rc] 28)) := (Below.refl _ _).alloc (Nat.le_refl _) _
        have X := held_new R p4 w7
        obtain ⟨x0, x1, x2, x3⟩ := id X
        have xl := X.lt
        clear hi4 hb7
        by_cases hg : g = 0
        · subst hg
          have HW := Lib.hid (rd_ok HR.out HG.out)
          have lS : (s.toList == s.toList) = true := by simp
          go_wp2_with fail
          refine (write_is R p4 _ (HE.out.below hB4a) (HI4.out.below hb4a) HW.out.1 HW.out.2).mono ?_
          rintro e w8 ⟨rfl, hb8⟩
          have hB8 := hB4a.trans (hb8.mono hB4a.size)
          have X8 := X.below hb8
          obtain ⟨x0, x1, x2, x3⟩ := id X8
          have xl := X8.lt
          have HI8 := Lib.hid ((HI4.out.below hb4a).below hb8)
          clear X x0 x1 x2 x3
          obtain ⟨x0, x1, x2, x3⟩ := id X8
          go_wp2_with fail
          refine (recCheck_is R p4 _ HI8.out HW.out.2).mono ?_
          rintro e w9 ⟨rfl, hb9⟩
          have hB9 := hB8.trans (hb9.mono hB8.size)
          clear x0 x1 x2 x3
          go_wp2_with fail
          go_ret
          exact ⟨rfl, hB9⟩
        · have hg1 : (g == 0) = false := by simpa using hg
          have HW := Lib.hid (rd_no HR.out HG.out hg)
          go_wp2_with fail
          refine (same_is (b := true) R RecL.zero p4 At.none _ (HI4.out.below hb4a) (zero_in _) (by rw [HW.out]; simp)).mono ?_
          rintro e w8 ⟨rfl, hb8⟩
          have hB8 := hB4a.trans (hb8.mono hB4a.size)
          go_wp2_with fail
          go_ret
          exact ⟨rfl, hB8⟩
    · have he3 : (eq == 0) = false := by simpa using he2
      clear A5 D5
      go_wp2_with fail
      refine (read_is s w5 (HE.out.below hB5) hs HR.out HG.out).mono ?_
      rintro e w6 ⟨p4, rfl, hi4, hb6⟩
      have hB6 : Below w.heap.size w w6 := hB5.trans (hb6.mono hB5.size)
      have HI4 := Lib.hid hi4
      have hB4a : Below w.heap.size w (w6.alloc (.cells #[.string R.id, .int .i64 R.cats, .slice p4.fa R.fs.length p4.fc, .slice p4.ra R.rs.length p4.rc] 28)) := hB6.alloc hB6.size _
      have hb4a : Below w6.heap.size w6 (w6.alloc (.cells #[.string R.id, .int .i64 R.cats, .slice p4.fa R.fs.length p4.fc, .slice p4.ra R.rs.length p4.rc] 28)) := (Below.refl _ _).alloc (Nat.le_refl _) _
      have X := held_new R p4 w6
      obtain ⟨x0, x1, x2, x3⟩ := id X
      have xl := X.lt
      clear hi4 hb6
      by_cases hg : g = 0
      · subst hg
        have HW := Lib.hid (rd_ok HR.out HG.out)
        have lS : (s.toList == s.toList) = true := by simp
        go_wp2_with fail
        refine (write_is R p4 _ (HE.out.below hB4a) (HI4.out.below hb4a) HW.out.1 HW.out.2).mono ?_
        rintro e w8 ⟨rfl, hb8⟩
        have hB8 := hB4a.trans (hb8.mono hB4a.size)
        have X8 := X.below hb8
        obtain ⟨x0, x1, x2, x3⟩ := id X8
        have xl := X8.lt
        have HI8 := Lib.hid ((HI4.out.below hb4a).below hb8)
        clear X x0 x1 x2 x3
        obtain ⟨x0, x1, x2, x3⟩ := id X8
        go_wp2_with fail
        refine (recCheck_is R p4 _ HI8.out HW.out.2).mono ?_
        rintro e w9 ⟨rfl, hb9⟩
        have hB9 := hB8.trans (hb9.mono hB8.size)
        clear x0 x1 x2 x3
        go_wp2_with fail
        go_ret
        exact ⟨rfl, hB9⟩
      · have hg1 : (g == 0) = false := by simpa using hg
        have HW := Lib.hid (rd_no HR.out HG.out hg)
        go_wp2_with fail
        refine (same_is (b := true) R RecL.zero p4 At.none _ (HI4.out.below hb4a) (zero_in _) (by rw [HW.out]; simp)).mono ?_
        rintro e w8 ⟨rfl, hb8⟩
        have hB8 := hB4a.trans (hb8.mono hB4a.size)
        go_wp2_with fail
        go_ret
        exact ⟨rfl, hB8⟩
  · have he3 : (er == 0) = false := by simpa using he
    clear A3 D3
    go_wp2_with fail
    refine (read_is s w3 (HE.out.below hB3) hs HR.out HG.out).mono ?_
    rintro e w4 ⟨p4, rfl, hi4, hb4⟩
    have hB4 : Below w.heap.size w w4 := hB3.trans (hb4.mono hB3.size)
    have HI4 := Lib.hid hi4
    have hB4a : Below w.heap.size w (w4.alloc (.cells #[.string R.id, .int .i64 R.cats, .slice p4.fa R.fs.length p4.fc, .slice p4.ra R.rs.length p4.rc] 28)) := hB4.alloc hB4.size _
    have hb4a : Below w4.heap.size w4 (w4.alloc (.cells #[.string R.id, .int .i64 R.cats, .slice p4.fa R.fs.length p4.fc, .slice p4.ra R.rs.length p4.rc] 28)) := (Below.refl _ _).alloc (Nat.le_refl _) _
    have X := held_new R p4 w4
    obtain ⟨x0, x1, x2, x3⟩ := id X
    have xl := X.lt
    clear hi4 hb4
    by_cases hg : g = 0
    · subst hg
      have HW := Lib.hid (rd_ok HR.out HG.out)
      have lS : (s.toList == s.toList) = true := by simp
      go_wp2_with fail
      refine (write_is R p4 _ (HE.out.below hB4a) (HI4.out.below hb4a) HW.out.1 HW.out.2).mono ?_
      rintro e w8 ⟨rfl, hb8⟩
      have hB8 := hB4a.trans (hb8.mono hB4a.size)
      have X8 := X.below hb8
      obtain ⟨x0, x1, x2, x3⟩ := id X8
      have xl := X8.lt
      have HI8 := Lib.hid ((HI4.out.below hb4a).below hb8)
      clear X x0 x1 x2 x3
      obtain ⟨x0, x1, x2, x3⟩ := id X8
      go_wp2_with fail
      refine (recCheck_is R p4 _ HI8.out HW.out.2).mono ?_
      rintro e w9 ⟨rfl, hb9⟩
      have hB9 := hB8.trans (hb9.mono hB8.size)
      clear x0 x1 x2 x3
      go_wp2_with fail
      go_ret
      exact ⟨rfl, hB9⟩
    · have hg1 : (g == 0) = false := by simpa using hg
      have HW := Lib.hid (rd_no HR.out HG.out hg)
      go_wp2_with fail
      refine (same_is (b := true) R RecL.zero p4 At.none _ (HI4.out.below hb4a) (zero_in _) (by rw [HW.out]; simp)).mono ?_
      rintro e w8 ⟨rfl, hb8⟩
      have hB8 := hB4a.trans (hb8.mono hB4a.size)
      go_wp2_with fail
      go_ret
      exact ⟨rfl, hB8⟩
end Go.Proofs.YtbcmdjfgncgmdaaDoor
