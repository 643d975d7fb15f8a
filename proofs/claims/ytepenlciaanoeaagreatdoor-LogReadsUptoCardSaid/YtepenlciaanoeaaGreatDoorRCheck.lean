/- Contracts of label.Check and record.Check. -/
import Derived.Test.YtepenlciaanoeaaGreatDoorRFlds
set_option linter.unusedVariables false
set_option linter.unusedSimpArgs false
set_option maxRecDepth 100000
namespace Go.Proofs.YtepenlciaanoeaaGreatDoor
open Go.RowKit Go.Sort

set_option maxHeartbeats 400000 in
theorem lab_ok (l c : Int) (w : World) (h1 : 0 ≤ l) (h2 : l ≤ 3) (h3 : 0 ≤ c) (h4 : c ≤ 255) :
    Calls Tryz.prog 170 #[.agg #[.int .i64 l, .int .i64 c]] w fun e w' => e = .returned (.int .i64 0) ∧ Below w.heap.size w w' := by
  have k1 : ¬ l < 0 := by omega
  have k2 : ¬ 3 < l := by omega
  have k4 : c < 256 := by omega
  go_enter Tryz.func170, Tryz.ntmps170
  go_wp2
  all_goals go_ret
  all_goals exact ⟨rfl, by go_grown⟩

set_option maxHeartbeats 400000 in
theorem lab_bad (c : Int) (w : World) (h : ¬ (0 ≤ c ∧ c ≤ 255)) :
    Calls Tryz.prog 170 #[.agg #[.int .i64 0, .int .i64 c]] w fun e w' => e = .returned (.int .i64 1) ∧ Below w.heap.size w w' := by
  by_cases h3 : 0 ≤ c
  · have h4 : ¬ c < 256 := by omega
    clear h
    go_enter Tryz.func170, Tryz.ntmps170
    go_wp2
    all_goals go_ret
    all_goals exact ⟨rfl, by go_grown⟩
  · clear h
    go_enter Tryz.func170, Tryz.ntmps170
    go_wp2
    all_goals go_ret
    all_goals exact ⟨rfl, by go_grown⟩

/-- the block of a record that a call is handed -/
abbrev RecL.box (r : RecL) (p : At) (w : World) : World := w.alloc (.cells #[.string r.id, .int .i64 r.cats, .slice p.fa r.fs.length p.fc, .slice p.ra r.rs.length p.rc] 39)
theorem RecL.box_below (r : RecL) (p : At) (w : World) : Below w.heap.size w (r.box p w) := (Below.refl _ _).alloc (Nat.le_refl _) _

set_option maxHeartbeats 1000000 in
theorem recCheck_id (r : RecL) (p : At) (w : World) (h : isNm r.id = false) :
    Calls Tryz.prog 112 #[r.v p] w fun e w' => e = .returned (.int .i64 3) ∧ Below w.heap.size w w' := by
  have H := Lib.hid h
  clear h
  have hA := r.box_below p w
  go_enter Tryz.func112, Tryz.ntmps112
  go_wp2_with fail
  refine (id_is r.id _ H.out).mono ?_
  rintro e w1 ⟨rfl, hb1⟩
  have hB1 : Below w.heap.size w w1 := hA.trans (hb1.mono (by simp))
  go_wp2_with fail
  go_ret
  exact ⟨rfl, hB1⟩

set_option maxHeartbeats 1000000 in
theorem recCheck_cats (r : RecL) (p : At) (w : World) (h : isNm r.id = true) (hc : ¬ (0 ≤ r.cats ∧ r.cats ≤ 255)) :
    Calls Tryz.prog 112 #[r.v p] w fun e w' => e = .returned (.int .i64 1) ∧ Below w.heap.size w w' := by
  have H := Lib.hid h
  have HC := Lib.hid hc
  clear h hc
  have hA := r.box_below p w
  go_enter Tryz.func112, Tryz.ntmps112
  go_wp2_with fail
  refine (id_is r.id _ H.out).mono ?_
  rintro e w1 ⟨rfl, hb1⟩
  have hB1 : Below w.heap.size w w1 := hA.trans (hb1.mono (by simp))
  obtain ⟨hc1, hf1⟩ := bcell hb1
  go_wp2_with fail
  refine (lab_bad r.cats _ HC.out).mono ?_
  rintro e w2 ⟨rfl, hb2⟩
  have hB2 : Below w.heap.size w w2 := hB1.trans (hb2.mono hB1.size)
  go_wp2_with fail
  go_ret
  exact ⟨rfl, hB2⟩

set_option maxHeartbeats 1000000 in
theorem recCheck_large (r : RecL) (p : At) (w : World) (h : isNm r.id = true) (hc : 0 ≤ r.cats ∧ r.cats ≤ 255) (hl : 6 < r.fs.length ∨ 4 < r.rs.length) :
    Calls Tryz.prog 112 #[r.v p] w fun e w' => e = .returned (.int .i64 2) ∧ Below w.heap.size w w' := by
  have H := Lib.hid h
  have HC := Lib.hid hc
  clear h hc
  have hA := r.box_below p w
  have h6 : (6 : Int) < (r.fs.length : Int) ∨ (¬ (6 : Int) < (r.fs.length : Int) ∧ (4 : Int) < (r.rs.length : Int)) := by omega
  clear hl
  rcases h6 with h6 | ⟨h6, h4⟩
  all_goals
    go_enter Tryz.func112, Tryz.ntmps112
    go_wp2_with fail
    refine (id_is r.id _ H.out).mono ?_
    rintro e w1 ⟨rfl, hb1⟩
    have hB1 : Below w.heap.size w w1 := hA.trans (hb1.mono (by simp))
    obtain ⟨hc1, hf1⟩ := bcell hb1
    have z1 : w.heap.size < w1.heap.size := by have := hb1.size; simp at this; omega
    go_wp2_with fail
    refine (lab_ok 0 r.cats _ (by omega) (by omega) HC.out.1 HC.out.2).mono ?_
    rintro e w2 ⟨rfl, hb2⟩
    have hB2 : Below w.heap.size w w2 := hB1.trans (hb2.mono hB1.size)
    obtain ⟨hc2, hf2⟩ := bcell hb2
    go_wp2_with fail
    go_ret
    exact ⟨rfl, hB2⟩

set_option maxHeartbeats 1000000 in
theorem recCheck_fs (r : RecL) (p : At) (w : World) (hi : r.in_ p w) (h : isNm r.id = true) (hc : 0 ≤ r.cats ∧ r.cats ≤ 255) (hl : r.fs.length ≤ 6 ∧ r.rs.length ≤ 4) (hf : ¬ fOk r.fs r.fs.length) :
    Calls Tryz.prog 112 #[r.v p] w fun e w' => e = .returned (.int .i64 3) ∧ Below w.heap.size w w' := by
  have H := Lib.hid h
  have HC := Lib.hid hc
  have HF := Lib.hid hf
  clear h hc hf
  have hA := r.box_below p w
  have hm1 : r.fs.length ≤ maxLen := Nat.le_trans hi.fl hi.fm
  have HM := Lib.hid hm1
  clear hm1
  have h6 : ¬ (6 : Int) < (r.fs.length : Int) := by omega
  have h4 : ¬ (4 : Int) < (r.rs.length : Int) := by omega
  clear hl
  have HI := Lib.hid hi
  clear hi
  go_enter Tryz.func112, Tryz.ntmps112
  go_wp2_with fail
  refine (id_is r.id _ H.out).mono ?_
  rintro e w1 ⟨rfl, hb1⟩
  have hB1 : Below w.heap.size w w1 := hA.trans (hb1.mono (by simp))
  obtain ⟨hc1, hf1⟩ := bcell hb1
  have z1 : w.heap.size < w1.heap.size := by have := hb1.size; simp at this; omega
  go_wp2_with fail
  refine (lab_ok 0 r.cats _ (by omega) (by omega) HC.out.1 HC.out.2).mono ?_
  rintro e w2 ⟨rfl, hb2⟩
  have hB2 : Below w.heap.size w w2 := hB1.trans (hb2.mono hB1.size)
  obtain ⟨hc2, hf2⟩ := bcell hb2
  go_wp2_with fail
  refine (areFields_no p.fa r.fs p.fc w2 (HI.out.hf.below hB2) HM.out HF.out).mono ?_
  rintro e w3 ⟨rfl, hb3⟩
  have hB3 : Below w.heap.size w w3 := hB2.trans (hb3.mono hB2.size)
  go_wp2_with fail
  go_ret
  exact ⟨rfl, hB3⟩

set_option maxHeartbeats 1000000 in
theorem recCheck_end (r : RecL) (p : At) (w : World) (hi : r.in_ p w) (h : isNm r.id = true) (hc : 0 ≤ r.cats ∧ r.cats ≤ 255) (hl : r.fs.length ≤ 6 ∧ r.rs.length ≤ 4) (hf : fOk r.fs r.fs.length) {b : Bool}
    (hr : ∀ W, Below w.heap.size w W → Calls Tryz.prog 182 #[.slice p.ra r.rs.length p.rc] W fun e w' => e = .returned (.bool b) ∧ Below W.heap.size W w') :
    Calls Tryz.prog 112 #[r.v p] w fun e w' => e = .returned (.int .i64 (if b = true then 0 else 3)) ∧ Below w.heap.size w w' := by
  have H := Lib.hid h
  have HC := Lib.hid hc
  have HF := Lib.hid hf
  have HR := Lib.hid hr
  clear h hc hf hr
  have hA := r.box_below p w
  have hm1 : r.fs.length ≤ maxLen := Nat.le_trans hi.fl hi.fm
  have HM := Lib.hid hm1
  clear hm1
  have h6 : ¬ (6 : Int) < (r.fs.length : Int) := by omega
  have h4 : ¬ (4 : Int) < (r.rs.length : Int) := by omega
  clear hl
  have HI := Lib.hid hi
  clear hi
  cases b
  all_goals
    go_enter Tryz.func112, Tryz.ntmps112
    go_wp2_with fail
    refine (id_is r.id _ H.out).mono ?_
    rintro e w1 ⟨rfl, hb1⟩
    have hB1 : Below w.heap.size w w1 := hA.trans (hb1.mono (by simp))
    obtain ⟨hc1, hf1⟩ := bcell hb1
    have z1 : w.heap.size < w1.heap.size := by have := hb1.size; simp at this; omega
    go_wp2_with fail
    refine (lab_ok 0 r.cats _ (by omega) (by omega) HC.out.1 HC.out.2).mono ?_
    rintro e w2 ⟨rfl, hb2⟩
    have hB2 : Below w.heap.size w w2 := hB1.trans (hb2.mono hB1.size)
    obtain ⟨hc2, hf2⟩ := bcell hb2
    have z2 : w.heap.size < w2.heap.size := Nat.lt_of_lt_of_le z1 hb2.size
    go_wp2_with fail
    refine (areFields_yes p.fa r.fs p.fc w2 (HI.out.hf.below hB2) HM.out HF.out).mono ?_
    rintro e w3 ⟨rfl, hb3⟩
    have hB3 : Below w.heap.size w w3 := hB2.trans (hb3.mono hB2.size)
    obtain ⟨hc3, hf3⟩ := bcell hb3
    go_wp2_with fail
    refine (HR.out w3 hB3).mono ?_
    rintro e w4 ⟨rfl, hb4⟩
    have hB4 : Below w.heap.size w w4 := hB3.trans (hb4.mono hB3.size)
    go_wp2_with fail
    go_ret
    exact ⟨rfl, hB4⟩

theorem recCheck_any (r : RecL) (p : At) (w : World) (hi : r.in_ p w) :
    Calls Tryz.prog 112 #[r.v p] w fun e w' => e = .returned (.int .i64 r.err) ∧ Below w.heap.size w w' := by
  unfold RecL.err
  by_cases h1 : isNm r.id = false
  · rw [if_pos h1]
    exact recCheck_id r p w h1
  · rw [if_neg h1]
    have h1 : isNm r.id = true := by simpa using h1
    by_cases h2 : 0 ≤ r.cats ∧ r.cats ≤ 255
    · rw [if_neg (fun k => k h2)]
      by_cases h3 : 6 < r.fs.length ∨ 4 < r.rs.length
      · rw [if_pos h3]
        exact recCheck_large r p w h1 h2 h3
      · rw [if_neg h3]
        have h3 : r.fs.length ≤ 6 ∧ r.rs.length ≤ 4 := by omega
        by_cases h4 : fOk r.fs r.fs.length
        · have hm : r.rs.length ≤ maxLen := Nat.le_trans hi.rl hi.rm
          by_cases h5 : rOk r.rs r.rs.length
          · rw [if_neg (fun k => k ⟨h4, h5⟩)]
            exact recCheck_end r p w hi h1 h2 h3 h4 (b := true) (fun W hW => areRefs_yes p.ra r.rs p.rc W (hi.hr.below hW) hm h5)
          · rw [if_pos (fun k => h5 k.2)]
            exact recCheck_end r p w hi h1 h2 h3 h4 (b := false) (fun W hW => areRefs_no p.ra r.rs p.rc W (hi.hr.below hW) hm h5)
        · rw [if_pos (fun k => h4 k.1)]
          exact recCheck_fs r p w hi h1 h2 h3 h4
    · rw [if_pos h2]
      exact recCheck_cats r p w h1 h2
theorem recCheck_is {n : Int} (r : RecL) (p : At) (w : World) (hi : r.in_ p w) (h : r.err = n) :
    Calls Tryz.prog 112 #[r.v p] w fun e w' => e = .returned (.int .i64 n) ∧ Below w.heap.size w w' := h ▸ recCheck_any r p w hi
end Go.Proofs.YtepenlciaanoeaaGreatDoor
