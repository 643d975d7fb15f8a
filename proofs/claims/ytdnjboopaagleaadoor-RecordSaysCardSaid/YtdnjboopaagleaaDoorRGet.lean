/- Contract of record.Get. -/
import Derived.Test.YtdnjboopaagleaaDoorRCheck
import Derived.Test.YtdnjboopaagleaaDoorRPlace
set_option linter.unusedVariables false
set_option linter.unusedSimpArgs false
set_option maxRecDepth 100000
namespace Go.Proofs.YtdnjboopaagleaaDoor
open Go.RowKit Go.Sort

set_option maxHeartbeats 1000000 in
theorem get_err (r : RecL) (p : At) (k : ByteArray) (w : World) (hi : r.in_ p w) (h : r.err ≠ 0) :
    Calls Tryd.prog 6 #[r.v p, .string k] w fun e w' => e = .returned (.tuple #[.string ⟨#[]⟩, .int .i64 r.err]) ∧ Below w.heap.size w w' := by
  have hA := r.box_below p w
  have HI := Lib.hid hi
  clear hi
  obtain ⟨n, hn⟩ : ∃ n, r.err = n := ⟨_, rfl⟩
  have hb : (n == 0) = false := by rw [← hn]; simpa using h
  have hb' : ¬ n = 0 := by rw [← hn]; exact h
  rw [hn]
  have HN := Lib.hid hn
  clear hn h
  go_enter Tryd.func6, Tryd.ntmps6
  go_wp2_with fail
  refine (recCheck_is r p _ (HI.out.below hA) HN.out).mono ?_
  rintro e w1 ⟨rfl, hb1⟩
  have hB1 : Below w.heap.size w w1 := hA.trans (hb1.mono (by simp))
  go_wp2_with fail
  go_ret2
  exact ⟨rfl, hB1⟩

set_option maxHeartbeats 1000000 in
theorem get_none (r : RecL) (p : At) (k : ByteArray) (w : World) (hi : r.in_ p w) (h : r.Ok) (ht : there r.fs k = false) :
    Calls Tryd.prog 6 #[r.v p, .string k] w fun e w' => e = .returned (.tuple #[.string ⟨#[]⟩, .int .i64 4]) ∧ Below w.heap.size w w' := by
  have hA := r.box_below p w
  have HI := Lib.hid hi
  have HO := Lib.hid h
  have HT := Lib.hid ht
  clear hi h ht
  go_enter Tryd.func6, Tryd.ntmps6
  go_wp2_with fail
  refine (recCheck_is r p _ (HI.out.below hA) (r.err_ok.2 HO.out)).mono ?_
  rintro e w1 ⟨rfl, hb1⟩
  have hB1 : Below w.heap.size w w1 := hA.trans (hb1.mono (by simp))
  obtain ⟨hc1, hf1⟩ := bcell hb1
  go_wp2_with fail
  refine (place_any p.fa r.fs p.fc k _ (HI.out.hf.below hB1) HO.out.nf (fOk_asc HO.out.fs)).mono ?_
  rintro e w2 ⟨rfl, hb2⟩
  rw [HT.out]
  have hB2 : Below w.heap.size w w2 := hB1.trans (hb2.mono hB1.size)
  go_wp2_with fail
  go_ret2
  exact ⟨rfl, hB2⟩

set_option maxHeartbeats 1000000 in
theorem get_some (r : RecL) (p : At) (k : ByteArray) (f : FieldL) (w : World) (hi : r.in_ p w) (h : r.Ok) (hf : r.fs[idx r.fs k]? = some f) (hk : f.key = k) :
    Calls Tryd.prog 6 #[r.v p, .string k] w fun e w' => e = .returned (.tuple #[.string f.val, .int .i64 0]) ∧ Below w.heap.size w w' := by
  have hA := r.box_below p w
  have HT : Hid (there r.fs k = true) := (there_iff (fOk_asc h.fs)).2 ⟨f, hf, hk⟩
  have HI := Lib.hid hi
  have HO := Lib.hid h
  have HK := Lib.hid hk
  have HF := Lib.hid hf
  clear hi h hf hk
  go_enter Tryd.func6, Tryd.ntmps6
  go_wp2_with fail
  refine (recCheck_is r p _ (HI.out.below hA) (r.err_ok.2 HO.out)).mono ?_
  rintro e w1 ⟨rfl, hb1⟩
  have hB1 : Below w.heap.size w w1 := hA.trans (hb1.mono (by simp))
  have z1 : w.heap.size < w1.heap.size := by have := hb1.size; simp at this; omega
  obtain ⟨hc1, hf1⟩ := bcell hb1
  go_wp2_with fail
  refine (place_any p.fa r.fs p.fc k _ (HI.out.hf.below hB1) HO.out.nf (fOk_asc HO.out.fs)).mono ?_
  rintro e w2 ⟨rfl, hb2⟩
  rw [HT.out]
  have hB2 : Below w.heap.size w w2 := hB1.trans (hb2.mono hB1.size)
  obtain ⟨hc2, hf2⟩ := bcell hb2
  obtain ⟨b, off, e, c1, c2⟩ := (HI.out.hf.below hB2) _ f HF.out
  have j0 : idx r.fs k < r.fs.length := (List.getElem?_eq_some_iff.1 HF.out).1
  obtain ⟨pa, pc, qa, qc⟩ := p
  simp only at e
  subst e
  generalize idx r.fs k = I at c1 c2 j0 ⊢
  go_wp2_with fail
  go_ret2
  exact ⟨rfl, hB2⟩

/-- P17 in one -/
theorem get_any (r : RecL) (p : At) (k : ByteArray) (w : World) (hi : r.in_ p w) :
    Calls Tryd.prog 6 #[r.v p, .string k] w fun e w' => e = .returned (.tuple #[.string (r.get k), .int .i64 (r.getErr k)]) ∧ Below w.heap.size w w' := by
  unfold RecL.get RecL.getErr
  by_cases h : r.err = 0
  · have ho := r.err_ok.1 h
    rw [if_neg (fun k => k h), if_neg (fun k => k h)]
    cases ht : there r.fs k with
    | false =>
      rw [look_none.2 ht, if_pos rfl]
      exact get_none r p k w hi ho ht
    | true =>
      obtain ⟨f, hf, hk⟩ := (there_iff (fOk_asc ho.fs)).1 ht
      rw [look_there (fOk_asc ho.fs) hf hk, if_neg (by simp)]
      exact get_some r p k f w hi ho hf hk
  · rw [if_pos h, if_pos h]
    exact get_err r p k w hi h
theorem get_is {v : ByteArray} {n : Int} (r : RecL) (p : At) (k : ByteArray) (w : World) (hi : r.in_ p w) (h1 : r.get k = v) (h2 : r.getErr k = n) :
    Calls Tryd.prog 6 #[r.v p, .string k] w fun e w' => e = .returned (.tuple #[.string v, .int .i64 n]) ∧ Below w.heap.size w w' := by
  subst h1 h2
  exact get_any r p k w hi
end Go.Proofs.YtdnjboopaagleaaDoor
