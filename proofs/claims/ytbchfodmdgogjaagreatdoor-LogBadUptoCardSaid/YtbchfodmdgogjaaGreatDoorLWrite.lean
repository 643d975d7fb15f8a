/- The contract of log.Write. -/
import Derived.Test.YtbchfodmdgogjaaGreatDoorLWof2
import Derived.Test.YtbchfodmdgogjaaGreatDoorLSum
import Derived.Test.YtbchfodmdgogjaaGreatDoorLPure
import Derived.Test.YtbchfodmdgogjaaGreatDoorRRefText
set_option linter.unusedVariables false
set_option linter.unusedSimpArgs false
set_option maxRecDepth 100000
namespace Go.Proofs.YtbchfodmdgogjaaGreatDoor
open Go.RowKit Go.Sort

theorem wordsOf_any (o : OpL) (P : OpP) (w : World) (hE : Env w) (hi : o.in_ P w) (h : logErr o = 0) :
    Calls Tryz.prog 36 #[o.v P] w (NewS w.heap.size (o.words.map bs) w) := by
  rcases logErr_ok h with ⟨h1, _⟩ | ⟨h1, _⟩ | ⟨h1, _⟩
  · exact wordsOf_rules o P w hE hi h1 h
  · exact wordsOf_put o P w hE hi h1 h
  · exact wordsOf_cut o P w hE hi h1 h

set_option maxHeartbeats 4000000 in
theorem logWrite_any (o : OpL) (P : OpP) (w : World) (hE : Env w) (hi : o.in_ P w) :
    Calls Tryz.prog 14 #[o.v P] w fun e w' => e = .returned (.tuple #[.string (wrLine o), .int .i64 (logErr o)]) ∧ Below w.heap.size w w' := by
  have hA := o.box_below P w
  have HI := Lib.hid (hi.below hA)
  have HE := Lib.hid (hE.below hA)
  have HA := Lib.hid hA
  obtain ⟨E, hEr⟩ : ∃ E, logErr o = E := ⟨_, rfl⟩
  rw [hEr]
  have HER := Lib.hid hEr
  obtain ⟨S, hS⟩ : ∃ S, S = wrLine o := ⟨_, rfl⟩
  rw [← hS]
  have HS := Lib.hid hS
  have HC := Lib.hid (logCheck_is o P (o.box P w) (hi.below hA) hEr)
  clear hi hE hA hEr hS
  have hbox := (rfl : o.box P w = o.box P w)
  go_enter Tryz.func14, Tryz.ntmps14
  go_wp2_with fail
  refine HC.out.mono ?_
  rintro e w1 ⟨rfl, hb1⟩
  have hB1 := HA.out.trans (hb1.mono HA.out.size)
  have HI1 := Lib.hid (HI.out.below hb1)
  have HE1 := Lib.hid (HE.out.below hb1)
  have HB1 := Lib.hid hB1
  obtain ⟨hc1, hf1⟩ := bcell hb1
  by_cases h0 : E = 0
  · subst h0
    have d0 : w1.cell? ⟨w.heap.size, 0, none⟩ = some (.int .i64 o.kind) := by rw [hc1 _ _ (by simp)]; simp [go_sem]
    have d1 : w1.cell? ⟨w.heap.size, 1, none⟩ = some (.int .i64 o.who.role) := by rw [hc1 _ _ (by simp)]; simp [go_sem]
    have d2 : w1.cell? ⟨w.heap.size, 2, none⟩ = some (.int .i64 o.who.why) := by rw [hc1 _ _ (by simp)]; simp [go_sem]
    have d3 : w1.cell? ⟨w.heap.size, 3, none⟩ = some (.int .i64 o.who.time) := by rw [hc1 _ _ (by simp)]; simp [go_sem]
    have d4 : w1.cell? ⟨w.heap.size, 4, none⟩ = some (.slice P.ra o.n P.rc) := by rw [hc1 _ _ (by simp)]; simp [go_sem]
    have d5 : w1.cell? ⟨w.heap.size, 5, none⟩ = some (.string o.r.id) := by rw [hc1 _ _ (by simp)]; simp [go_sem]
    have d6 : w1.cell? ⟨w.heap.size, 6, none⟩ = some (.int .i64 o.r.cats) := by rw [hc1 _ _ (by simp)]; simp [go_sem]
    have d7 : w1.cell? ⟨w.heap.size, 7, none⟩ = some (.slice P.p.fa o.r.fs.length P.p.fc) := by rw [hc1 _ _ (by simp)]; simp [go_sem]
    have d8 : w1.cell? ⟨w.heap.size, 8, none⟩ = some (.slice P.p.ra o.r.rs.length P.p.rc) := by rw [hc1 _ _ (by simp)]; simp [go_sem]
    have d9 : w1.cell? ⟨w.heap.size, 9, none⟩ = some (.string o.id) := by rw [hc1 _ _ (by simp)]; simp [go_sem]
    have d10 : w1.cell? ⟨w.heap.size, 10, none⟩ = some (.string o.f.key) := by rw [hc1 _ _ (by simp)]; simp [go_sem]
    have d11 : w1.cell? ⟨w.heap.size, 11, none⟩ = some (.string o.f.val) := by rw [hc1 _ _ (by simp)]; simp [go_sem]
    have HWF := Lib.hid (wordsOf_any o P w1 HE1.out HI1.out HER.out)
    obtain ⟨SD, hSD⟩ : ∃ SD, SD = o.said := ⟨_, rfl⟩
    obtain ⟨N, hN⟩ : ∃ N, sumL o.said = N := ⟨_, rfl⟩
    have hsl := said_len HER.out
    have hnl := sumL_lt o.said
    rw [← hSD] at hsl
    rw [hN] at hnl
    have hil := num_len (n := (N : Int)) (by omega) (by omega)
    have HSD := Lib.hid hSD
    have HN := Lib.hid hN
    obtain ⟨xs, hxs⟩ : ∃ xs, xs = o.words.map bs := ⟨_, rfl⟩
    rw [← hxs] at HWF
    have HX := Lib.hid hxs
    obtain ⟨T1, hT1⟩ : ∃ T1, T1 = SD ++ [32, 61] := ⟨_, rfl⟩
    obtain ⟨T2, hT2⟩ : ∃ T2, T2 = T1 ++ Lib.itoa (N : Int) := ⟨_, rfl⟩
    have l1 : T1.length ≤ 64495 := by rw [hT1, List.length_append]; simp; omega
    have l2 : T2.length ≤ 64505 := by rw [hT2, List.length_append]; omega
    have hse : S = bs (T2 ++ [10]) := by
      rw [HS.out]
      unfold wrLine
      rw [if_pos HER.out, line_eq, hT2, hT1, hSD, hN]
      simp
    have a1 : ∀ W, (Op.stringOp .add (bs SD) ⟨#[32, 61]⟩).run Tryz.prog W = .ok (.string (bs T1)) W := add_run (by rw [bs_size]; show SD.length + 2 ≤ _; omega) (data_inj (by rw [data_append, data_bs, data_bs, hT1]))
    have a2 : ∀ W, (Op.stringOp .add (bs T1) (bs (Lib.itoa (N : Int)))).run Tryz.prog W = .ok (.string (bs T2)) W := add_run (by rw [bs_size, bs_size]; omega) (by rw [bs_append, hT2])
    have a3 : ∀ W, (Op.stringOp .add (bs T2) ⟨#[10]⟩).run Tryz.prog W = .ok (.string S) W := add_run (by rw [bs_size]; show T2.length + 1 ≤ _; omega) (data_inj (by rw [data_append, data_bs, hse, data_bs]))
    clear hc1 hf1 hb1 hB1 hT1 hT2 l1 l2 hse hSD hN hxs HC
    go_wp2_with fail
    refine HWF.out.mono ?_
    rintro e w2 ⟨A, c, rfl, ho, hb2⟩
    have HE2 := Lib.hid (HE1.out.below hb2)
    have hB2 := HB1.out.trans (hb2.mono HB1.out.size)
    have HJ : Hid (Calls Tryz.prog 35 #[.slice A xs.length c, .string ⟨#[32]⟩] w2 fun e w' => e = .returned (.string (bs SD)) ∧ Below w2.heap.size w2 w') := by
      obtain ⟨hs, hlc, _⟩ := OwnS.sl ho
      have hm : xs.map (·.data.toList) = o.words := by
        rw [HX.out, List.map_map]
        have : ((fun s : ByteArray => s.data.toList) ∘ bs) = id := funext fun l => data_bs l
        rw [this, List.map_id]
      have he : Lib.join (xs.map (·.data.toList)) (⟨#[32]⟩ : ByteArray).data.toList = SD := by rw [hm, HSD.out]; rfl
      have := join_any A xs c ⟨#[32]⟩ w2 hs hlc (by rw [HX.out, List.length_map]; have := (words_len HER.out).2; omega) (by rw [he]; omega)
      rw [he] at this
      exact this
    have HB2 := Lib.hid hB2
    clear ho hb2 hB2 d0 d1 d2 d3 d4 d5 d6 d7 d8 d9 d10 d11 HWF
    go_wp2_with fail
    refine HJ.out.mono ?_
    rintro e w3 ⟨rfl, hb3⟩
    have HE3 := Lib.hid (HE2.out.below hb3)
    have HB3 := Lib.hid (HB2.out.trans (hb3.mono HB2.out.size))
    clear hb3
    go_wp2_with fail
    refine (logSum_is (n := N) (bs SD) w3 (by rw [bs_size]; omega) (by rw [data_bs, HSD.out]; exact HN.out)).mono ?_
    rintro e w4 ⟨rfl, hb4⟩
    have HE4 := Lib.hid (HE3.out.below hb4)
    have HB4 := Lib.hid (HB3.out.trans (hb4.mono HB3.out.size))
    clear hb4
    go_wp2_with fail
    refine (itoa_any (N : Int) w4 HE4.out (by omega) (by omega)).mono ?_
    rintro e w5 ⟨rfl, hb5⟩
    have HB5 := Lib.hid (HB4.out.trans (hb5.mono HB4.out.size))
    clear hb5
    go_wp2_with fail
    go_ret2
    exact ⟨rfl, HB5.out⟩
  · have h0f : (E == 0) = false := by simpa using h0
    have hse : S = ⟨#[]⟩ := by
      rw [HS.out]
      unfold wrLine
      rw [if_neg (fun k => h0 (HER.out.symm.trans k))]
    subst hse
    clear hc1 hf1 hb1 hB1 HC
    go_wp2_with fail
    go_ret2
    exact ⟨rfl, HB1.out⟩
theorem logWrite_is {S : ByteArray} {n : Int} (o : OpL) (P : OpP) (w : World) (hE : Env w) (hi : o.in_ P w) (hS : wrLine o = S) (hn : logErr o = n) :
    Calls Tryz.prog 14 #[o.v P] w fun e w' => e = .returned (.tuple #[.string S, .int .i64 n]) ∧ Below w.heap.size w w' := by
  have := logWrite_any o P w hE hi
  rw [hS, hn] at this
  exact this
end Go.Proofs.YtbchfodmdgogjaaGreatDoor
