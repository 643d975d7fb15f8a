/- The contract of log.wordsOf, of a put and of a cut. -/
import Derived.Test.YtbchfodmdgogjaaGreatDoorLWof
set_option linter.unusedVariables false
set_option linter.unusedSimpArgs false
set_option maxRecDepth 100000
namespace Go.Proofs.YtbchfodmdgogjaaGreatDoor
open Go.RowKit Go.Sort

set_option maxHeartbeats 4000000 in
theorem wordsOf_put (o : OpL) (P : OpP) (w : World) (hE : Env w) (hi : o.in_ P w) (hk : o.kind = 2) (h : logErr o = 0) :
    Calls Tryz.prog 36 #[o.v P] w (NewS w.heap.size (o.words.map bs) w) := by
  have hA := o.box_below P w
  have HI := Lib.hid (hi.below hA)
  have HE := Lib.hid (hE.below hA)
  have HA := Lib.hid hA
  have HW : Hid (o.words.map bs = (bs wPut :: o.who.words.map bs) ++ [bs o.r.text]) := by show _ = _; unfold OpL.words; rw [if_neg (by omega), if_pos hk]; simp
  obtain ⟨hw, hr⟩ : o.who.ok ∧ o.r.err = 0 := by
    rcases logErr_ok h with ⟨h1, h2⟩ | ⟨h1, h2, h3⟩ | ⟨h1, h2, h3, h4⟩
    · omega
    · exact ⟨h2, h3⟩
    · omega
  have HWO := Lib.hid hw
  have HRO := Lib.hid hr
  have HS := Lib.hid (wrS_ok hr)
  rw [HW.out]
  clear hE hi hA h hw hr HW
  obtain ⟨kind, who, n, rs, r, id, f⟩ := o
  obtain ⟨ra, rc, p⟩ := P
  replace hk : kind = 2 := hk
  subst hk
  go_enter Tryz.func36, Tryz.ntmps36
  go_wp2_with fail
  refine (write_is r p _ HE.out HI.out.r HS.out HRO.out).mono ?_
  rintro e w1 ⟨rfl, hb1⟩
  have hB1 := HA.out.trans (hb1.mono HA.out.size)
  have HE1 := Lib.hid (HE.out.below hb1)
  have HB1 := Lib.hid hB1
  obtain ⟨hc1, hf1⟩ := bcell hb1
  have d1 : w1.cell? ⟨w.heap.size, 1, none⟩ = some (.int .i64 who.role) := by rw [hc1 _ _ (by simp)]; simp [go_sem]
  have d2 : w1.cell? ⟨w.heap.size, 2, none⟩ = some (.int .i64 who.why) := by rw [hc1 _ _ (by simp)]; simp [go_sem]
  have d3 : w1.cell? ⟨w.heap.size, 3, none⟩ = some (.int .i64 who.time) := by rw [hc1 _ _ (by simp)]; simp [go_sem]
  clear hc1 hf1 hb1 hB1
  go_wp2_with fail
  refine (begin_any ⟨#[112, 117, 116]⟩ who w1 HE1.out HWO.out).mono ?_
  rintro e w2 ⟨A, c, rfl, ho, hb2⟩
  have hB2 := HB1.out.trans (hb2.mono HB1.out.size)
  have hB3 := hB2.alloc hB2.size (.cells #[.string (bs r.text)] 9)
  obtain ⟨A7, c7, w7, hrun, ho7, hb7, _⟩ := app_named (w := w2.alloc (.cells #[.string (bs r.text)] 9)) (m := 1) (c := 1) (n := 5) 26 (own_low (ho.below ((Below.refl _ _).alloc (Nat.le_refl _) _)) HB1.out.size) (slS_lit1 w2 (bs r.text)) rfl rfl (by simp [WhoL.words]) (by omega) hB3.size
  have HR7 := Lib.hid hrun
  have HO7 := Lib.hid ho7
  have HB7 := Lib.hid (hB3.trans hb7)
  have hlen : ((⟨#[112, 117, 116]⟩ : ByteArray) :: who.words.map bs).length = 4 := by simp [WhoL.words]
  rw [hlen] at HR7 ⊢
  clear hB2 hB3 hrun ho7 hb7 ho hb2 d1 d2 d3 hlen
  go_wp2_with (at_builtin; refine Lib.wpList_append_run _ rfl _ _ _ _ rfl _ _ rfl rfl _ _ HR7.out ?_)
  go_ret
  exact ⟨A7, c7, rfl, HO7.out, HB7.out⟩

set_option maxHeartbeats 4000000 in
theorem wordsOf_cut (o : OpL) (P : OpP) (w : World) (hE : Env w) (hi : o.in_ P w) (hk : o.kind = 3) (h : logErr o = 0) :
    Calls Tryz.prog 36 #[o.v P] w (NewS w.heap.size (o.words.map bs) w) := by
  have hA := o.box_below P w
  have HE := Lib.hid (hE.below hA)
  have HA := Lib.hid hA
  have HW : Hid (o.words.map bs = (bs wCut :: o.who.words.map bs) ++ [o.id, bs (Lib.itoa o.r.cats)]) := by show _ = _; unfold OpL.words; rw [if_neg (by omega), if_neg (by omega)]; simp [bs_data]
  obtain ⟨hw, hcc⟩ : o.who.ok ∧ 0 ≤ o.r.cats ∧ o.r.cats ≤ 255 := by
    rcases logErr_ok h with ⟨h1, h2⟩ | ⟨h1, h2, h3⟩ | ⟨h1, h2, h3, h4⟩
    · omega
    · omega
    · exact ⟨h2, h3⟩
  have HWO := Lib.hid hw
  have HCC := Lib.hid hcc
  rw [HW.out]
  clear hE hi hA h hw hcc HW
  obtain ⟨kind, who, n, rs, r, id, f⟩ := o
  obtain ⟨ra, rc, p⟩ := P
  replace hk : kind = 3 := hk
  subst hk
  have h1f : ((3 : Int) == 1) = false := by decide
  have h2f : ((3 : Int) == 2) = false := by decide
  obtain ⟨W0, hW0⟩ : ∃ W0, W0 = w.alloc (.cells #[.int .i64 3, .int .i64 who.role, .int .i64 who.why, .int .i64 who.time, .slice ra n rc, .string r.id, .int .i64 r.cats, .slice p.fa r.fs.length p.fc, .slice p.ra r.rs.length p.rc, .string id, .string f.key, .string f.val] 32) := ⟨_, rfl⟩
  have hWX : ∀ W, Below W0.heap.size W0 W → Below ((⟨3, who, n, rs, r, id, f⟩ : OpL).box ⟨ra, rc, p⟩ w).heap.size ((⟨3, who, n, rs, r, id, f⟩ : OpL).box ⟨ra, rc, p⟩ w) W := fun W hW => by rw [hW0] at hW; exact hW
  have HBG := Lib.hid (show ∀ W, Below W0.heap.size W0 W → Calls Tryz.prog 72 #[.string ⟨#[99, 117, 116]⟩, who.v] W fun e w' => ∃ A c, e = .returned (.slice A 4 c) ∧ OwnS W0.heap.size w' (.slice A 4 c) (bs wCut :: who.words.map bs) ∧ Below W.heap.size W w' ∧ Below w.heap.size w w' from fun W hW => by
    refine (begin_any ⟨#[99, 117, 116]⟩ who W (HE.out.below (hWX W hW)) HWO.out).mono ?_
    rintro e w' ⟨A, c, rfl, ho, hb⟩
    have hlen : ((⟨#[99, 117, 116]⟩ : ByteArray) :: who.words.map bs).length = 4 := by simp [WhoL.words]
    have h0 : Below w.heap.size w W := HA.out.trans ((hWX W hW).mono HA.out.size)
    rw [hlen] at ho ⊢
    exact ⟨A, c, rfl, own_low ho hW.size, hb, h0.trans (hb.mono h0.size)⟩)
  have HIT := Lib.hid (show ∀ W, Below W0.heap.size W0 W → Calls Tryz.prog 37 #[.int .i64 r.cats] W fun e w' => e = .returned (.string (bs (Lib.itoa r.cats))) ∧ Below W.heap.size W w' from fun W hW => itoa_any r.cats W (HE.out.below (hWX W hW)) (by have : 0 ≤ r.cats ∧ r.cats ≤ 255 := HCC.out; omega) (by have : 0 ≤ r.cats ∧ r.cats ≤ 255 := HCC.out; omega))
  have HSV := Lib.hid (show ∀ V, Below W0.heap.size W0 V → Below W0.heap.size W0 V ∧ V.cell? ⟨w.heap.size, 1, none⟩ = some (.int .i64 who.role) ∧ V.cell? ⟨w.heap.size, 2, none⟩ = some (.int .i64 who.why) ∧ V.cell? ⟨w.heap.size, 3, none⟩ = some (.int .i64 who.time) ∧ V.cell? ⟨w.heap.size, 6, none⟩ = some (.int .i64 r.cats) ∧ V.cell? ⟨w.heap.size, 9, none⟩ = some (.string id) from fun V hV => by
    obtain ⟨hc, _⟩ := bcell hV
    have hl : w.heap.size < W0.heap.size := by rw [hW0]; simp
    exact ⟨hV, by rw [hc _ _ hl, hW0]; simp [go_sem], by rw [hc _ _ hl, hW0]; simp [go_sem], by rw [hc _ _ hl, hW0]; simp [go_sem], by rw [hc _ _ hl, hW0]; simp [go_sem], by rw [hc _ _ hl, hW0]; simp [go_sem]⟩)
  have HB0 := Lib.hid (show Below w.heap.size w W0 by rw [hW0]; exact HA.out)
  have HW0 := Lib.hid hW0
  clear hWX
  go_enter Tryz.func36, Tryz.ntmps36
  go_upto_region 2 with (fail)
  rw [← hW0]
  clear hW0
  go_region_held3 (fun V => Below W0.heap.size W0 V ∧ V.cell? ⟨w.heap.size, 1, none⟩ = some (.int .i64 who.role) ∧ V.cell? ⟨w.heap.size, 2, none⟩ = some (.int .i64 who.why) ∧ V.cell? ⟨w.heap.size, 3, none⟩ = some (.int .i64 who.time) ∧ V.cell? ⟨w.heap.size, 6, none⟩ = some (.int .i64 r.cats) ∧ V.cell? ⟨w.heap.size, 9, none⟩ = some (.string id))
    (first | assumption | exact HSV.out _ ((Below.refl _ _).drew) | exact HSV.out _ (by assumption) | exact HSV.out _ (Below.alloc (by assumption) (Below.size (by assumption)) _) | exact HSV.out _ (Below.trans (And.left (by assumption)) (by assumption)) | exact HSV.out _ (Below.trans (Below.alloc (And.left (by assumption)) (Below.size (And.left (by assumption))) _) (by assumption)))
    (first
      | (go_at_call 72; refine (HBG.out _ (And.left (by assumption))).mono ?_; rintro e w1 ⟨A, c, rfl, hown, hbB, hbw⟩; have hS1 := Below.trans (And.left (by assumption)) (Below.mono hbB (Below.size (And.left (by assumption)))))
      | (go_at_call 37; refine (HIT.out _ (And.left (by assumption))).mono ?_; rintro e w2 ⟨rfl, hbI⟩; have hS2 := Below.trans (And.left (by assumption)) (Below.mono hbI (Below.size (And.left (by assumption)))); (try have hown2 := OwnS.below hown hbI))
      | (refine step_appS _ rfl _ _ rfl _ (by rfl) (by first | exact hown2 | assumption | exact OwnS.below hown2 ((Below.refl _ _).alloc (Nat.le_refl _) _) | exact OwnS.below (by assumption) ((Below.refl _ _).alloc (Nat.le_refl _) _)) _ 2 2 6 [id, bs (Lib.itoa r.cats)] (by rfl) (by first | exact slS_two _ _ _ | exact SlS.below (slS_two _ _ _) (by assumption)) rfl (by omega) (by simp [WhoL.words]) (by omega) (by first | exact Below.size (And.left (by assumption)) | exact Nat.le_trans (Below.size (And.left (by assumption))) (by simp)) ?_; intro A2 cap2 w3 hown3 hbA))
  all_goals
    go_wp2_with fail
    go_ret
    exact ⟨A2, cap2, rfl, own_low hown3 HB0.out.size, HB0.out.trans (Below.mono (And.left (by assumption)) HB0.out.size)⟩
end Go.Proofs.YtbchfodmdgogjaaGreatDoor
