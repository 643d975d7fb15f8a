/- LogBack: what was written is read as it was, and its line is all of it; what is read is written as it was: the walk. -/
import Derived.Test.YtbchfodmdgogjaaGreatDoorLWrite
import Derived.Test.YtbchfodmdgogjaaGreatDoorLRead
import Derived.Test.YtbchfodmdgogjaaGreatDoorLSame
import Derived.Test.YtbchfodmdgogjaaGreatDoorLLit
set_option linter.unusedVariables false
set_option linter.unusedSimpArgs false
set_option maxRecDepth 100000
namespace Go.Proofs.YtbchfodmdgogjaaGreatDoor
open Go.RowKit Go.Sort

theorem prefix_yes {s p : ByteArray} (w : World) (h : Lib.hasPrefix s.data.toList p.data.toList = true) :
    Calls Tryz.prog 15 #[.string s, .string p] w fun e w' => e = .returned (.bool true) ∧ w' = w := by
  have := Any.strings_HasPrefix Tryz.lays99 s p w
  rw [h] at this
  exact this
theorem ca_in (w : World) : opCa.in_ ⟨none, 0, At.none⟩ w := ⟨fun k hk => absurd hk (Nat.not_lt_zero k), Nat.le_refl _, Nat.zero_le _, ⟨SlF.nil _ _, SlS.nil _ _, Nat.le_refl _, Nat.le_refl _, Nat.zero_le _, Nat.zero_le _⟩, ⟨Nat.zero_le _, fun f h => (by cases h), fun s h => (by cases h)⟩, ⟨Nat.zero_le _, Nat.zero_le _⟩⟩
theorem ca_prefix : Lib.hasPrefix (wrLine opCa).data.toList (⟨#[99, 117, 116, 32, 48, 32, 48, 32, 48, 32, 97, 32, 48, 32, 61]⟩ : ByteArray).data.toList = true := by
  obtain ⟨r, hr⟩ := ca_line
  unfold wrLine Lib.hasPrefix
  rw [if_pos ca_err, data_bs, hr]
  exact List.isPrefixOf_iff_prefix.2 ⟨r, rfl⟩
theorem logRead_is {X : Except Int (OpL × Nat)} (s : ByteArray) (w : World) (hE : Env w) (hs : s.size < 4294967281) (h : rdOp s.data.toList = X) :
    Calls Tryz.prog 9 #[.string s] w (LReadTo X w) := h ▸ logRead_any s w hE hs
theorem logRead_ok {o : OpL} {n : Nat} (s : ByteArray) (w : World) (hE : Env w) (hs : s.size < 4294967281) (h : rdOp s.data.toList = .ok (o, n)) :
    Calls Tryz.prog 9 #[.string s] w fun e w' => ∃ P : OpP, e = .returned (.tuple #[o.v P, .int .i64 (n : Int), .int .i64 0]) ∧ o.in_ P w' ∧ Below w.heap.size w w' ∧ P.from_ w.heap.size := logRead_is s w hE hs h
theorem logRead_no {er : Int} (s : ByteArray) (w : World) (hE : Env w) (hs : s.size < 4294967281) (h : rdOp s.data.toList = .error er) :
    Calls Tryz.prog 9 #[.string s] w fun e w' => ∃ P : OpP, e = .returned (.tuple #[OpL.zero.v P, .int .i64 0, .int .i64 er]) ∧ OpL.zero.in_ P w' ∧ Below w.heap.size w w' ∧ P.from_ w.heap.size := logRead_is s w hE hs h

set_option maxHeartbeats 8000000 in
theorem logBack_walk (o : OpL) (P : OpP) (s more : ByteArray) (w : World) (hE : Env w) (hi : o.in_ P w) (hs : s.size ≤ 1048576) (hm : more.size ≤ 1048576) :
    Calls Tryz.prog 4 #[o.v P, .string s, .string more] w fun e w' => e = .returned (.bool true) ∧ Below w.heap.size w w' := by
  have hA := o.box_below P w
  have HI := Lib.hid (hi.below hA)
  have HE := Lib.hid (hE.below hA)
  have HA := Lib.hid hA
  have HX := Lib.hid (show OpAt (o.box P w) w.heap.size 0 ⟨o, P⟩ from by constructor <;> simp [go_sem])
  obtain ⟨W, hW⟩ : ∃ W, o.box P w = W := ⟨_, rfl⟩
  have HW := Lib.hid hW
  rw [hW] at HI HE HA HX
  obtain ⟨T0, hT0⟩ : ∃ T0, wrLine opCa = T0 := ⟨_, rfl⟩
  have hpx := ca_prefix
  rw [hT0] at hpx
  have HPX := Lib.hid hpx
  have HT0 := Lib.hid hT0
  have HMS := Lib.hid hm
  have HSS := Lib.hid hs
  obtain ⟨X, hX⟩ : ∃ X, rdOp s.data.toList = X := ⟨_, rfl⟩
  have HXS := Lib.hid hX
  clear hi hE hA hW hT0 hpx hm hs hX
  go_enter Tryz.func4, Tryz.ntmps4
  go_upto_region 1 with (fail)
  rw [show w.alloc _ = W from HW.out]
  go_wp2_with fail
  refine (logWrite_is opCa ⟨none, 0, At.none⟩ W HE.out (ca_in W) HT0.out ca_err).mono ?_
  rintro e w1 ⟨rfl, hb1⟩
  have HB1 := Lib.hid (HA.out.trans (hb1.mono HA.out.size))
  have HX1 := Lib.hid (HX.out.below hb1)
  have HI1 := Lib.hid (HI.out.below hb1)
  have HE1 := Lib.hid (HE.out.below hb1)
  clear hb1 HX HI HE
  go_wp2_with fail
  refine (prefix_yes w1 HPX.out).mono ?_
  rintro e w' ⟨rfl, rfl⟩
  obtain ⟨x0, x1, x2, x3, x4, x5, x6, x7, x8, x9, x10, x11⟩ := HX1.out
  simp only [Nat.zero_add] at x0 x1 x2 x3 x4 x5 x6 x7 x8 x9 x10 x11
  obtain ⟨S, hS⟩ : ∃ S, wrLine o = S := ⟨_, rfl⟩
  obtain ⟨er, her⟩ : ∃ er, logErr o = er := ⟨_, rfl⟩
  have HSO := Lib.hid hS
  have HERO := Lib.hid her
  clear hS her
  go_wp2_with fail
  refine (logWrite_is o P _ HE1.out HI1.out HSO.out HERO.out).mono ?_
  rintro e w2 ⟨rfl, hb2⟩
  have HB2 := Lib.hid (HB1.out.trans (hb2.mono HB1.out.size))
  have HX2 := Lib.hid (HX1.out.below hb2)
  have HI2 := Lib.hid (HI1.out.below hb2)
  have HE2 := Lib.hid (HE1.out.below hb2)
  clear hb2 HX1 HI1 HE1 x0 x1 x2 x3 x4 x5 x6 x7 x8 x9 x10 x11
  by_cases h0 : er = 0
  · subst h0
    have hSb : S = bs o.line := by rw [← HSO.out]; unfold wrLine; rw [if_pos HERO.out]
    have hSz : S.size ≤ 64506 := by rw [hSb, bs_size]; exact (line_len HERO.out).1
    obtain ⟨Z, hZ⟩ : ∃ Z, S ++ more = Z := ⟨_, rfl⟩
    have a1 : ∀ W, (Op.stringOp .add S more).run Tryz.prog W = .ok (.string Z) W := fun W => by
      rw [run_string_add_sum W S more (by have := HMS.out; omega), hZ]
    have hZz : Z.size < 4294967281 := by
      have e : Z.size = S.size + more.size := by rw [Lib.size_eq, ← hZ, data_append, List.length_append, ← Lib.size_eq, ← Lib.size_eq]
      have := HMS.out
      omega
    obtain ⟨o3, ho3⟩ : ∃ o3, o.plain = o3 := ⟨_, rfl⟩
    have hrz : rdOp Z.data.toList = .ok (o3, S.size) := by
      rw [← hZ, data_append, hSb, data_bs, bs_size, ← ho3]
      exact rd_line HERO.out _
    have HRZ := Lib.hid (logRead_ok Z w2 HE2.out hZz hrz)
    have HPL := Lib.hid (plain_any o P)
    have HPI := Lib.hid (plain_in HI2.out)
    obtain ⟨P3, hP3⟩ : ∃ P3, o.plainP P = P3 := ⟨_, rfl⟩
    rw [ho3, hP3] at HPL HPI
    clear hSb hSz hZ hZz hrz ho3 hP3
    go_wp2_with fail
    refine HRZ.out.mono ?_
    rintro e w3 ⟨P4, rfl, hi3, hb3, _⟩
    have HB3 := Lib.hid (HB2.out.trans (hb3.mono HB2.out.size))
    have HX3 := Lib.hid (HX2.out.below hb3)
    have HE3 := Lib.hid (HE2.out.below hb3)
    have HPI3 := Lib.hid (HPI.out.below hb3)
    obtain ⟨w4, hw4⟩ : ∃ w4, w3.alloc (.cells #[.int .i64 o3.kind, .int .i64 o3.who.role, .int .i64 o3.who.why, .int .i64 o3.who.time, .slice P4.ra o3.n P4.rc, .string o3.r.id, .int .i64 o3.r.cats, .slice P4.p.fa o3.r.fs.length P4.p.fc, .slice P4.p.ra o3.r.rs.length P4.p.rc, .string o3.id, .string o3.f.key, .string o3.f.val] 32) = w4 := ⟨_, rfl⟩
    have hbw4 : Below w3.heap.size w3 w4 := hw4 ▸ (Below.refl _ _).alloc (Nat.le_refl _) _
    have HXw4 := Lib.hid (show OpAt w4 w3.heap.size 0 ⟨o3, P4⟩ from by rw [← hw4]; constructor <;> simp [go_sem])
    have Hw4 := Lib.hid hw4
    have HBw4 := Lib.hid hbw4
    clear hw4 hbw4
    have HB4 := Lib.hid (HB3.out.trans (HBw4.out.mono HB3.out.size))
    have HE4 := Lib.hid (HE3.out.below HBw4.out)
    have HX4 := Lib.hid (HX3.out.below HBw4.out)
    have cP : ∀ d os, Calls Tryz.prog 16 #[o.v P] (grow (redrawn w4 d) os) fun e w'' => e = .returned (o3.v P3) ∧ ∃ p : Regrown, w'' = grow (redrawn w4 p.d) p.os := fun d os => Calls.regrown_of (HPL.out _)
    have cS : ∀ d os, Calls Tryz.prog 11 #[o3.v P4, o3.v P3] (grow (redrawn w4 d) os) fun e w'' => e = .returned (.bool true) ∧ ∃ p : Regrown, w'' = grow (redrawn w4 p.d) p.os := fun d os => Calls.regrown_of (sameOp_yes o3 P4 P3 _ ((hi3.below HBw4.out).below (below_regrown w4 d os)) ((HPI3.out.below HBw4.out).below (below_regrown w4 d os)))
    clear hb3 hi3 HPL HPI HPI3 HRZ
    obtain ⟨x0, x1, x2, x3, x4, x5, x6, x7, x8, x9, x10, x11⟩ := HXw4.out
    simp only [Nat.zero_add] at x0 x1 x2 x3 x4 x5 x6 x7 x8 x9 x10 x11
    obtain ⟨y0, y1, y2, y3, y4, y5, y6, y7, y8, y9, y10, y11⟩ := HX4.out
    simp only [Nat.zero_add] at y0 y1 y2 y3 y4 y5 y6 y7 y8 y9 y10 y11
    have k0 := cell_regrown x0
    have j0 := cell_regrown y0
    have k1 := cell_regrown x1
    have j1 := cell_regrown y1
    have k2 := cell_regrown x2
    have j2 := cell_regrown y2
    have k3 := cell_regrown x3
    have j3 := cell_regrown y3
    have k4 := cell_regrown x4
    have j4 := cell_regrown y4
    have k5 := cell_regrown x5
    have j5 := cell_regrown y5
    have k6 := cell_regrown x6
    have j6 := cell_regrown y6
    have k7 := cell_regrown x7
    have j7 := cell_regrown y7
    have k8 := cell_regrown x8
    have j8 := cell_regrown y8
    have k9 := cell_regrown x9
    have j9 := cell_regrown y9
    have k10 := cell_regrown x10
    have j10 := cell_regrown y10
    have k11 := cell_regrown x11
    have j11 := cell_regrown y11
    go_upto_region 7 with (fail)
    rw [Hw4.out]
    clear x0 x1 x2 x3 x4 x5 x6 x7 x8 x9 x10 x11 y0 y1 y2 y3 y4 y5 y6 y7 y8 y9 y10 y11
    refine region_below_lit (by kernel_rfl) (by kernel_rfl) ?_
    repeat (go_big_quiet_step (with_reducible first | exact cP _ _ | exact cS _ _))
    refine wpQuiet_nil ?_
    intro _ hw'
    obtain ⟨⟨dq, osq⟩, hw''⟩ := hw'
    subst hw''
    have HBQ := Lib.hid (HB4.out.trans ((below_regrown w4 dq osq).mono HB4.out.size))
    have HEQ := Lib.hid (HE4.out.below (below_regrown w4 dq osq))
    generalize grow (redrawn w4 dq) osq = w9 at HBQ HEQ ⊢
    clear k0 j0 k1 j1 k2 j2 k3 j3 k4 j4 k5 j5 k6 j6 k7 j7 k8 j8 k9 j9 k10 j10 k11 j11 cP cS
    go_wp2_with fail
    refine (logRead_is s w9 HEQ.out (by have := HSS.out; omega) HXS.out).mono ?_
    rintro e w5 ⟨P5, rfl, hi5, hb5, _⟩
    have HB5 := Lib.hid (HBQ.out.trans (hb5.mono HBQ.out.size))
    have HE5 := Lib.hid (HEQ.out.below hb5)
    clear hb5
    obtain ⟨o5, ho5⟩ : ∃ o5, opO X = o5 := ⟨_, rfl⟩
    obtain ⟨m5, hm5⟩ : ∃ m5, opN X = m5 := ⟨_, rfl⟩
    obtain ⟨er5, her5⟩ : ∃ er5, opE X = er5 := ⟨_, rfl⟩
    rw [ho5] at hi5 ⊢
    rw [hm5, her5]
    obtain ⟨w6, hw6⟩ : ∃ w6, w5.alloc (.cells #[.int .i64 o5.kind, .int .i64 o5.who.role, .int .i64 o5.who.why, .int .i64 o5.who.time, .slice P5.ra o5.n P5.rc, .string o5.r.id, .int .i64 o5.r.cats, .slice P5.p.fa o5.r.fs.length P5.p.fc, .slice P5.p.ra o5.r.rs.length P5.p.rc, .string o5.id, .string o5.f.key, .string o5.f.val] 32) = w6 := ⟨_, rfl⟩
    have hbw6 : Below w5.heap.size w5 w6 := hw6 ▸ (Below.refl _ _).alloc (Nat.le_refl _) _
    have HXw6 := Lib.hid (show OpAt w6 w5.heap.size 0 ⟨o5, P5⟩ from by rw [← hw6]; constructor <;> simp [go_sem])
    have Hw6 := Lib.hid hw6
    have HBw6 := Lib.hid hbw6
    clear hw6 hbw6
    have HI6 := Lib.hid (hi5.below HBw6.out)
    have HE6 := Lib.hid (HE5.out.below HBw6.out)
    have HB6 := Lib.hid (HB5.out.trans (HBw6.out.mono HB5.out.size))
    have HO5 := Lib.hid ho5
    have HM5 := Lib.hid hm5
    have HER5 := Lib.hid her5
    clear hi5 ho5 hm5 her5
    by_cases hz5 : er5 = 0
    · subst hz5
      obtain ⟨hXX, hXs⟩ : X = .ok (o5, m5) ∧ True := by
        have h := HER5.out
        cases hXX : X with
        | error e =>
          rw [hXX] at h
          exact absurd h (rd_error (HXS.out.trans hXX))
        | ok p =>
          have h1 := HO5.out
          have h2 := HM5.out
          rw [hXX] at h1 h2
          have h3 : p.1 = o5 := h1
          have h4 : p.2 = m5 := h2
          exact ⟨by rw [← h3, ← h4], trivial⟩
      obtain ⟨⟨r5, hr5⟩, hml, hle5, _⟩ := rd_ok_line (HXS.out.trans hXX)
      obtain ⟨U, hU⟩ : ∃ U, wrLine o5 = U := ⟨_, rfl⟩
      have hUb : U = bs o5.line := by rw [← hU]; unfold wrLine; rw [if_pos hle5]
      have hms : m5 ≤ s.size := by rw [Lib.size_eq, hr5, List.length_append, hml]; omega
      have hex : (U.toList == (s.extract 0 m5).toList) = true := by
        rw [Lib.toList_data, Lib.toList_data, ext_data, hr5, hUb, data_bs, List.drop_zero, Nat.sub_zero, hml, List.take_left]
        simp
      have i1 : (0 : Int) ≤ (m5 : Int) := by omega
      have i2 : (m5 : Int) ≤ (s.size : Int) := by omega
      have HU := Lib.hid hU
      have HLE5 := Lib.hid hle5
      clear hXX hXs hr5 hml hle5 hU hUb hms
      obtain ⟨x0, x1, x2, x3, x4, x5, x6, x7, x8, x9, x10, x11⟩ := HXw6.out
      simp only [Nat.zero_add] at x0 x1 x2 x3 x4 x5 x6 x7 x8 x9 x10 x11
      go_upto_region 12 with (fail)
      rw [Hw6.out]
      go_wp2_with fail
      refine (logWrite_is o5 P5 w6 HE6.out HI6.out HU.out HLE5.out).mono ?_
      rintro e w7 ⟨rfl, hb7⟩
      have HB7 := Lib.hid (HB6.out.trans (hb7.mono HB6.out.size))
      clear hb7 x0 x1 x2 x3 x4 x5 x6 x7 x8 x9 x10 x11
      go_wp2_with fail
      go_ret
      exact ⟨rfl, HB7.out⟩
    · have hz5f : (er5 == 0) = false := by simpa using hz5
      obtain ⟨rfl, rfl⟩ : o5 = OpL.zero ∧ m5 = 0 := by
        have h := HER5.out
        cases hXX : X with
        | error e =>
          have h1 := HO5.out
          have h2 := HM5.out
          rw [hXX] at h1 h2
          exact ⟨h1.symm, h2.symm⟩
        | ok p =>
          rw [hXX] at h
          exact absurd h.symm hz5
      have HSM := Lib.hid (sameOp_yes OpL.zero P5 ⟨none, 0, At.none⟩ w6 HI6.out (opZero_in w6))
      obtain ⟨x0, x1, x2, x3, x4, x5, x6, x7, x8, x9, x10, x11⟩ := HXw6.out
      simp only [Nat.zero_add] at x0 x1 x2 x3 x4 x5 x6 x7 x8 x9 x10 x11
      go_upto_region 12 with (fail)
      rw [Hw6.out]
      go_wp2_with fail
      refine HSM.out.mono ?_
      rintro e w7 ⟨rfl, hb7⟩
      have HB7 := Lib.hid (HB6.out.trans (hb7.mono HB6.out.size))
      go_wp2_with fail
      go_ret
      exact ⟨rfl, HB7.out⟩
  · have h0f : (er == 0) = false := by simpa using h0
    have hse : S = ⟨#[]⟩ := by
      rw [← HSO.out]
      unfold wrLine
      rw [if_neg (fun k => h0 (HERO.out.symm.trans k))]
    subst hse
    go_wp2_with fail
    refine (logRead_is s w2 HE2.out (by have := HSS.out; omega) HXS.out).mono ?_
    rintro e w5 ⟨P5, rfl, hi5, hb5, _⟩
    have HB5 := Lib.hid (HB2.out.trans (hb5.mono HB2.out.size))
    have HE5 := Lib.hid (HE2.out.below hb5)
    clear hb5
    obtain ⟨o5, ho5⟩ : ∃ o5, opO X = o5 := ⟨_, rfl⟩
    obtain ⟨m5, hm5⟩ : ∃ m5, opN X = m5 := ⟨_, rfl⟩
    obtain ⟨er5, her5⟩ : ∃ er5, opE X = er5 := ⟨_, rfl⟩
    rw [ho5] at hi5 ⊢
    rw [hm5, her5]
    obtain ⟨w6, hw6⟩ : ∃ w6, w5.alloc (.cells #[.int .i64 o5.kind, .int .i64 o5.who.role, .int .i64 o5.who.why, .int .i64 o5.who.time, .slice P5.ra o5.n P5.rc, .string o5.r.id, .int .i64 o5.r.cats, .slice P5.p.fa o5.r.fs.length P5.p.fc, .slice P5.p.ra o5.r.rs.length P5.p.rc, .string o5.id, .string o5.f.key, .string o5.f.val] 32) = w6 := ⟨_, rfl⟩
    have hbw6 : Below w5.heap.size w5 w6 := hw6 ▸ (Below.refl _ _).alloc (Nat.le_refl _) _
    have HXw6 := Lib.hid (show OpAt w6 w5.heap.size 0 ⟨o5, P5⟩ from by rw [← hw6]; constructor <;> simp [go_sem])
    have Hw6 := Lib.hid hw6
    have HBw6 := Lib.hid hbw6
    clear hw6 hbw6
    have HI6 := Lib.hid (hi5.below HBw6.out)
    have HE6 := Lib.hid (HE5.out.below HBw6.out)
    have HB6 := Lib.hid (HB5.out.trans (HBw6.out.mono HB5.out.size))
    have HO5 := Lib.hid ho5
    have HM5 := Lib.hid hm5
    have HER5 := Lib.hid her5
    clear hi5 ho5 hm5 her5
    by_cases hz5 : er5 = 0
    · subst hz5
      obtain ⟨hXX, hXs⟩ : X = .ok (o5, m5) ∧ True := by
        have h := HER5.out
        cases hXX : X with
        | error e =>
          rw [hXX] at h
          exact absurd h (rd_error (HXS.out.trans hXX))
        | ok p =>
          have h1 := HO5.out
          have h2 := HM5.out
          rw [hXX] at h1 h2
          have h3 : p.1 = o5 := h1
          have h4 : p.2 = m5 := h2
          exact ⟨by rw [← h3, ← h4], trivial⟩
      obtain ⟨⟨r5, hr5⟩, hml, hle5, _⟩ := rd_ok_line (HXS.out.trans hXX)
      obtain ⟨U, hU⟩ : ∃ U, wrLine o5 = U := ⟨_, rfl⟩
      have hUb : U = bs o5.line := by rw [← hU]; unfold wrLine; rw [if_pos hle5]
      have hms : m5 ≤ s.size := by rw [Lib.size_eq, hr5, List.length_append, hml]; omega
      have hex : (U.toList == (s.extract 0 m5).toList) = true := by
        rw [Lib.toList_data, Lib.toList_data, ext_data, hr5, hUb, data_bs, List.drop_zero, Nat.sub_zero, hml, List.take_left]
        simp
      have i1 : (0 : Int) ≤ (m5 : Int) := by omega
      have i2 : (m5 : Int) ≤ (s.size : Int) := by omega
      have HU := Lib.hid hU
      have HLE5 := Lib.hid hle5
      clear hXX hXs hr5 hml hle5 hU hUb hms
      obtain ⟨x0, x1, x2, x3, x4, x5, x6, x7, x8, x9, x10, x11⟩ := HXw6.out
      simp only [Nat.zero_add] at x0 x1 x2 x3 x4 x5 x6 x7 x8 x9 x10 x11
      go_upto_region 12 with (fail)
      rw [Hw6.out]
      go_wp2_with fail
      refine (logWrite_is o5 P5 w6 HE6.out HI6.out HU.out HLE5.out).mono ?_
      rintro e w7 ⟨rfl, hb7⟩
      have HB7 := Lib.hid (HB6.out.trans (hb7.mono HB6.out.size))
      clear hb7 x0 x1 x2 x3 x4 x5 x6 x7 x8 x9 x10 x11
      go_wp2_with fail
      go_ret
      exact ⟨rfl, HB7.out⟩
    · have hz5f : (er5 == 0) = false := by simpa using hz5
      obtain ⟨rfl, rfl⟩ : o5 = OpL.zero ∧ m5 = 0 := by
        have h := HER5.out
        cases hXX : X with
        | error e =>
          have h1 := HO5.out
          have h2 := HM5.out
          rw [hXX] at h1 h2
          exact ⟨h1.symm, h2.symm⟩
        | ok p =>
          rw [hXX] at h
          exact absurd h.symm hz5
      have HSM := Lib.hid (sameOp_yes OpL.zero P5 ⟨none, 0, At.none⟩ w6 HI6.out (opZero_in w6))
      obtain ⟨x0, x1, x2, x3, x4, x5, x6, x7, x8, x9, x10, x11⟩ := HXw6.out
      simp only [Nat.zero_add] at x0 x1 x2 x3 x4 x5 x6 x7 x8 x9 x10 x11
      go_upto_region 12 with (fail)
      rw [Hw6.out]
      go_wp2_with fail
      refine HSM.out.mono ?_
      rintro e w7 ⟨rfl, hb7⟩
      have HB7 := Lib.hid (HB6.out.trans (hb7.mono HB6.out.size))
      go_wp2_with fail
      go_ret
      exact ⟨rfl, HB7.out⟩
end Go.Proofs.YtbchfodmdgogjaaGreatDoor
