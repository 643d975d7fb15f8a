/- ServerDenies' walk. -/
import Derived.Test.YteimdhkajbldjaaSrvB
import Derived.Test.YteimdhkajbldjaaREq
import Derived.Lib.QuietBelow
import Derived.BigQuiet
import Derived.Deep.QuietTactic
set_option linter.unusedVariables false
set_option linter.unusedSimpArgs false
set_option maxRecDepth 100000
namespace Go.Proofs.Yteimdhkajbldjaa
open Go.RowKit Go.Sort

def B3 : SrvX := bareX 3 fun k => k
theorem B3_ok : B3.Ok := bareX_ok (by decide)
theorem B3_seE {x : WhoL} (h : x.ok) (h3 : x.role < 3) : seE B3 x = 0 := seesE_ok (askE_ok (by decide) rfl h) (by show x.role < ((3 : Nat) : Int); omega)
theorem seen_none (m : Nat) (u : Nat → Nat) (x : WhoL) (rs : Nat → RuleL) : seen m u x 0 rs = 0 := by simp [seen, seenN, yesN]
theorem bare_seV {x : WhoL} (h : x.ok) (h3 : x.role < 3) : seV B3 x = 0 := by
  unfold seV
  rw [seesV_ok (B3_seE h h3)]
  exact seen_none _ _ _ _
theorem B3_maE {x : WhoL} (h : x.ok) (h3 : x.role < 3) {c : Int} (hc : 0 ≤ c ∧ c ≤ 255) : maE B3 x c = 0 := by
  have h0 : seesE B3.m B3.zi B3.n B3.rs x = 0 := B3_seE h h3
  unfold maE mayE
  rw [if_neg (fun k => k h0), if_pos hc]
theorem B3_maV {x : WhoL} (h : x.ok) (h3 : x.role < 3) {c : Int} (hc : 0 ≤ c ∧ c ≤ 255) : maV B3 x c = decide (sub c.toNat 0 = 0) := by
  have h0 := B3_maE h h3 hc
  have h1 := bare_seV h h3
  unfold maV mayV
  unfold maE at h0
  unfold seV at h1
  rw [h0, h1]
  rfl
theorem sub_none {a : Nat} (h : a ≤ 255) : sub a 0 = 0 ↔ a = 0 := by
  constructor
  · intro e
    apply Nat.eq_of_testBit_eq
    intro i
    have := sub_bit (a := a) (b := 0) (by omega) (by omega) i
    rw [e] at this
    simpa using this.symm
  · rintro rfl
    decide
theorem den_chk {x : WhoL} (h : x.ok) (h3 : x.role < 3) {c : Int} (hc : 0 ≤ c ∧ c ≤ 255) : chkE B3 x c = if c = 0 then 0 else 6 := by
  unfold chkE
  rw [if_neg (fun k => k (B3_maE h h3 hc)), B3_maV h h3 hc]
  by_cases e : c = 0
  · subst e
    rw [if_pos rfl, if_pos (by decide)]
  · rw [if_neg e, if_neg]
    rw [decide_eq_true_eq, sub_none (by omega)]
    omega
theorem den_no {x : WhoL} {r : RecL} (h : x.ok) (h3 : x.role < 3) (hr : r.Ok) (hc : r.cats ≠ 0) : putC B3 x r = 6 ∧ putS B3 x r = B3 := by
  have h1 : chkE B3 x r.cats = 6 := by rw [den_chk h h3 ⟨hr.c0, hr.c1⟩, if_neg hc]
  have h2 : putC B3 x r = 6 := by rw [putC_chk (r.err_ok.2 hr) (by rw [h1]; decide), h1]
  exact ⟨h2, putS_no (by rw [h2]; decide)⟩
def B3r (r : RecL) : SrvX := { B3 with vs := [⟨r, false⟩] }
theorem den_yes {x : WhoL} {r : RecL} (h : x.ok) (h3 : x.role < 3) (hr : r.Ok) (hc : r.cats = 0) : putC B3 x r = 0 ∧ putS B3 x r = B3r r := by
  have h1 : chkE B3 x r.cats = 0 := by rw [den_chk h h3 ⟨hr.c0, hr.c1⟩, if_pos hc]
  have h2 : putC B3 x r = 0 := by
    rw [putC_put (r.err_ok.2 hr) h1]
    exact putErr_ok.2 ⟨B3_ok.st, hr, by show same [] _ < 20; rw [same_nil]; omega⟩
  exact ⟨h2, by rw [putS_yes h2]; rfl⟩
theorem den_get {x : WhoL} {r : RecL} (h : x.ok) (h3 : x.role < 3) (hr : r.Ok) (hc : r.cats = 0) : getC (B3r r) x r.id = 0 ∧ getT (B3r r) x r.id = [⟨r, false⟩] := by
  have hs : stErr [⟨r, false⟩] = 0 := by
    have := B3_ok.put x r
    rw [(den_yes h h3 hr hc).2] at this
    exact this.st
  have hse : seE (B3r r) x = 0 := B3_seE h h3
  have hsv : seV (B3r r) x = 0 := bare_seV h h3
  have hl : seenL (B3r r) x = [⟨r, false⟩] := by
    unfold seenL
    rw [hsv]
    show prt [⟨r, false⟩] _ = _
    rw [prt_one, if_pos]
    show among r.cats _ = true
    rw [hc]
    decide
  have hg := get_some (l := [⟨r, false⟩]) (id := r.id) hs (getV_put [] r)
  have e : getC (B3r r) x r.id = 0 := by
    unfold getC
    rw [if_neg (fun k => k hse), hl]
    exact hg.1
  refine ⟨e, ?_⟩
  unfold getT
  rw [if_pos e, hl, hg.2]

def dPut (x : WhoL) (r : RecL) : OpL := ⟨2, x, 0, allR, r, ⟨#[]⟩, ⟨⟨#[]⟩, ⟨#[]⟩⟩⟩
def dGet (x : WhoL) (id : ByteArray) : OpL := ⟨4, x, 0, allR, RecL.zero, id, ⟨⟨#[]⟩, ⟨#[]⟩⟩⟩
/-- who asks, and a record, in boxes of their own -/
structure DBox (w : World) (b : Nat) (x : WhoL) (r : RecL) (P : At) : Prop where
  x0 : w.cell? ⟨b, 0, none⟩ = some (.int .i64 x.role)
  x1 : w.cell? ⟨b, 1, none⟩ = some (.int .i64 x.why)
  x2 : w.cell? ⟨b, 2, none⟩ = some (.int .i64 x.time)
  r0 : w.cell? ⟨b + 1, 0, none⟩ = some (.string r.id)
  r1 : w.cell? ⟨b + 1, 1, none⟩ = some (.int .i64 r.cats)
  r2 : w.cell? ⟨b + 1, 2, none⟩ = some (.slice P.fa r.fs.length P.fc)
  r3 : w.cell? ⟨b + 1, 3, none⟩ = some (.slice P.ra r.rs.length P.rc)
theorem DBox.kept {Z : Nat → Prop} {w w' : World} {b : Nat} {x : WhoL} {r : RecL} {P : At} (h : DBox w b x r P) (k : Kept Z w w') (h0 : Z b) (h1 : Z (b + 1)) : DBox w' b x r P :=
  ⟨k.cell h0 h.x0, k.cell h0 h.x1, k.cell h0 h.x2, k.cell h1 h.r0, k.cell h1 h.r1, k.cell h1 h.r2, k.cell h1 h.r3⟩
theorem DBox.below {w w' : World} {b : Nat} {x : WhoL} {r : RecL} {P : At} (h : DBox w b x r P) (hb : Below w.heap.size w w') : DBox w' b x r P := h.kept (Z := fun _ => True) (Kept.of hb) trivial trivial

set_option maxHeartbeats 8000000 in
theorem serverDenies_walk (x : WhoL) (r : RecL) (P : At) (w : World) (hi : r.in_ P w) (hsh : r.short) :
    Calls Try.prog 5 #[x.v, r.v P] w fun e w' => e = .returned (.bool true) ∧ Below w.heap.size w w' := by
  obtain ⟨W, hW⟩ : ∃ W, W = (w.alloc (.cells #[.int .i64 x.role, .int .i64 x.why, .int .i64 x.time] 30)).alloc (.cells #[.string r.id, .int .i64 r.cats, .slice P.fa r.fs.length P.fc, .slice P.ra r.rs.length P.rc] 35) := ⟨_, rfl⟩
  have hA : Below w.heap.size w W := by rw [hW]; exact ((Below.refl _ _).alloc (Nat.le_refl _) _).alloc (by simp) _
  have hbx : DBox W w.heap.size x r P := by rw [hW]; constructor <;> simp [go_sem]
  have hsz : W.heap.size = w.heap.size + 2 := by rw [hW]; simp
  have HI := Lib.hid hi
  have HSH := Lib.hid hsh
  have HA := Lib.hid hA
  have HBX := Lib.hid hbx
  have HSZ := Lib.hid hsz
  have HW := Lib.hid hW
  obtain ⟨re, hre⟩ : ∃ re, r.err = re := ⟨_, rfl⟩
  have HRE := Lib.hid hre
  clear hi hsh hA hbx hsz hW hre
  go_enter Try.func5, Try.ntmps5
  go_wp2_with fail
  refine (srvBegun_is _).mono ?_
  rintro e w1 ⟨rfl, hb1⟩
  rw [← HW.out] at hb1
  have HB1 := Lib.hid hb1
  clear hb1
  go_wp2_with fail
  refine (ruled_is (fun _ => False) _ (fun z h => h.elim)).mono ?_
  rintro e w2 ⟨p, rfl, hs2, hb2⟩
  have hB2 := HA.out.trans ((HB1.out.trans (hb2.mono HB1.out.size)).mono HA.out.size)
  have hx2 := (HBX.out.below HB1.out).below hb2
  have HS2 := Lib.hid hs2
  have HB2 := Lib.hid hB2
  have HX2 := Lib.hid hx2
  have HPS : Hid (w.heap.size + 1 < p) := by
    show w.heap.size + 1 < p
    have h1 := hs2.sp
    have h2 := HB1.out.size
    have h3 := HSZ.out
    omega
  have HRC := Lib.hid (recCheck_is r P w2 (HI.out.below hB2) HRE.out)
  obtain ⟨x0, x1, x2, r0, r1, r2, r3⟩ := hx2
  clear hs2 hb2 hB2
  go_wp2_with fail
  refine HRC.out.mono ?_
  rintro e w3 ⟨rfl, hb3⟩
  have HB3 := Lib.hid (HB2.out.trans (hb3.mono HB2.out.size))
  have HX3 := Lib.hid (HX2.out.below hb3)
  have HS3 := Lib.hid (HS2.out.below hb3)
  clear hb3 x0 x1 x2 r0 r1 r2 r3 HRC HX2 HS2
  obtain ⟨x0, x1, x2, r0, r1, r2, r3⟩ := HX3.out
  by_cases h0 : re = 0
  · subst h0
    have HRO : Hid r.Ok := r.err_ok.1 HRE.out
    by_cases hok : x.ok
    · by_cases h3 : x.role < 3
      · have h3' : ¬ 2 < x.role := by omega
        have HWH := Lib.hid (who_any x w3)
        have e1 : decide x.ok = true := decide_eq_true hok
        rw [e1] at HWH
        have HOK := Lib.hid hok
        have H3 := Lib.hid h3
        clear hok e1
        go_wp2_with fail
        refine HWH.out.mono ?_
        rintro e w4 ⟨rfl, hb4⟩
        have HB4 := Lib.hid (HB3.out.trans (hb4.mono HB3.out.size))
        have HX4 := Lib.hid (HX3.out.below hb4)
        have HS4 := Lib.hid (HS3.out.below hb4)
        clear hb4 x0 x1 x2 r0 r1 r2 r3 HWH
        obtain ⟨x0, x1, x2, r0, r1, r2, r3⟩ := HX4.out
        have hin4 : (dPut x r).in_ ⟨none, 0, P⟩ w4 := ⟨SlR.none _ _, Nat.le_refl _, Nat.zero_le _, HI.out.below HB4.out, HSH.out, str0_sh⟩
        by_cases hc : r.cats = 0
        · have hT : doT B3 (dPut x r) = ⟨0, [], [], []⟩ := by
            rw [doT_2 rfl]
            show (⟨putC B3 x r, [], [], []⟩ : ToldL) = _
            rw [(den_yes HOK.out H3.out HRO.out hc).1]
          have hX : doX B3 (dPut x r) = B3r r := by
            rw [doX_2 rfl]
            exact (den_yes HOK.out H3.out HRO.out hc).2
          have HG := Lib.hid (den_get HOK.out H3.out HRO.out hc)
          have HD := Lib.hid (do_to (dPut x r) ⟨none, 0, P⟩ w4 HS4.out (fun z h => h.elim) hin4 hT hX)
          have hc1 : (r.cats == 0) = true := by simpa using hc
          have hc2 : (r.cats != 0) = false := by simpa using hc
          clear hT hX hin4 hc
          go_wp2_with fail
          refine HD.out.mono ?_
          rintro e w5 ⟨P5, q5, rfl, _, hs5, hq5, hk5⟩
          have hx5 := HX4.out.kept hk5 (by have := HPS.out; constructor <;> omega) (by have := HPS.out; constructor <;> omega)
          have hB5 := HB4.out.trans (hk5.to (fun z hz => by have := HPS.out; constructor <;> omega) HB4.out.size)
          obtain ⟨W6, hW6⟩ : ∃ W6, W6 = w5.alloc (.cells #[.int .i64 0, .slice P5.va 0 P5.vc, .slice P5.ia 0 P5.ic, .slice P5.na 0 P5.nc] 51) := ⟨_, rfl⟩
          have hA6 : Below w5.heap.size w5 W6 := by rw [hW6]; exact (Below.refl _ _).alloc (Nat.le_refl _) _
          have t7 : W6.cell? ⟨w5.heap.size, 0, none⟩ = some (.int .i64 0) := by rw [hW6]; simp [go_sem]
          have hB6 := hB5.trans (hA6.mono hB5.size)
          have hT2 : doT (B3r r) (dGet x r.id) = ⟨0, [⟨r, false⟩], [], []⟩ := by
            rw [doT_4 rfl]
            show (⟨getC (B3r r) x r.id, getT (B3r r) x r.id, [], []⟩ : ToldL) = _
            rw [HG.out.1, HG.out.2]
          have HD2 := Lib.hid (do_to (dGet x r.id) ⟨none, 0, At.none⟩ W6 (hs5.below hA6) (fun z h => h.elim) ⟨SlR.none _ _, Nat.le_refl _, Nat.zero_le _, zero_ok _, zero_sh, str0_sh⟩ hT2 (doX_4 rfl))
          have HX6 := Lib.hid (hx5.below hA6)
          have HB6 := Lib.hid hB6
          have HT7 := Lib.hid t7
          have HQ5 : Hid (w.heap.size + 1 < q5) := by show _ < q5; have := HPS.out; have := HB4.out.size; have := cell_lt HX4.out.r0; omega
          have HW6 := Lib.hid hW6
          have HOF : Hid (Off p q5 w5.heap.size) := ⟨by have := hs5.pw; omega, by have := hs5.qw; omega⟩
          have hz5 : w5.heap.size < W6.heap.size := by rw [hW6]; simp
          have HZ5 := Lib.hid hz5
          clear x0 x1 x2 r0 r1 r2 r3
          obtain ⟨x0, x1, x2, r0, r1, r2, r3⟩ := hx5
          have l0 := cell_lt x0
          have l1 := cell_lt r0
          rw [hW6] at HD2
          clear hs5 hq5 hk5 hB5 hA6 t7 hB6 hT2 hW6 hz5 HD
          go_wp2_with fail
          refine HD2.out.mono ?_
          rintro e w7 ⟨P7, q7, rfl, hn7, hs7, hq7, hk7⟩
          rw [← HW6.out] at hk7 hn7
          obtain ⟨va, vc, ia, ic, na, nc⟩ := P7
          have hx7 := HX6.out.kept hk7 (by have := HPS.out; have := HQ5.out; constructor <;> omega) (by have := HPS.out; have := HQ5.out; constructor <;> omega)
          have hB7 := HB6.out.trans (hk7.to (fun z hz => by have := HPS.out; have := HQ5.out; constructor <;> omega) HB6.out.size)
          have t7 := hk7.cell HOF.out HT7.out
          obtain ⟨lv, hl1, hl2, hl3⟩ := hn7.v.at_
          simp only at hl1 hl2 hl3
          match lv, hl1, hl2, hl3 with
          | [], hl1, _, _ => exact absurd hl1 (by simp)
          | _ :: _ :: _, hl1, _, _ => exact absurd hl1 (by simp)
          | [y], hl1, _, hl3 =>
            obtain ⟨yv, yp⟩ := y
            simp only [List.map_cons, List.map_nil, List.cons.injEq, and_true] at hl1
            subst hl1
            obtain ⟨hyi, bv, ov, rfl, v0, v1, v2, v3, v4⟩ := hl3 0 _ rfl
            simp only [Nat.zero_mul, Nat.add_zero] at v0 v1 v2 v3 v4 hyi
            obtain ⟨W8, hW8⟩ : ∃ W8, W8 = w7.alloc (.cells #[.int .i64 0, .slice (some ⟨bv, ov, none⟩) 1 vc, .slice ia 0 ic, .slice na 0 nc] 51) := ⟨_, rfl⟩
            have hA8 : Below w7.heap.size w7 W8 := by rw [hW8]; exact (Below.refl _ _).alloc (Nat.le_refl _) _
            have HB8 := Lib.hid (hB7.trans (hA8.mono hB7.size))
            have hx8 := hx7.below hA8
            have k0 := cell_regrown ((hA8.cell (p := ⟨w5.heap.size, 0, none⟩) (cell_lt t7)).trans t7)
            have k1 := cell_regrown (show W8.cell? ⟨w7.heap.size, 0, none⟩ = some (.int .i64 0) by rw [hW8]; simp [go_sem])
            have k2 := cell_regrown (show W8.cell? ⟨w7.heap.size, 1, none⟩ = some (.slice (some ⟨bv, ov, none⟩) 1 vc) by rw [hW8]; simp [go_sem])
            have k3 := cell_regrown ((hA8.cell (p := ⟨bv, ov, none⟩) (cell_lt v0)).trans v0)
            have k4 := cell_regrown ((hA8.cell (p := ⟨bv, ov + 1, none⟩) (cell_lt v1)).trans v1)
            have k5 := cell_regrown ((hA8.cell (p := ⟨bv, ov + 2, none⟩) (cell_lt v2)).trans v2)
            have k6 := cell_regrown ((hA8.cell (p := ⟨bv, ov + 3, none⟩) (cell_lt v3)).trans v3)
            have k7 := cell_regrown hx8.r0
            have k8 := cell_regrown hx8.r1
            have k9 := cell_regrown hx8.r2
            have k10 := cell_regrown hx8.r3
            have hri : r.in_ yp W8 := hyi.below hA8
            have hri2 : r.in_ P W8 := HI.out.below HB8.out
            have cS : ∀ d os, Calls Try.prog 22 #[r.v yp, r.v P] (grow (redrawn W8 d) os) fun e w'' => e = .returned (.bool true) ∧ ∃ p : Regrown, w'' = grow (redrawn W8 p.d) p.os := fun d os => Calls.regrown_of (same_is (b := true) r r yp P _ (hri.below (below_regrown W8 d os)) (hri2.below (below_regrown W8 d os)) (by simp))
            have HW8 := Lib.hid hW8
            obtain ⟨x0', x1', x2', r0', r1', r2', r3'⟩ := hx7
            have l0' := cell_lt x0'
            have l1' := cell_lt r0'
            clear hs7 hq7 hk7 hn7 hB7 t7 hl2 hl3 hyi v0 v1 v2 v3 v4 hA8 hx8 hri hri2 hW8 HD2 x0 x1 x2 r0 r1 r2 r3
            go_wp2_with fail
            rw [← HW8.out]
            clear x0' x1' x2' r0' r1' r2' r3'
            refine region_below_lit (by kernel_rfl) (by kernel_rfl) ?_
            repeat (go_big_quiet_step (with_reducible first | exact cS _ _))
            refine wpQuiet_nil ?_
            intro _ hw'
            obtain ⟨⟨dq, osq⟩, hw''⟩ := hw'
            subst hw''
            have HB9 := Lib.hid (HB8.out.trans ((below_regrown W8 dq osq).mono HB8.out.size))
            generalize grow (redrawn W8 dq) osq = w9 at HB9 ⊢
            clear k0 k1 k2 k3 k4 k5 k6 k7 k8 k9 k10 cS
            go_wp2_with fail
            go_ret
            exact ⟨rfl, HB9.out⟩
        · have hT : doT B3 (dPut x r) = ⟨6, [], [], []⟩ := by
            rw [doT_2 rfl]
            show (⟨putC B3 x r, [], [], []⟩ : ToldL) = _
            rw [(den_no HOK.out H3.out HRO.out hc).1]
          have hX : doX B3 (dPut x r) = B3 := by
            rw [doX_2 rfl]
            exact (den_no HOK.out H3.out HRO.out hc).2
          have HD := Lib.hid (do_to (dPut x r) ⟨none, 0, P⟩ w4 HS4.out (fun z h => h.elim) hin4 hT hX)
          have hc1 : (r.cats == 0) = false := by simpa using hc
          have hc2 : (r.cats != 0) = true := by simpa using hc
          clear hT hX hin4 hc
          go_wp2_with fail
          refine HD.out.mono ?_
          rintro e w5 ⟨P5, q5, rfl, _, hs5, hq5, hk5⟩
          have hx5 := HX4.out.kept hk5 (by have := HPS.out; constructor <;> omega) (by have := HPS.out; constructor <;> omega)
          have hB5 := HB4.out.trans (hk5.to (fun z hz => by have := HPS.out; constructor <;> omega) HB4.out.size)
          have hA6 : Below w5.heap.size w5 (w5.alloc (.cells #[.int .i64 6, .slice P5.va 0 P5.vc, .slice P5.ia 0 P5.ic, .slice P5.na 0 P5.nc] 51)) := (Below.refl _ _).alloc (Nat.le_refl _) _
          have HV := Lib.hid (versions_of (L := []) _ (hs5.below hA6) rfl)
          have HB6 := Lib.hid (hB5.trans (hA6.mono hB5.size))
          clear x0 x1 x2 r0 r1 r2 r3
          obtain ⟨x0, x1, x2, r0, r1, r2, r3⟩ := hx5
          have l0 := cell_lt x0
          have l1 := cell_lt r0
          clear hs5 hq5 hk5 hB5 hA6 HD
          go_wp2_with fail
          refine HV.out.mono ?_
          rintro e w7 ⟨A7, m7, c7, rfl, hn7, hb7⟩
          have hm7 : m7 = 0 := hn7.at_.len
          subst hm7
          have HB7 := Lib.hid (HB6.out.trans (hb7.mono HB6.out.size))
          clear hn7 hb7 HV x0 x1 x2 r0 r1 r2 r3
          go_wp2_with fail
          go_ret
          exact ⟨rfl, HB7.out⟩
      · have h3' : 2 < x.role := by omega
        have HWH := Lib.hid (who_any x w3)
        have e1 : decide x.ok = true := decide_eq_true hok
        rw [e1] at HWH
        clear hok e1 h3
        go_wp2_with fail
        refine HWH.out.mono ?_
        rintro e w4 ⟨rfl, hb4⟩
        have HB4 := Lib.hid (HB3.out.trans (hb4.mono HB3.out.size))
        have HX4 := Lib.hid (HX3.out.below hb4)
        clear hb4 x0 x1 x2 r0 r1 r2 r3 HWH
        obtain ⟨x0, x1, x2, r0, r1, r2, r3⟩ := HX4.out
        go_wp2_with fail
        go_ret
        exact ⟨rfl, HB4.out⟩
    · have HWH := Lib.hid (who_any x w3)
      have e1 : decide x.ok = false := decide_eq_false hok
      rw [e1] at HWH
      clear hok e1
      go_wp2_with fail
      refine HWH.out.mono ?_
      rintro e w4 ⟨rfl, hb4⟩
      have HB4 := Lib.hid (HB3.out.trans (hb4.mono HB3.out.size))
      clear hb4 x0 x1 x2 r0 r1 r2 r3 HWH
      go_wp2_with fail
      go_ret
      exact ⟨rfl, HB4.out⟩
  · have h1 : (re == 0) = false := by simpa using h0
    have h2 : (re != 0) = true := by simpa using h0
    clear h0
    go_wp2_with fail
    go_ret
    exact ⟨rfl, HB3.out⟩
end Go.Proofs.Yteimdhkajbldjaa
