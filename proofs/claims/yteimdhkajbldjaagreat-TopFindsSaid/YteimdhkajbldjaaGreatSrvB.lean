/- What a server answers, and what it becomes: all its calls. -/
import Derived.Test.YteimdhkajbldjaaGreatSrvA
import Derived.Test.YteimdhkajbldjaaGreatRuleB
import Derived.Test.YteimdhkajbldjaaGreatSFine
import Derived.Lib.QuietBelow
import Derived.BigQuiet
import Derived.Deep.QuietTactic
import Derived.Test.YteimdhkajbldjaaGreatFAll
import Derived.Deep.AppendLies
import Derived.Deep.RegionLaw
set_option linter.unusedVariables false
set_option linter.unusedSimpArgs false
set_option maxRecDepth 100000
namespace Go.Proofs.YteimdhkajbldjaaGreat
open Go.RowKit Go.Sort

abbrev ptr (p : Nat) : Value := .pointer (some ⟨p, 0, none⟩)
theorem mayE_cases (X : SrvX) (x : WhoL) (c : Int) : maE X x c = 0 ∨ maE X x c = 1 ∨ maE X x c = 2 ∨ maE X x c = 3 ∨ maE X x c = 4 := by
  unfold maE mayE
  have := seesE_cases (m := X.m) (z := X.zi) (n := X.n) (rs := X.rs) (x := x)
  split
  · exact this
  · split
    · exact .inl rfl
    · exact .inr (.inl rfl)
theorem roles_le {X : SrvX} (h : X.Ok) : X.m ≤ maxLen := by
  have := (rolesErr_zero h.roles).1
  unfold maxLen
  omega
theorem rules_le {X : SrvX} (h : X.Ok) : X.n ≤ maxLen := by
  have := (rulesErr_zero h.rules).1
  unfold maxLen
  omega
/-- the lists that a server's calls hand on, and the cells of the server -/
structure Peek (w : World) (p : Nat) (X : SrvX) (a0 : Option Addr) (c0 : Nat) (a1 : Option Addr) (c1 : Nat) (a2 : Option Addr) (c2 : Nat) : Prop where
  k0 : w.cell? ⟨p, 0, none⟩ = some (.slice a0 X.m c0)
  k1 : w.cell? ⟨p, 1, none⟩ = some (.slice a1 X.n c1)
  k2 : w.cell? ⟨p, 2, none⟩ = some (.slice a2 X.vs.length c2)
  r0 : Sl w a0 X.m X.zi
  r1 : SlR w a1 X.n X.rs
  r2 : VsAt w a2 X.vs.length X.vs
theorem Srv.peek {w : World} {S p q : Nat} {F : Nat → Prop} {X : SrvX} (h : Srv w S p q F X) : ∃ a0 c0 a1 c1 a2 c2, Peek w p X a0 c0 a1 c1 a2 c2 := by
  obtain ⟨a0, c0, k0, r0⟩ := h.c0
  obtain ⟨a1, c1, k1, r1⟩ := h.c1
  obtain ⟨a2, c2, k2, r2⟩ := h.c2
  exact ⟨a0, c0, a1, c1, a2, c2, k0, k1, k2, r0.here.1, r1.here, r2.here⟩
theorem Peek.below {w w' : World} {p : Nat} {X : SrvX} {a0 a1 a2 : Option Addr} {c0 c1 c2 : Nat} (h : Peek w p X a0 c0 a1 c1 a2 c2) (hb : Below w.heap.size w w') : Peek w' p X a0 c0 a1 c1 a2 c2 :=
  ⟨(hb.cell (p := ⟨p, 0, none⟩) (cell_lt h.k0)).trans h.k0, (hb.cell (p := ⟨p, 1, none⟩) (cell_lt h.k1)).trans h.k1, (hb.cell (p := ⟨p, 2, none⟩) (cell_lt h.k2)).trans h.k2, h.r0.below hb, h.r1.below hb, h.r2.below hb⟩

abbrev whoBox (x : WhoL) (w : World) : World := w.alloc (.cells #[.int .i64 x.role, .int .i64 x.why, .int .i64 x.time] 30)
theorem whoBox_below (x : WhoL) (w : World) : Below w.heap.size w (whoBox x w) := (Below.refl _ _).alloc (Nat.le_refl _) _

set_option maxHeartbeats 4000000 in
theorem checkMay_is {S p q : Nat} {F : Nat → Prop} {X : SrvX} {er : Int} (x : WhoL) (c : Int) (w : World) (h : Srv w S p q F X) (he : chkE X x c = er) :
    Calls Tryz.prog 100 #[ptr p, x.v, .int .i64 c] w fun e w' => e = .returned (.int .i64 er) ∧ Below w.heap.size w w' := by
  obtain ⟨a0, k0, a1, k1, a2, k2, hp⟩ := h.peek
  have HP := Lib.hid hp
  have hm0 := roles_le h.ok
  have hn0 := rules_le h.ok
  have HM0 := Lib.hid hm0
  have HN0 := Lib.hid hn0
  obtain ⟨m, hm⟩ : ∃ m, X.m = m := ⟨_, rfl⟩
  obtain ⟨n, hn⟩ : ∃ n, X.n = n := ⟨_, rfl⟩
  obtain ⟨me, hme⟩ : ∃ me, maE X x c = me := ⟨_, rfl⟩
  obtain ⟨mv, hmv⟩ : ∃ mv, maV X x c = mv := ⟨_, rfl⟩
  have hcs := mayE_cases X x c
  rw [hme] at hcs
  have HE : Hid ((if me ≠ 0 then me else if mv = true then 0 else 6) = er) := by
    show _ = _
    rw [← he]
    unfold chkE
    rw [hme, hmv]
  have HM := Lib.hid hm
  have HN := Lib.hid hn
  have HME := Lib.hid hme
  have HMV := Lib.hid hmv
  clear h he hp hm hn hme hmv hm0 hn0
  go_enter Tryz.func100, Tryz.ntmps100
  go_wp2_with fail
  obtain ⟨W, hW⟩ : ∃ W, W = w.alloc (.cells #[.int .i64 x.role, .int .i64 x.why, .int .i64 x.time] 30) := ⟨_, rfl⟩
  have hA : Below w.heap.size w W := by rw [hW]; exact whoBox_below x w
  have HP1 := Lib.hid (HP.out.below hA)
  have q0 := cell_regrown HP1.out.k0
  have q1 := cell_regrown HP1.out.k1
  have q4 := cell_regrown (show W.cell? ⟨w.heap.size, 0, none⟩ = some (.int .i64 x.role) by rw [hW]; simp [go_sem])
  have q5 := cell_regrown (show W.cell? ⟨w.heap.size, 1, none⟩ = some (.int .i64 x.why) by rw [hW]; simp [go_sem])
  have q6 := cell_regrown (show W.cell? ⟨w.heap.size, 2, none⟩ = some (.int .i64 x.time) by rw [hW]; simp [go_sem])
  rw [HM.out] at q0
  rw [HN.out] at q1
  have cM : ∀ d os, Calls Tryz.prog 131 #[.slice a0 m k0, .slice a1 n k1, .agg #[.int .i64 x.role, .int .i64 x.why, .int .i64 x.time], .int .i64 c] (grow (redrawn W d) os) fun e w'' => e = .returned (.tuple #[.bool mv, .int .i64 me]) ∧ ∃ p : Regrown, w'' = grow (redrawn W p.d) p.os := fun d os => Calls.regrown_of (by
    have hb := below_regrown W d os
    have hp2 := HP1.out.below hb
    have := may_any a0 X.m k0 X.zi a1 X.n k1 X.rs x c (grow (redrawn W d) os) hp2.r0 HM0.out hp2.r1 HN0.out
    rw [HM.out, HN.out] at this
    have e1 : mayV m X.zi n X.rs x c = mv := by rw [← HM.out, ← HN.out]; exact HMV.out
    have e2 : mayE m X.zi n X.rs x c = me := by rw [← HM.out, ← HN.out]; exact HME.out
    rw [e1, e2] at this
    exact this)
  have HA := Lib.hid hA
  rw [← hW]
  clear hA hW HP1
  refine region_below_lit (by kernel_rfl) (by kernel_rfl) ?_
  repeat (go_big_quiet_step (with_reducible first | exact cM _ _))
  refine wpQuiet_nil ?_
  intro _ hw'
  obtain ⟨⟨dq, osq⟩, hw''⟩ := hw'
  subst hw''
  have HB := Lib.hid (HA.out.trans ((below_regrown W dq osq).mono HA.out.size))
  generalize grow (redrawn W dq) osq = w4 at HB ⊢
  clear q0 q1 q4 q5 q6 cM HA
  rcases hcs with rfl | rfl | rfl | rfl | rfl
  · cases mv with
    | true =>
      have e : er = 0 := HE.out.symm
      subst e
      go_wp2_with fail
      go_ret
      exact ⟨rfl, HB.out⟩
    | false =>
      have e : er = 6 := HE.out.symm
      subst e
      go_wp2_with fail
      go_ret
      exact ⟨rfl, HB.out⟩
  · have e : er = 1 := HE.out.symm
    subst e
    go_wp2_with fail
    go_ret
    exact ⟨rfl, HB.out⟩
  · have e : er = 2 := HE.out.symm
    subst e
    go_wp2_with fail
    go_ret
    exact ⟨rfl, HB.out⟩
  · have e : er = 3 := HE.out.symm
    subst e
    go_wp2_with fail
    go_ret
    exact ⟨rfl, HB.out⟩
  · have e : er = 4 := HE.out.symm
    subst e
    go_wp2_with fail
    go_ret
    exact ⟨rfl, HB.out⟩

theorem seE_cases (X : SrvX) (x : WhoL) : seE X x = 0 ∨ seE X x = 1 ∨ seE X x = 2 ∨ seE X x = 3 ∨ seE X x = 4 := seesE_cases
theorem seV_no {X : SrvX} {x : WhoL} (h : seE X x ≠ 0) : seV X x = 0 := seesV_err h
/-- the part that they may see, or the error -/
noncomputable def partR (X : SrvX) (x : WhoL) : List VerL := if seE X x = 0 then seenL X x else []

set_option maxHeartbeats 4000000 in
theorem part_of {S p q : Nat} {F : Nat → Prop} {X : SrvX} {er : Int} {R : List VerL} (x : WhoL) (w : World) (h : Srv w S p q F X) (he : seE X x = er) (hR : partR X x = R) :
    Calls Tryz.prog 103 #[ptr p, x.v] w (ListTo R er w) := by
  obtain ⟨a0, k0, a1, k1, a2, k2, hp⟩ := h.peek
  have HP := Lib.hid hp
  have HM0 := Lib.hid (roles_le h.ok)
  have HN0 := Lib.hid (rules_le h.ok)
  have HST := Lib.hid h.ok.st
  obtain ⟨m, hm⟩ : ∃ m, X.m = m := ⟨_, rfl⟩
  obtain ⟨n, hn⟩ : ∃ n, X.n = n := ⟨_, rfl⟩
  obtain ⟨vn, hvn⟩ : ∃ vn, X.vs.length = vn := ⟨_, rfl⟩
  obtain ⟨sv, hsv⟩ : ∃ sv, seV X x = sv := ⟨_, rfl⟩
  have hs8 : sv ≤ 255 := by rw [← hsv]; exact seV_le X x
  have hcs := seE_cases X x
  rw [he] at hcs
  have HR := Lib.hid hR
  have HM := Lib.hid hm
  have HN := Lib.hid hn
  have HVN := Lib.hid hvn
  have HE := Lib.hid he
  have HSV := Lib.hid hsv
  have HS8 := Lib.hid hs8
  clear h he hp hm hn hvn hsv hR hs8
  go_enter Tryz.func103, Tryz.ntmps103
  go_wp2_with fail
  obtain ⟨W, hW⟩ : ∃ W, W = w.alloc (.cells #[.int .i64 x.role, .int .i64 x.why, .int .i64 x.time] 30) := ⟨_, rfl⟩
  have hA : Below w.heap.size w W := by rw [hW]; exact whoBox_below x w
  have HP1 := Lib.hid (HP.out.below hA)
  have q0 := cell_regrown HP1.out.k0
  have q1 := cell_regrown HP1.out.k1
  have q4 := cell_regrown (show W.cell? ⟨w.heap.size, 0, none⟩ = some (.int .i64 x.role) by rw [hW]; simp [go_sem])
  have q5 := cell_regrown (show W.cell? ⟨w.heap.size, 1, none⟩ = some (.int .i64 x.why) by rw [hW]; simp [go_sem])
  have q6 := cell_regrown (show W.cell? ⟨w.heap.size, 2, none⟩ = some (.int .i64 x.time) by rw [hW]; simp [go_sem])
  rw [HM.out] at q0
  rw [HN.out] at q1
  have cM : ∀ d os, Calls Tryz.prog 14 #[.slice a0 m k0, .slice a1 n k1, .agg #[.int .i64 x.role, .int .i64 x.why, .int .i64 x.time]] (grow (redrawn W d) os) fun e w'' => e = .returned (.tuple #[.int .i64 (sv : Int), .int .i64 er]) ∧ ∃ p : Regrown, w'' = grow (redrawn W p.d) p.os := fun d os => Calls.regrown_of (by
    have hb := below_regrown W d os
    have hp2 := HP1.out.below hb
    have := sees_any a0 X.m k0 X.zi a1 X.n k1 X.rs x (grow (redrawn W d) os) hp2.r0 HM0.out hp2.r1 HN0.out
    rw [HM.out, HN.out] at this
    have e1 : seesV m X.zi n X.rs x = sv := by rw [← HM.out, ← HN.out]; exact HSV.out
    have e2 : seesE m X.zi n X.rs x = er := by rw [← HM.out, ← HN.out]; exact HE.out
    rw [e1, e2] at this
    exact this)
  have HA := Lib.hid hA
  rw [← hW]
  clear hA hW
  refine region_below_lit (by kernel_rfl) (by kernel_rfl) ?_
  repeat (go_big_quiet_step (with_reducible first | exact cM _ _))
  refine wpQuiet_nil ?_
  intro _ hw'
  obtain ⟨⟨dq, osq⟩, hw''⟩ := hw'
  subst hw''
  have HP4 := Lib.hid (HP1.out.below (below_regrown W dq osq))
  have HB := Lib.hid (HA.out.trans ((below_regrown W dq osq).mono HA.out.size))
  generalize grow (redrawn W dq) osq = w4 at HB HP4 ⊢
  clear q0 q1 q4 q5 q6 cM HA HP1
  have hno : er ≠ 0 → R = [] := fun h0 => by
    rw [← HR.out]
    unfold partR
    rw [if_neg (by rw [HE.out]; exact h0)]
  rcases hcs with rfl | rfl | rfl | rfl | rfl
  · have HPT := Lib.hid (part_is k2 sv w4 HP4.out.r2 HST.out HS8.out)
    have hR0 : Hid (prt X.vs sv = R) := by
      show _ = _
      rw [← HR.out]
      unfold partR seenL
      rw [if_pos HE.out, HSV.out]
    rw [HVN.out, hR0.out] at HPT
    have y2 := HP4.out.k2
    rw [HVN.out] at y2
    clear hno
    go_wp2_with fail
    refine HPT.out.mono ?_
    rintro e w5 ⟨A, mm, c, rfl, hnw, hb5⟩
    have HB5 := Lib.hid (HB.out.trans (hb5.mono HB.out.size))
    have HNW := Lib.hid (hnw.low HB.out.size)
    clear hnw hb5 HPT y2
    go_wp2_with fail
    go_ret2
    exact ⟨A, mm, c, rfl, HNW.out, HB5.out⟩
  all_goals
    obtain rfl := hno (by decide)
    go_wp2_with fail
    go_ret2
    exact ⟨none, 0, 0, rfl, NewW.nil _ _, HB.out⟩

/-- one version alone, whose record is new -/
theorem oneNew {B : Nat} {w : World} {r : RecL} {P : At} (h : NewRec B w r P) (hB : B ≤ w.heap.size) (g : Bool) : NewW B (w.alloc (.cells #[.string r.id, .int .i64 r.cats, .slice P.fa r.fs.length P.fc, .slice P.ra r.rs.length P.rc, .bool g] 55)) (some ⟨w.heap.size, 0, none⟩) 1 1 [⟨r, g⟩] := by
  refine ⟨[⟨⟨r, g⟩, P⟩], rfl, rfl, ⟨?_, .inr ⟨w.heap.size, 1, _, rfl, hB, heap_alloc_new w _, Nat.le_refl _, by unfold maxLen; omega, rfl, ?_⟩⟩, AllNew.one (h.below ((Below.refl _ _).alloc (Nat.le_refl _) _))⟩
  · rfl
  · rfl

/-- the record that is read, as a version -/
def oneV (er : Int) (R : RecL) : List VerL := if er = 0 then [⟨R, false⟩] else []

set_option maxHeartbeats 4000000 in
theorem current_is {n : Nat} {er : Int} {R : RecL} {L : List VerL} {a : Option Addr} {vs : List VerL} (c : Nat) (id : ByteArray) (w : World) (h : VsAt w a n vs) (hst : stErr vs = 0) (hR : getR vs id = R) (he : getErr vs id = er) (hL : oneV er R = L) :
    Calls Tryz.prog 104 #[.slice a n c, .string id] w (ListTo L er w) := by
  have HG := Lib.hid (get_fine c id w h hst hR he)
  have hcs := getErr_cases hst id
  rw [he] at hcs
  have HL := Lib.hid hL
  clear h hst hR he hL
  go_enter Tryz.func104, Tryz.ntmps104
  go_wp2_with fail
  refine HG.out.mono ?_
  rintro e w1 ⟨P, rfl, hnr, hb1⟩
  have HNR := Lib.hid hnr
  have HB1 := Lib.hid hb1
  clear hnr hb1 HG
  rcases hcs with rfl | rfl
  · have e : L = [⟨R, false⟩] := HL.out.symm
    subst e
    go_wp2_with fail
    go_ret2
    have hb2 : Below w1.heap.size w1 (w1.alloc (.cells #[.string R.id, .int .i64 R.cats, .slice P.fa R.fs.length P.fc, .slice P.ra R.rs.length P.rc] 35)) := (Below.refl _ _).alloc (Nat.le_refl _) _
    have hB := HB1.out.trans (hb2.mono HB1.out.size)
    have hn := oneNew (HNR.out.below hb2) hB.size false
    have hs : (w1.alloc (.cells #[.string R.id, .int .i64 R.cats, .slice P.fa R.fs.length P.fc, .slice P.ra R.rs.length P.rc] 35)).heap.size = w1.heap.size + 1 := by simp
    rw [hs] at hn
    exact ⟨_, 1, 1, rfl, hn, hB.alloc hB.size _⟩
  · have e : L = [] := HL.out.symm
    subst e
    go_wp2_with fail
    go_ret2
    exact ⟨none, 0, 0, rfl, NewW.nil _ _, HB1.out.alloc HB1.out.size _⟩

/-! ## get, hist, Rules, Versions -/
theorem partR_st {X : SrvX} (h : X.Ok) (x : WhoL) : stErr (partR X x) = 0 := by
  unfold partR
  split
  · exact prt_st h.st _
  · exact stErr_ok.2 ⟨by simp, stOk_nil⟩
theorem getC_cases {X : SrvX} (h : X.Ok) (x : WhoL) (id : ByteArray) : (seE X x = 0 ∧ getC X x id = getErr (partR X x) id ∧ getT X x id = oneV (getC X x id) (getR (partR X x) id)) ∨ (seE X x ≠ 0 ∧ getC X x id = seE X x ∧ getT X x id = []) := by
  by_cases h0 : seE X x = 0
  · have e : getC X x id = getErr (partR X x) id := by
      unfold getC partR
      rw [if_neg (fun k => k h0), if_pos h0]
    refine .inl ⟨h0, e, ?_⟩
    unfold getT oneV partR
    rw [if_pos h0]
  · have e : getC X x id = seE X x := by
      unfold getC
      rw [if_pos h0]
    refine .inr ⟨h0, e, ?_⟩
    unfold getT
    rw [if_neg (by rw [e]; exact h0)]

set_option maxHeartbeats 4000000 in
theorem get_of {S p q : Nat} {F : Nat → Prop} {X : SrvX} {er : Int} {L : List VerL} (x : WhoL) (id : ByteArray) (w : World) (h : Srv w S p q F X) (he : getC X x id = er) (hL : getT X x id = L) :
    Calls Tryz.prog 58 #[ptr p, x.v, .string id] w (ListTo L er w) := by
  have hA := whoBox_below x w
  obtain ⟨R, hR⟩ : ∃ R, partR X x = R := ⟨_, rfl⟩
  obtain ⟨se, hse⟩ : ∃ se, seE X x = se := ⟨_, rfl⟩
  have HA := Lib.hid hA
  have HPT := Lib.hid (part_of x _ (h.below hA) hse hR)
  have HST : Hid (stErr R = 0) := by show _ = _; rw [← hR]; exact partR_st h.ok x
  have hcs := getC_cases h.ok x id
  rw [he, hL, hR, hse] at hcs
  clear h he hL hA hR hse
  go_enter Tryz.func58, Tryz.ntmps58
  go_wp2_with fail
  refine HPT.out.mono ?_
  rintro e w1 ⟨A, m, c, rfl, hnw, hb1⟩
  have HB1 := Lib.hid (HA.out.trans (hb1.mono HA.out.size))
  have HV := Lib.hid hnw.at_
  clear hnw hb1 HPT HA
  rcases hcs with ⟨rfl, he, hL⟩ | ⟨h0, rfl, rfl⟩
  · have HC := Lib.hid (current_is c id w1 HV.out HST.out rfl he.symm hL.symm)
    clear he hL
    go_wp2_with fail
    refine HC.out.mono ?_
    rintro e w2 ⟨A2, m2, c2, rfl, hnw, hb2⟩
    have HB2 := Lib.hid (HB1.out.trans (hb2.mono HB1.out.size))
    have HNW := Lib.hid (hnw.low HB1.out.size)
    clear hnw hb2 HC
    go_wp2_with fail
    go_ret2
    exact ⟨A2, m2, c2, rfl, HNW.out, HB2.out⟩
  · have h1 : (er == 0) = false := by simpa using h0
    have h2 : (er != 0) = true := by simpa using h0
    clear h0
    go_wp2_with fail
    go_ret2
    exact ⟨none, 0, 0, rfl, NewW.nil _ _, HB1.out⟩

theorem histC_cases {X : SrvX} (h : X.Ok) (x : WhoL) (id : ByteArray) : (seE X x = 0 ∧ histC X x id = histErr (partR X x) id ∧ histT X x id = hist (partR X x) id) ∨ (seE X x ≠ 0 ∧ histC X x id = seE X x ∧ histT X x id = []) := by
  by_cases h0 : seE X x = 0
  · have e : histC X x id = histErr (partR X x) id := by
      unfold histC partR
      rw [if_neg (fun k => k h0), if_pos h0]
    refine .inl ⟨h0, e, ?_⟩
    unfold histT
    have e2 : partR X x = seenL X x := by unfold partR; rw [if_pos h0]
    rw [e2]
    split
    · rfl
    · rename_i h1
      rw [e, e2] at h1
      rcases histErr_two (show stErr (seenL X x) = 0 by rw [← e2]; exact partR_st h x) id with ⟨h2, _⟩ | ⟨_, h2⟩
      · exact h2.symm
      · exact absurd h2 h1
  · have e : histC X x id = seE X x := by
      unfold histC
      rw [if_pos h0]
    refine .inr ⟨h0, e, ?_⟩
    unfold histT
    rw [if_neg (by rw [e]; exact h0)]

set_option maxHeartbeats 4000000 in
theorem hist_of {S p q : Nat} {F : Nat → Prop} {X : SrvX} {er : Int} {L : List VerL} (x : WhoL) (id : ByteArray) (w : World) (h : Srv w S p q F X) (he : histC X x id = er) (hL : histT X x id = L) :
    Calls Tryz.prog 60 #[ptr p, x.v, .string id] w (ListTo L er w) := by
  have hA := whoBox_below x w
  obtain ⟨R, hR⟩ : ∃ R, partR X x = R := ⟨_, rfl⟩
  obtain ⟨se, hse⟩ : ∃ se, seE X x = se := ⟨_, rfl⟩
  have HA := Lib.hid hA
  have HPT := Lib.hid (part_of x _ (h.below hA) hse hR)
  have HST : Hid (stErr R = 0) := by show _ = _; rw [← hR]; exact partR_st h.ok x
  have hcs := histC_cases h.ok x id
  rw [he, hL, hR, hse] at hcs
  clear h he hL hA hR hse
  go_enter Tryz.func60, Tryz.ntmps60
  go_wp2_with fail
  refine HPT.out.mono ?_
  rintro e w1 ⟨A, m, c, rfl, hnw, hb1⟩
  have HB1 := Lib.hid (HA.out.trans (hb1.mono HA.out.size))
  have HV := Lib.hid hnw.at_
  clear hnw hb1 HPT HA
  rcases hcs with ⟨rfl, he, hL⟩ | ⟨h0, rfl, rfl⟩
  · have HC := Lib.hid (hist_fine c id w1 HV.out HST.out hL.symm he.symm)
    clear he hL
    go_wp2_with fail
    refine HC.out.mono ?_
    rintro e w2 ⟨A2, m2, c2, rfl, hnw, hb2⟩
    have HB2 := Lib.hid (HB1.out.trans (hb2.mono HB1.out.size))
    have HNW := Lib.hid (hnw.low HB1.out.size)
    clear hnw hb2 HC
    go_wp2_with fail
    go_ret2
    exact ⟨A2, m2, c2, rfl, HNW.out, HB2.out⟩
  · have h1 : (er == 0) = false := by simpa using h0
    have h2 : (er != 0) = true := by simpa using h0
    clear h0
    go_wp2_with fail
    go_ret2
    exact ⟨none, 0, 0, rfl, NewW.nil _ _, HB1.out⟩

/-- P43 -/
def RulesTo (n : Nat) (rs : Nat → RuleL) (w : World) (e : Ending) (w' : World) : Prop := ∃ A c, e = .returned (.slice A n c) ∧ OwnR w.heap.size w' (.slice A n c) n rs ∧ Below w.heap.size w w'

set_option maxHeartbeats 4000000 in
theorem rules_of {S p q n : Nat} {F : Nat → Prop} {X : SrvX} (w : World) (h : Srv w S p q F X) (hn : X.n = n) :
    Calls Tryz.prog 15 #[ptr p] w (RulesTo n X.rs w) := by
  obtain ⟨a0, k0, a1, k1, a2, k2, hp⟩ := h.peek
  have HC := Lib.hid (cloneR_any a1 X.n k1 X.rs w hp.r1 (by have := (rulesErr_zero h.ok.rules).1; omega))
  have y1 := hp.k1
  rw [hn] at y1 HC
  clear h hp hn
  go_enter Tryz.func15, Tryz.ntmps15
  go_wp2_with fail
  refine HC.out.mono ?_
  rintro e w1 ⟨v, A, c, rfl, rfl, ho, hb⟩
  have HO := Lib.hid ho
  have HB := Lib.hid hb
  clear ho hb HC y1
  go_wp2_with fail
  go_ret
  exact ⟨A, c, rfl, HO.out, HB.out⟩

def VersTo (R : List VerL) (w : World) (e : Ending) (w' : World) : Prop := ∃ A m c, e = .returned (.slice A m c) ∧ NewW w.heap.size w' A m c R ∧ Below w.heap.size w w'
theorem prt_whole {vs : List VerL} (h : stErr vs = 0) : prt vs ((255 : Nat) : Int) = vs := prt_all (stErr_ok.1 h).2

set_option maxHeartbeats 4000000 in
theorem versions_of {S p q : Nat} {F : Nat → Prop} {X : SrvX} {L : List VerL} (w : World) (h : Srv w S p q F X) (hL : X.vs = L) :
    Calls Tryz.prog 18 #[ptr p] w (VersTo L w) := by
  obtain ⟨a0, k0, a1, k1, a2, k2, hp⟩ := h.peek
  obtain ⟨vn, hvn⟩ : ∃ vn, X.vs.length = vn := ⟨_, rfl⟩
  have HC := Lib.hid (part_is k2 255 w hp.r2 h.ok.st (by omega))
  rw [prt_whole h.ok.st] at HC
  have y2 := hp.k2
  rw [hvn] at y2 HC
  rw [hL] at HC
  clear h hp hvn hL
  go_enter Tryz.func18, Tryz.ntmps18
  go_wp2_with fail
  refine HC.out.mono ?_
  rintro e w1 ⟨A, m, c, rfl, hnw, hb⟩
  have HO := Lib.hid hnw
  have HB := Lib.hid hb
  clear hnw hb HC y2
  go_wp2_with fail
  go_ret
  exact ⟨A, m, c, rfl, HO.out, HB.out⟩
end Go.Proofs.YteimdhkajbldjaaGreat
namespace Go.Proofs.YteimdhkajbldjaaGreat
open Go.RowKit Go.Sort

/-- what a server's change leaves as it was -/
abbrev Off (p q : Nat) (z : Nat) : Prop := z ≠ p ∧ z ≠ q
theorem Srv.firm_new {w : World} {S p q : Nat} {F : Nat → Prop} {X : SrvX} (h : Srv w S p q F X) (hF : ∀ z, F z → z < w.heap.size) {b : Nat} (hb : w.heap.size ≤ b) : Firm p q F b :=
  ⟨fun e => by have := hF b e; omega, fun e => by have := h.pw; omega, fun e => by have := h.qw; omega⟩
/-- what a call that changes a server leaves: its code, the server -/
def CodeTo (S p q : Nat) (F : Nat → Prop) (er : Int) (X' : SrvX) (w : World) (e : Ending) (w' : World) : Prop := e = .returned (.int .i64 er) ∧ Srv w' S p q F X' ∧ Kept (Off p q) w w'
theorem CodeTo.no {S p q : Nat} {F : Nat → Prop} {er : Int} {X : SrvX} {w w' : World} (h : Srv w S p q F X) (hb : Below w.heap.size w w') : CodeTo S p q F er X w (.returned (.int .i64 er)) w' := ⟨rfl, h.below hb, Kept.of hb⟩

theorem change_no (p : Nat) (v : Value) (er : Int) (w : World) (h0 : er ≠ 0) : Calls Tryz.prog 101 #[ptr p, v, .int .i64 er] w fun e w' => e = .returned (.int .i64 er) ∧ w = w' := by
  have h1 : (er == 0) = false := by simpa using h0
  have h2 : (er != 0) = true := by simpa using h0
  clear h0
  go_enter Tryz.func101, Tryz.ntmps101
  go_wp2_with fail
  go_ret
  exact ⟨rfl, rfl⟩
theorem change_yes (p : Nat) (A : Option Addr) (n c : Nat) (v0 : Value) (w : World) (k : w.cell? ⟨p, 2, none⟩ = some v0) (f : w.frozen? ⟨p, 2, none⟩ = false) : Calls Tryz.prog 101 #[ptr p, .slice A n c, .int .i64 0] w fun e w' => e = .returned (.int .i64 0) ∧ w' = w.setCell ⟨p, 2, none⟩ (.slice A n c) := by
  go_enter Tryz.func101, Tryz.ntmps101
  go_wp2_with fail
  go_ret
  exact ⟨rfl, rfl⟩

set_option maxHeartbeats 4000000 in
theorem setRules_of {S p q n : Nat} {F : Nat → Prop} {X X' : SrvX} {er : Int} {rs : Nat → RuleL} (a : Option Addr) (c : Nat) (w : World) (h : Srv w S p q F X) (hF : ∀ z, F z → z < w.heap.size) (hs : SlR w a n rs) (hn : n ≤ maxLen) (he : rulesErr n rs = er) (hX : setS X n rs = X') :
    Calls Tryz.prog 55 #[ptr p, .slice a n c] w (CodeTo S p q F er X' w) := by
  have HC := Lib.hid (rules_any a n c rs w hs hn)
  rw [he] at HC
  have HS := Lib.hid hs
  have HH := Lib.hid h
  have HF := Lib.hid hF
  by_cases h0 : er = 0
  · subst h0
    have h20 := (rulesErr_zero he).1
    have HE := Lib.hid he
    have HX := Lib.hid hX
    clear h hF hs hn he hX
    go_enter Tryz.func55, Tryz.ntmps55
    go_wp2_with fail
    refine HC.out.mono ?_
    rintro e w1 ⟨rfl, hb1⟩
    have HB1 := Lib.hid hb1
    have HCL := Lib.hid (cloneR_any a n c rs w1 (HS.out.below hb1) (by omega))
    clear hb1
    go_wp2_with fail
    refine HCL.out.mono ?_
    rintro e w2 ⟨v, A, c2, rfl, rfl, ho, hb2⟩
    have hb := HB1.out.trans (hb2.mono HB1.out.size)
    have h2 := HH.out.below hb
    have HO := Lib.hid ho
    have HB := Lib.hid hb
    have H2 := Lib.hid h2
    have HB1S := Lib.hid (HB1.out.size)
    obtain ⟨a1, k1, y1, _⟩ := h2.c1
    have z1 := h2.fz 1
    clear ho hb hb2 h2 HCL HC HB1
    go_wp2_with fail
    go_ret
    have hon : On (Firm p q F) (fun w => SlR w A n rs) w2 := fun w' k => (OwnR.slr (own_kept HO.out k (own_from HO.out fun b hb _ => HH.out.firm_new HF.out (Nat.le_trans HB1S.out hb)))).1
    refine ⟨rfl, ?_, (Kept.of HB.out).trans (Kept.setCell w2 (fun k => k.1 rfl) _)⟩
    rw [← HX.out]
    exact H2.out.setRules hon HE.out
  · have hx : X' = X := by rw [← hX]; unfold setS; rw [if_neg (by rw [he]; exact h0)]
    subst hx
    have h1 : (er == 0) = false := by simpa using h0
    have h2 : (er != 0) = true := by simpa using h0
    clear h hF hs hn he hX h0
    go_enter Tryz.func55, Tryz.ntmps55
    go_wp2_with fail
    refine HC.out.mono ?_
    rintro e w1 ⟨rfl, hb1⟩
    have HB1 := Lib.hid hb1
    clear hb1 HC
    go_wp2_with fail
    go_ret
    exact CodeTo.no HH.out HB1.out

abbrev recBox (r : RecL) (P : At) (w : World) : World := w.alloc (.cells #[.string r.id, .int .i64 r.cats, .slice P.fa r.fs.length P.fc, .slice P.ra r.rs.length P.rc] 35)

/-- versions, new from w1 on, are the server's from now on -/
theorem Srv.takes {w w1 w2 : World} {S p q : Nat} {F : Nat → Prop} {X X' : SrvX} {R : List VerL} {A : Option Addr} {m c : Nat} (h : Srv w S p q F X) (hF : ∀ z, F z → z < w.heap.size) (hb : Below w.heap.size w w2) (hl : w.heap.size ≤ w1.heap.size) (hn : NewW w1.heap.size w2 A m c R) (hX : X' = { X with vs := R }) (hst : stErr R = 0) :
    CodeTo S p q F 0 X' w (.returned (.int .i64 0)) (w2.setCell ⟨p, 2, none⟩ (.slice A m c)) := by
  subst hX
  have hon : On (Firm p q F) (fun w => VsAt w A m R) w2 := fun w' k => (hn.kept k fun b hb2 _ => h.firm_new hF (Nat.le_trans hl hb2)).at_
  exact ⟨rfl, (h.below hb).setVs hn.at_.len hon hst, (Kept.of hb).trans (Kept.setCell w2 (fun k => k.1 rfl) _)⟩

theorem putS_no {X : SrvX} {x : WhoL} {r : RecL} (h : putC X x r ≠ 0) : putS X x r = X := by unfold putS; rw [if_neg h]
theorem putS_yes {X : SrvX} {x : WhoL} {r : RecL} (h : putC X x r = 0) : putS X x r = { X with vs := X.vs ++ [⟨r, false⟩] } := by unfold putS; rw [if_pos h]
theorem putC_rec {X : SrvX} {x : WhoL} {r : RecL} (h : r.err ≠ 0) : putC X x r = r.err := by unfold putC; rw [if_pos h]
theorem putC_chk {X : SrvX} {x : WhoL} {r : RecL} (h : r.err = 0) (h2 : chkE X x r.cats ≠ 0) : putC X x r = chkE X x r.cats := by unfold putC; rw [if_neg (fun k => k h), if_pos h2]
theorem putC_put {X : SrvX} {x : WhoL} {r : RecL} (h : r.err = 0) (h2 : chkE X x r.cats = 0) : putC X x r = putErr X.vs r := by unfold putC; rw [if_neg (fun k => k h), if_neg (fun k => k h2)]

set_option maxHeartbeats 8000000 in
theorem put_of {S p q : Nat} {F : Nat → Prop} {X X' : SrvX} {er : Int} (x : WhoL) (r : RecL) (P : At) (w : World) (h : Srv w S p q F X) (hF : ∀ z, F z → z < w.heap.size) (hi : r.in_ P w) (he : putC X x r = er) (hX : putS X x r = X') :
    Calls Tryz.prog 56 #[ptr p, x.v, r.v P] w (CodeTo S p q F er X' w) := by
  obtain ⟨W, hW⟩ : ∃ W, W = (w.alloc (.cells #[.int .i64 x.role, .int .i64 x.why, .int .i64 x.time] 30)).alloc (.cells #[.string r.id, .int .i64 r.cats, .slice P.fa r.fs.length P.fc, .slice P.ra r.rs.length P.rc] 35) := ⟨_, rfl⟩
  have hA : Below w.heap.size w W := by rw [hW]; exact ((Below.refl _ _).alloc (Nat.le_refl _) _).alloc (by simp) _
  have x0 : W.cell? ⟨w.heap.size, 0, none⟩ = some (.int .i64 x.role) := by rw [hW]; simp [go_sem]
  have x1 : W.cell? ⟨w.heap.size, 1, none⟩ = some (.int .i64 x.why) := by rw [hW]; simp [go_sem]
  have x2 : W.cell? ⟨w.heap.size, 2, none⟩ = some (.int .i64 x.time) := by rw [hW]; simp [go_sem]
  have r0 : W.cell? ⟨w.heap.size + 1, 0, none⟩ = some (.string r.id) := by rw [hW]; simp [go_sem]
  have r1 : W.cell? ⟨w.heap.size + 1, 1, none⟩ = some (.int .i64 r.cats) := by rw [hW]; simp [go_sem]
  have r2 : W.cell? ⟨w.heap.size + 1, 2, none⟩ = some (.slice P.fa r.fs.length P.fc) := by rw [hW]; simp [go_sem]
  have r3 : W.cell? ⟨w.heap.size + 1, 3, none⟩ = some (.slice P.ra r.rs.length P.rc) := by rw [hW]; simp [go_sem]
  obtain ⟨re, hre⟩ : ∃ re, r.err = re := ⟨_, rfl⟩
  obtain ⟨ce, hce⟩ : ∃ ce, chkE X x r.cats = ce := ⟨_, rfl⟩
  have HRC := Lib.hid (recCheck_is r P W (hi.below hA) hre)
  have HH := Lib.hid h
  have HF := Lib.hid hF
  have HA := Lib.hid hA
  have HI := Lib.hid hi
  have HW := Lib.hid hW
  have HRE := Lib.hid hre
  have HCE := Lib.hid hce
  have HE := Lib.hid he
  have HX := Lib.hid hX
  have hxs : ∀ V, Below W.heap.size W V → V.cell? ⟨w.heap.size, 0, none⟩ = some (.int .i64 x.role) ∧ V.cell? ⟨w.heap.size, 1, none⟩ = some (.int .i64 x.why) ∧ V.cell? ⟨w.heap.size, 2, none⟩ = some (.int .i64 x.time) ∧
      V.cell? ⟨w.heap.size + 1, 0, none⟩ = some (.string r.id) ∧ V.cell? ⟨w.heap.size + 1, 1, none⟩ = some (.int .i64 r.cats) ∧ V.cell? ⟨w.heap.size + 1, 2, none⟩ = some (.slice P.fa r.fs.length P.fc) ∧ V.cell? ⟨w.heap.size + 1, 3, none⟩ = some (.slice P.ra r.rs.length P.rc) := fun V k =>
    ⟨(k.cell (p := ⟨w.heap.size, 0, none⟩) (cell_lt x0)).trans x0, (k.cell (p := ⟨w.heap.size, 1, none⟩) (cell_lt x0)).trans x1, (k.cell (p := ⟨w.heap.size, 2, none⟩) (cell_lt x0)).trans x2,
      (k.cell (p := ⟨w.heap.size + 1, 0, none⟩) (cell_lt r0)).trans r0, (k.cell (p := ⟨w.heap.size + 1, 1, none⟩) (cell_lt r0)).trans r1, (k.cell (p := ⟨w.heap.size + 1, 2, none⟩) (cell_lt r0)).trans r2, (k.cell (p := ⟨w.heap.size + 1, 3, none⟩) (cell_lt r0)).trans r3⟩
  have HXS := Lib.hid hxs
  clear h hF hi he hX hA hre hce hxs x0 x1 x2 r0 r1 r2 r3
  go_enter Tryz.func56, Tryz.ntmps56
  rw [hW] at HRC
  clear hW
  go_wp2_with fail
  refine HRC.out.mono ?_
  rintro e w1 ⟨rfl, hb1⟩
  rw [← HW.out] at hb1
  obtain ⟨x0, x1, x2, r0, r1, r2, r3⟩ := HXS.out w1 hb1
  have HB1 := Lib.hid hb1
  have HBw := Lib.hid (HA.out.trans (hb1.mono HA.out.size))
  clear hb1 HRC
  by_cases h0 : re = 0
  · subst h0
    have HCM := Lib.hid (checkMay_is x r.cats w1 (HH.out.below HBw.out) HCE.out)
    go_wp2_with fail
    refine HCM.out.mono ?_
    rintro e w2 ⟨rfl, hb2⟩
    have hb12 := HB1.out.trans (hb2.mono HB1.out.size)
    clear x0 x1 x2 r0 r1 r2 r3
    obtain ⟨x0, x1, x2, r0, r1, r2, r3⟩ := HXS.out w2 hb12
    have hbw2 := HBw.out.trans (hb2.mono HBw.out.size)
    have HB2 := Lib.hid hb12
    have HBW2 := Lib.hid hbw2
    have HH2 := Lib.hid (HH.out.below hbw2)
    clear hb2 hb12 hbw2 HCM
    by_cases h1 : ce = 0
    · subst h1
      obtain ⟨a0, k0, a1, k1, a2, k2, hp⟩ := HH2.out.peek
      have y2 := hp.k2
      have f2 := HH2.out.fz 2
      obtain ⟨vn, hvn⟩ : ∃ vn, X.vs.length = vn := ⟨_, rfl⟩
      have hpe : putErr X.vs r = er := by rw [← HE.out, putC_put HRE.out HCE.out]
      have hd : Below w2.heap.size w2 w2.drew := (Below.refl _ _).drew
      obtain ⟨R, hR⟩ : ∃ R, putL X.vs r = R := ⟨_, rfl⟩
      have hPT := put_fine k2 r P w2.drew (hp.r2.below hd) HH2.out.ok.st (HI.out.below (HBW2.out.trans (hd.mono HBW2.out.size))) hR hpe
      rw [hvn] at hPT y2
      have HPT := Lib.hid hPT
      have HPE := Lib.hid hpe
      have HR := Lib.hid hR
      have HY2 := Lib.hid y2
      have HF2 := Lib.hid f2
      clear hp hvn hpe hR hPT
      by_cases h2 : er = 0
      · subst h2
        have HRS : Hid (stErr R = 0 ∧ X' = { X with vs := R }) := by
          show _ ∧ _
          have e1 : R = X.vs ++ [⟨r, false⟩] := by rw [← HR.out]; exact putL_yes HPE.out
          have e2 := (HH2.out.ok.put x r).st
          rw [putS_yes HE.out] at e2
          rw [e1]
          exact ⟨e2, by rw [← HX.out]; exact putS_yes HE.out⟩
        go_wp2_with fail
        go_region_with (first | (go_at_call 67; refine HPT.out.mono ?_; rintro e w3 ⟨A, m, c, rfl, hnw, hb3⟩; have y3 := (hb3.cell (p := ⟨p, 2, none⟩) (cell_lt HY2.out)).trans HY2.out; have f3 := (hb3.frozen (p := ⟨p, 2, none⟩) (cell_lt HY2.out)).trans HF2.out; have HNW := Lib.hid hnw; have HB3 := Lib.hid hb3; clear hnw hb3) | (go_at_call 101; refine (change_yes p _ _ _ _ _ y3 f3).mono ?_; rintro e w4 ⟨rfl, rfl⟩))
        all_goals
          go_wp2_with fail
          go_ret
          have hd2 : Below w2.heap.size w2 w2.drew := (Below.refl _ _).drew
          have hb23 : Below w2.heap.size w2 w3 := hd2.trans (HB3.out.mono (Nat.le_refl _))
          exact HH.out.takes HF.out (HBW2.out.trans (hb23.mono HBW2.out.size)) (w1 := w2.drew) HBW2.out.size HNW.out HRS.out.2 HRS.out.1
      · have hx : X' = X := by rw [← HX.out]; exact putS_no (by rw [HE.out]; exact h2)
        subst hx
        have HN2 := Lib.hid h2
        clear h2
        go_wp2_with fail
        go_region_with (first | (go_at_call 67; refine HPT.out.mono ?_; rintro e w3 ⟨A, m, c, rfl, hnw, hb3⟩; have HB3 := Lib.hid hb3; clear hnw hb3) | (go_at_call 101; refine (change_no p _ er _ HN2.out).mono ?_; rintro e w4 ⟨rfl, rfl⟩))
        all_goals
          go_wp2_with fail
          go_ret
          have hd2 : Below w2.heap.size w2 w2.drew := (Below.refl _ _).drew
          have hb23 : Below w2.heap.size w2 w3 := hd2.trans (HB3.out.mono (Nat.le_refl _))
          exact CodeTo.no HH.out (HBW2.out.trans (hb23.mono HBW2.out.size))
    · have he : er = ce := by rw [← HE.out, putC_chk HRE.out (by rw [HCE.out]; exact h1)]; exact HCE.out
      subst he
      have hx : X' = X := by rw [← HX.out]; exact putS_no (by rw [HE.out]; exact h1)
      subst hx
      have h3 : (er == 0) = false := by simpa using h1
      have h4 : (er != 0) = true := by simpa using h1
      clear h1
      go_wp2_with fail
      go_ret
      exact CodeTo.no HH.out HBW2.out
  · have he : er = re := by rw [← HE.out, putC_rec (by rw [HRE.out]; exact h0)]; exact HRE.out
    subst he
    have hx : X' = X := by rw [← HX.out]; exact putS_no (by rw [HE.out]; exact h0)
    subst hx
    have h3 : (er == 0) = false := by simpa using h0
    have h4 : (er != 0) = true := by simpa using h0
    clear h0
    go_wp2_with fail
    go_ret
    exact CodeTo.no HH.out HBw.out
end Go.Proofs.YteimdhkajbldjaaGreat
namespace Go.Proofs.YteimdhkajbldjaaGreat
open Go.RowKit Go.Sort

theorem cutS_no {X : SrvX} {x : WhoL} {id : ByteArray} {c : Int} (h : cutC X x id c ≠ 0) : cutS X x id c = X := by unfold cutS; rw [if_neg h]
theorem cutS_yes {X : SrvX} {x : WhoL} {id : ByteArray} {c : Int} (h : cutC X x id c = 0) : cutS X x id c = { X with vs := X.vs ++ [goneV id c] } := by unfold cutS; rw [if_pos h]
theorem cutC_chk {X : SrvX} {x : WhoL} {id : ByteArray} {c : Int} (h2 : chkE X x c ≠ 0) : cutC X x id c = chkE X x c := by unfold cutC; rw [if_pos h2]
theorem cutC_cut {X : SrvX} {x : WhoL} {id : ByteArray} {c : Int} (h2 : chkE X x c = 0) : cutC X x id c = cutErr X.vs id c := by unfold cutC; rw [if_neg (fun k => k h2)]

set_option maxHeartbeats 8000000 in
theorem cut_of {S p q : Nat} {F : Nat → Prop} {X X' : SrvX} {er : Int} (x : WhoL) (id : ByteArray) (ct : Int) (w : World) (h : Srv w S p q F X) (hF : ∀ z, F z → z < w.heap.size) (he : cutC X x id ct = er) (hX : cutS X x id ct = X') :
    Calls Tryz.prog 57 #[ptr p, x.v, .string id, .int .i64 ct] w (CodeTo S p q F er X' w) := by
  have hA := whoBox_below x w
  obtain ⟨ce, hce⟩ : ∃ ce, chkE X x ct = ce := ⟨_, rfl⟩
  have HCM := Lib.hid (checkMay_is x ct _ (h.below hA) hce)
  have HH := Lib.hid h
  have HF := Lib.hid hF
  have HA := Lib.hid hA
  have HCE := Lib.hid hce
  have HE := Lib.hid he
  have HX := Lib.hid hX
  clear h hF he hX hA hce
  go_enter Tryz.func57, Tryz.ntmps57
  go_wp2_with fail
  refine HCM.out.mono ?_
  rintro e w2 ⟨rfl, hb2⟩
  have hbw2 := HA.out.trans (hb2.mono HA.out.size)
  have HBW2 := Lib.hid hbw2
  have HH2 := Lib.hid (HH.out.below hbw2)
  clear hb2 hbw2 HCM HA
  by_cases h1 : ce = 0
  · subst h1
    obtain ⟨a0, k0, a1, k1, a2, k2, hp⟩ := HH2.out.peek
    have y2 := hp.k2
    have f2 := HH2.out.fz 2
    obtain ⟨vn, hvn⟩ : ∃ vn, X.vs.length = vn := ⟨_, rfl⟩
    have hpe : cutErr X.vs id ct = er := by rw [← HE.out, cutC_cut HCE.out]
    obtain ⟨R, hR⟩ : ∃ R, cutL X.vs id ct = R := ⟨_, rfl⟩
    have hPT := cut_fine k2 id ct w2 hp.r2 HH2.out.ok.st hR hpe
    rw [hvn] at hPT y2
    have HPT := Lib.hid hPT
    have HPE := Lib.hid hpe
    have HR := Lib.hid hR
    have HY2 := Lib.hid y2
    have HF2 := Lib.hid f2
    clear hp hvn hpe hR hPT
    by_cases h2 : er = 0
    · subst h2
      have HRS : Hid (stErr R = 0 ∧ X' = { X with vs := R }) := by
        show _ ∧ _
        have e1 : R = X.vs ++ [goneV id ct] := by rw [← HR.out]; exact cutL_yes HPE.out
        have e2 := (HH2.out.ok.cut x id ct).st
        rw [cutS_yes HE.out] at e2
        rw [e1]
        exact ⟨e2, by rw [← HX.out]; exact cutS_yes HE.out⟩
      go_wp2_with fail
      refine HPT.out.mono ?_
      rintro e w3 ⟨A, m, c, rfl, hnw, hb3⟩
      have y3 := (hb3.cell (p := ⟨p, 2, none⟩) (cell_lt HY2.out)).trans HY2.out
      have f3 := (hb3.frozen (p := ⟨p, 2, none⟩) (cell_lt HY2.out)).trans HF2.out
      have HNW := Lib.hid hnw
      have HB3 := Lib.hid hb3
      clear hnw hb3
      go_wp2_with fail
      refine (change_yes p _ _ _ _ _ y3 f3).mono ?_
      rintro e w4 ⟨rfl, rfl⟩
      go_wp2_with fail
      go_ret
      exact HH.out.takes HF.out (HBW2.out.trans (HB3.out.mono HBW2.out.size)) (w1 := w2) HBW2.out.size HNW.out HRS.out.2 HRS.out.1
    · have hx : X' = X := by rw [← HX.out]; exact cutS_no (by rw [HE.out]; exact h2)
      subst hx
      have HN2 := Lib.hid h2
      clear h2
      go_wp2_with fail
      refine HPT.out.mono ?_
      rintro e w3 ⟨A, m, c, rfl, hnw, hb3⟩
      have HB3 := Lib.hid hb3
      clear hnw hb3
      go_wp2_with fail
      refine (change_no p _ er _ HN2.out).mono ?_
      rintro e w4 ⟨rfl, rfl⟩
      go_wp2_with fail
      go_ret
      exact CodeTo.no HH.out (HBW2.out.trans (HB3.out.mono HBW2.out.size))
  · have he : er = ce := by rw [← HE.out, cutC_chk (by rw [HCE.out]; exact h1)]; exact HCE.out
    subst he
    have hx : X' = X := by rw [← HX.out]; exact cutS_no (by rw [HE.out]; exact h1)
    subst hx
    have h3 : (er == 0) = false := by simpa using h1
    have h4 : (er != 0) = true := by simpa using h1
    clear h1
    go_wp2_with fail
    go_ret
    exact CodeTo.no HH.out HBW2.out

theorem findC_cases {X : SrvX} (h : X.Ok) (x : WhoL) (f : FieldL) : (seE X x = 0 ∧ findC X x f = byErr (partR X x) f ∧ findT X x f = byR (partR X x) f) ∨ (seE X x ≠ 0 ∧ findC X x f = seE X x ∧ findT X x f = []) := by
  by_cases h0 : seE X x = 0
  · have e2 : partR X x = seenL X x := by unfold partR; rw [if_pos h0]
    have e : findC X x f = byErr (partR X x) f := by
      unfold findC
      rw [if_neg (fun k => k h0), e2]
    refine .inl ⟨h0, e, ?_⟩
    unfold findT byR
    rw [e, e2]
  · have e : findC X x f = seE X x := by
      unfold findC
      rw [if_pos h0]
    refine .inr ⟨h0, e, ?_⟩
    unfold findT
    rw [if_neg (by rw [e]; exact h0)]

set_option maxHeartbeats 4000000 in
theorem find_of {S p q : Nat} {F : Nat → Prop} {X : SrvX} {er : Int} {L : List ByteArray} (x : WhoL) (f : FieldL) (w : World) (h : Srv w S p q F X) (he : findC X x f = er) (hL : findT X x f = L) :
    Calls Tryz.prog 59 #[ptr p, x.v, f.v] w (StrsTo L er w) := by
  have hA : Below w.heap.size w ((w.alloc (.cells #[.int .i64 x.role, .int .i64 x.why, .int .i64 x.time] 30)).alloc (.cells #[.string f.key, .string f.val] 37)) := ((Below.refl _ _).alloc (Nat.le_refl _) _).alloc (by simp) _
  obtain ⟨R, hR⟩ : ∃ R, partR X x = R := ⟨_, rfl⟩
  obtain ⟨se, hse⟩ : ∃ se, seE X x = se := ⟨_, rfl⟩
  have HA := Lib.hid hA
  have HPT := Lib.hid (part_of x _ (h.below hA) hse hR)
  have HST : Hid (stErr R = 0) := by show _ = _; rw [← hR]; exact partR_st h.ok x
  have hcs := findC_cases h.ok x f
  rw [he, hL, hR, hse] at hcs
  clear h he hL hA hR hse
  go_enter Tryz.func59, Tryz.ntmps59
  go_wp2_with fail
  refine HPT.out.mono ?_
  rintro e w1 ⟨A, m, c, rfl, hnw, hb1⟩
  have y0 : w1.cell? ⟨w.heap.size + 1, 0, none⟩ = some (.string f.key) := (hb1.cell (p := ⟨w.heap.size + 1, 0, none⟩) (by simp)).trans (by simp [go_sem])
  have y1 : w1.cell? ⟨w.heap.size + 1, 1, none⟩ = some (.string f.val) := (hb1.cell (p := ⟨w.heap.size + 1, 1, none⟩) (by simp)).trans (by simp [go_sem])
  have HB1 := Lib.hid (HA.out.trans (hb1.mono HA.out.size))
  have HV := Lib.hid hnw.at_
  have HCP := Lib.hid hnw.cap
  clear hnw hb1 HPT HA
  rcases hcs with ⟨rfl, he, hL⟩ | ⟨h0, rfl, rfl⟩
  · have HC := Lib.hid (by_is c f w1 HV.out (Nat.le_trans HCP.out.1 HCP.out.2) hL.symm he.symm)
    clear he hL
    go_wp2_with fail
    refine HC.out.mono ?_
    rintro e w2 ⟨A2, k2, c2, rfl, hk, ho, hb2⟩
    have HB2 := Lib.hid (HB1.out.trans (hb2.mono HB1.out.size))
    have HO := Lib.hid (show OwnS w.heap.size w2 (.slice A2 k2 c2) L from own_low ho HB1.out.size)
    have HK := Lib.hid hk
    clear ho hb2 HC hk
    go_wp2_with fail
    go_ret2
    exact ⟨A2, k2, c2, rfl, HK.out, HO.out, HB2.out⟩
  · have h1 : (er == 0) = false := by simpa using h0
    have h2 : (er != 0) = true := by simpa using h0
    clear h0
    go_wp2_with fail
    go_ret2
    exact ⟨none, 0, 0, rfl, rfl, World.ownsRow_nil _ _ _ _, HB1.out⟩

/-! ## notes -/
theorem Tryz.infoNote : (Tryz.prog.info? 112).map (fun i => (i.zero, i.size, i.bytes)) = some (some (.agg #[.int .i64 0, .int .i64 0, .int .i64 0, .string ⟨#[]⟩]), 4, 40) := by kernel_rfl
def NewN (B : Nat) (l : List NoteL) (w : World) (e : Ending) (w' : World) : Prop := ∃ A c, e = .returned (.slice A l.length c) ∧ OwnN B w' (.slice A l.length c) l ∧ Below B w w'

set_option maxHeartbeats 1000000 in
theorem cloneN_any (a : Option Addr) (l : List NoteL) (cap : Nat) (w : World) (hs : SlN w a l) (hn : l.length ≤ 1000000) :
    Calls Tryz.prog 106 #[.slice a l.length cap] w (NewN w.heap.size l w) := by
  obtain ⟨i0, hi, hz0, hz1, hz2⟩ := info_parts Tryz.infoNote
  have hnil := @Lib.run_eql_slice_nil
  have HS := Lib.hid hs
  clear hs
  cases a with
  | none =>
    have h0 : l = [] := by
      cases l with
      | nil => rfl
      | cons f r =>
        obtain ⟨b, off, e, _⟩ := HS.out 0 f rfl
        cases e
    subst h0
    go_enter Tryz.func106, Tryz.ntmps106
    go_wp2_with fail
    go_ret
    exact ⟨none, 0, rfl, World.ownsRow_nil _ _ _ _, Below.refl _ _⟩
  | some ad =>
    have hnews := (HS.out.below ((Below.refl _ _).alloc (Nat.le_refl _) (.cells #[] 112))).cells
    have hown : (w.alloc (.cells #[] 112)).ownsRow w.heap.size 112 4 (.slice (some ⟨w.heap.size, 0, none⟩) 0 0) 0 [] := World.ownsRow_made w #[] 0 (Nat.le_refl _) (by decide) rfl
    have HN := Lib.hid hnews
    clear hnews
    go_enter Tryz.func106, Tryz.ntmps106
    go_wp2_with (at_builtin; refine wpList_append_own _ rfl _ _ 46 rfl w.heap.size 112 i0 _ 4 40 Tryz.underlying46 hi hz0 hz1 hz2 rfl (by decide) _ _ _ rfl hown ad l.length cap (cellsN l) rfl ?c1 HN.out (cellsN_one l) ?c3 ?c4 ?c5 ?_)
    case c1 => exact cellsN_len l
    case c3 => unfold maxLen; omega
    case c4 => omega
    case c5 => simp
    intro v' w1 hown' hgrow hnv
    have hnx : Below w.heap.size w w1 := ((Below.refl _ _).alloc (Nat.le_refl _) _).grown hgrow (by simp) (fun j hj => by simp [Value.ownBlock] at hj; omega)
    have ho : OwnN w.heap.size w1 v' l := by
      unfold OwnN
      simpa using hown'
    obtain ⟨A, c, hv⟩ := ho.form
    have HO := Lib.hid ho
    clear hnv hgrow hown hown' ho
    subst hv
    go_wp2_with fail
    go_ret
    exact ⟨A, c, rfl, HO.out, hnx⟩

def NotesTo (R : List NoteL) (er : Int) (w : World) (e : Ending) (w' : World) : Prop := ∃ A k c, e = .returned (.tuple #[.slice A k c, .int .i64 er]) ∧ R.length = k ∧ OwnN w.heap.size w' (.slice A k c) R ∧ Below w.heap.size w w'

set_option maxHeartbeats 4000000 in
theorem audit_of {S p q : Nat} {F : Nat → Prop} {X : SrvX} {er : Int} {L : List NoteL} (x : WhoL) (w : World) (h : Srv w S p q F X) (he : chkE X x 255 = er) (hL : auditT X x = L) :
    Calls Tryz.prog 62 #[ptr p, x.v] w (NotesTo L er w) := by
  have hA := whoBox_below x w
  have HA := Lib.hid hA
  have HCM := Lib.hid (checkMay_is x 255 _ (h.below hA) he)
  have HH := Lib.hid h
  have HE := Lib.hid he
  have HL := Lib.hid hL
  clear h he hL hA
  go_enter Tryz.func62, Tryz.ntmps62
  go_wp2_with fail
  refine HCM.out.mono ?_
  rintro e w1 ⟨rfl, hb1⟩
  have hbw := HA.out.trans (hb1.mono HA.out.size)
  have HB1 := Lib.hid hbw
  have HH1 := Lib.hid (HH.out.below hbw)
  clear hb1 hbw HCM HA
  by_cases h0 : er = 0
  · subst h0
    have hl : L = X.ns := by rw [← HL.out]; unfold auditT; rw [if_pos HE.out]
    subst hl
    obtain ⟨a3, k3, y3, ho3, _⟩ := HH1.out.c3
    have HC := Lib.hid (cloneN_any a3 X.ns k3 w1 ho3.sl.1 (by have := HH1.out.ok.few; omega))
    obtain ⟨nn, hnn⟩ : ∃ nn, X.ns.length = nn := ⟨_, rfl⟩
    rw [hnn] at y3 HC
    have HNN := Lib.hid hnn
    clear ho3 hnn
    go_wp2_with fail
    refine HC.out.mono ?_
    rintro e w2 ⟨A, c, rfl, ho, hb2⟩
    rw [HNN.out] at ho ⊢
    have HO := Lib.hid (show OwnN w.heap.size w2 (.slice A nn c) X.ns from own_low ho HB1.out.size)
    have HB2 := Lib.hid (HB1.out.trans (hb2.mono HB1.out.size))
    clear ho hb2 HC y3
    go_wp2_with fail
    go_ret2
    exact ⟨A, nn, c, rfl, HNN.out, HO.out, HB2.out⟩
  · have hl : L = [] := by rw [← HL.out]; unfold auditT; rw [if_neg (by rw [HE.out]; exact h0)]
    subst hl
    have h1 : (er == 0) = false := by simpa using h0
    have h2 : (er != 0) = true := by simpa using h0
    clear h0
    go_wp2_with fail
    go_ret2
    exact ⟨none, 0, 0, rfl, rfl, World.ownsRow_nil _ _ _ _, HB1.out⟩
end Go.Proofs.YteimdhkajbldjaaGreat
namespace Go.Proofs.YteimdhkajbldjaaGreat
open Go.RowKit Go.Sort

def NeedTo (S p q : Nat) (F : Nat → Prop) (X' : SrvX) (L : List VerL) (er : Int) (w : World) (e : Ending) (w' : World) : Prop :=
  ∃ A m c q', e = .returned (.tuple #[.slice A m c, .int .i64 er]) ∧ NewW w.heap.size w' A m c L ∧ Srv w' S p q' F X' ∧ (q' = q ∨ w.heap.size ≤ q') ∧ Kept (Off p q) w w'
theorem NeedTo.no {S p q : Nat} {F : Nat → Prop} {er : Int} {X : SrvX} {w w' : World} (h : Srv w S p q F X) (hb : Below w.heap.size w w') : NeedTo S p q F X [] er w (.returned (.tuple #[.slice none 0 0, .int .i64 er])) w' := ⟨none, 0, 0, q, rfl, NewW.nil _ _, h.below hb, .inl rfl, Kept.of hb⟩
theorem needS_no {X : SrvX} {x : WhoL} {id : ByteArray} (h : needC X x id ≠ 0) : needS X x id = X := by unfold needS; rw [if_neg h]
theorem needS_yes {X : SrvX} {x : WhoL} {id : ByteArray} (h : needC X x id = 0) : needS X x id = { X with ns := X.ns ++ [⟨x, id⟩] } := by unfold needS; rw [if_pos h]
theorem needT_no {X : SrvX} {x : WhoL} {id : ByteArray} (h : needC X x id ≠ 0) : needT X x id = [] := by unfold needT; rw [if_neg h]
theorem cell_note (w : World) (x : NoteL) (t : TypeId) : ∀ j u, (cellsN [x])[j]? = some u → (w.alloc (.cells #[.int .i64 x.who.role, .int .i64 x.who.why, .int .i64 x.who.time, .string x.id] t)).drew.cell? ((⟨w.heap.size, 0, none⟩ : Addr).add j) = some u := fun j u hj => by
  have hadd : (⟨w.heap.size, 0, none⟩ : Addr).add j = ⟨w.heap.size, j, none⟩ := by unfold Addr.add; split <;> simp_all
  rw [hadd]
  have e : cellsN [x] = [.int .i64 x.who.role, .int .i64 x.who.why, .int .i64 x.who.time, .string x.id] := rfl
  rw [e] at hj
  match j, hj with
  | 0, hj => cases hj; simp [go_sem]
  | 1, hj => cases hj; simp [go_sem]
  | 2, hj => cases hj; simp [go_sem]
  | 3, hj => cases hj; simp [go_sem]

set_option maxHeartbeats 8000000 in
theorem need_of {S p q : Nat} {F : Nat → Prop} {X X' : SrvX} {er : Int} {L : List VerL} (x : WhoL) (id : ByteArray) (w : World) (h : Srv w S p q F X) (hF : ∀ z, F z → z < w.heap.size) (he : needC X x id = er) (hL : needT X x id = L) (hX : needS X x id = X') :
    Calls Tryz.prog 61 #[ptr p, x.v, .string id] w (NeedTo S p q F X' L er w) := by
  obtain ⟨iN, hi, hz0, hz1, hz2⟩ := info_parts Tryz.infoNote
  obtain ⟨a0, k0, a1, k1, a2, k2, hp⟩ := h.peek
  obtain ⟨a3, k3, yy3, ho3, hq3⟩ := h.c3
  obtain ⟨m, hm⟩ : ∃ m, X.m = m := ⟨_, rfl⟩
  obtain ⟨n, hn⟩ : ∃ n, X.n = n := ⟨_, rfl⟩
  obtain ⟨vn, hvn⟩ : ∃ vn, X.vs.length = vn := ⟨_, rfl⟩
  obtain ⟨nn, hnn⟩ : ∃ nn, X.ns.length = nn := ⟨_, rfl⟩
  obtain ⟨sv, hsv⟩ : ∃ sv, seV X x = sv := ⟨_, rfl⟩
  obtain ⟨se, hse⟩ : ∃ se, seE X x = se := ⟨_, rfl⟩
  have h60 : nn ≤ 60 := by rw [← hnn]; exact h.ok.few
  rw [hnn] at yy3 ho3 hq3
  have HP := Lib.hid hp
  have HO3 := Lib.hid ho3
  have HQ3 := Lib.hid hq3
  have HY3 := Lib.hid yy3
  have HM0 := Lib.hid (roles_le h.ok)
  have HN0 := Lib.hid (rules_le h.ok)
  have HST := Lib.hid h.ok.st
  have HH := Lib.hid h
  have HF := Lib.hid hF
  have HM := Lib.hid hm
  have HN := Lib.hid hn
  have HVN := Lib.hid hvn
  have HNN := Lib.hid hnn
  have HSV := Lib.hid hsv
  have HSE := Lib.hid hse
  have HE := Lib.hid he
  have HL := Lib.hid hL
  have HX := Lib.hid hX
  clear h hF he hL hX hp ho3 hq3 yy3 hm hn hvn hnn hsv hse
  go_enter Tryz.func61, Tryz.ntmps61
  go_wp2_with fail
  obtain ⟨W, hW⟩ : ∃ W, W = w.alloc (.cells #[.int .i64 x.role, .int .i64 x.why, .int .i64 x.time] 30) := ⟨_, rfl⟩
  have hA : Below w.heap.size w W := by rw [hW]; exact whoBox_below x w
  have b0 : W.cell? ⟨w.heap.size, 0, none⟩ = some (.int .i64 x.role) := by rw [hW]; simp [go_sem]
  have b1 : W.cell? ⟨w.heap.size, 1, none⟩ = some (.int .i64 x.why) := by rw [hW]; simp [go_sem]
  have b2 : W.cell? ⟨w.heap.size, 2, none⟩ = some (.int .i64 x.time) := by rw [hW]; simp [go_sem]
  have HXS : Hid (∀ V, Below W.heap.size W V → V.cell? ⟨w.heap.size, 0, none⟩ = some (.int .i64 x.role) ∧ V.cell? ⟨w.heap.size, 1, none⟩ = some (.int .i64 x.why) ∧ V.cell? ⟨w.heap.size, 2, none⟩ = some (.int .i64 x.time)) := fun V k =>
    ⟨(k.cell (p := ⟨w.heap.size, 0, none⟩) (cell_lt b0)).trans b0, (k.cell (p := ⟨w.heap.size, 1, none⟩) (cell_lt b0)).trans b1, (k.cell (p := ⟨w.heap.size, 2, none⟩) (cell_lt b0)).trans b2⟩
  have HP1 := Lib.hid (HP.out.below hA)
  have q0 := cell_regrown HP1.out.k0
  have q1 := cell_regrown HP1.out.k1
  have q4 := cell_regrown b0
  have q5 := cell_regrown b1
  have q6 := cell_regrown b2
  rw [HM.out] at q0
  rw [HN.out] at q1
  have cM : ∀ d os, Calls Tryz.prog 14 #[.slice a0 m k0, .slice a1 n k1, .agg #[.int .i64 x.role, .int .i64 x.why, .int .i64 x.time]] (grow (redrawn W d) os) fun e w'' => e = .returned (.tuple #[.int .i64 (sv : Int), .int .i64 se]) ∧ ∃ p : Regrown, w'' = grow (redrawn W p.d) p.os := fun d os => Calls.regrown_of (by
    have hb := below_regrown W d os
    have hp2 := HP1.out.below hb
    have := sees_any a0 X.m k0 X.zi a1 X.n k1 X.rs x (grow (redrawn W d) os) hp2.r0 HM0.out hp2.r1 HN0.out
    rw [HM.out, HN.out] at this
    have e1 : seesV m X.zi n X.rs x = sv := by rw [← HM.out, ← HN.out]; exact HSV.out
    have e2 : seesE m X.zi n X.rs x = se := by rw [← HM.out, ← HN.out]; exact HSE.out
    rw [e1, e2] at this
    exact this)
  have HA := Lib.hid hA
  rw [← hW]
  clear hA hW b0 b1 b2
  refine region_below_lit (by kernel_rfl) (by kernel_rfl) ?_
  repeat (go_big_quiet_step (with_reducible first | exact cM _ _))
  refine wpQuiet_nil ?_
  intro _ hw'
  obtain ⟨⟨dq, osq⟩, hw''⟩ := hw'
  subst hw''
  have HP4 := Lib.hid (HP1.out.below (below_regrown W dq osq))
  have HW4 := Lib.hid (below_regrown W dq osq)
  have HB := Lib.hid (HA.out.trans ((below_regrown W dq osq).mono HA.out.size))
  generalize grow (redrawn W dq) osq = w4 at HB HP4 HW4 ⊢
  clear q0 q1 q4 q5 q6 cM HP1
  by_cases h0 : se = 0
  · subst h0
    have y3 : w4.cell? ⟨p, 3, none⟩ = some (.slice a3 nn k3) := (HB.out.cell (p := ⟨p, 3, none⟩) (cell_lt HY3.out)).trans HY3.out
    by_cases h6 : 60 ≤ nn
    · have he : er = 2 := by
        rw [← HE.out]
        unfold needC
        rw [if_neg (by rw [HSE.out]; decide), if_pos (by rw [HNN.out]; exact h6)]
      subst he
      have hx : X' = X := by rw [← HX.out]; exact needS_no (by rw [HE.out]; decide)
      subst hx
      have hl : L = [] := by rw [← HL.out]; exact needT_no (by rw [HE.out]; decide)
      subst hl
      have h7 : (60 : Int) ≤ (nn : Int) := by omega
      go_wp2_with fail
      go_ret2
      exact NeedTo.no HH.out HB.out
    · have h7 : ¬ (60 : Int) ≤ (nn : Int) := by omega
      have hge : getErr X.vs id = er := by
        rw [← HE.out]
        unfold needC
        rw [if_neg (by rw [HSE.out]; decide), if_neg (by rw [HNN.out]; exact h6)]
      have y2 := HP4.out.k2
      rw [HVN.out] at y2
      have hC := current_is k2 id w4 HP4.out.r2 HST.out rfl hge rfl
      rw [HVN.out] at hC
      have HC := Lib.hid hC
      have HGE := Lib.hid hge
      clear hC hge
      go_wp2_with fail
      refine HC.out.mono ?_
      rintro e w5 ⟨A, mm, c, rfl, hnw, hb5⟩
      have hB5 := HB.out.trans (hb5.mono HB.out.size)
      have HB5 := Lib.hid hB5
      have HW5 := Lib.hid (HW4.out.trans (hb5.mono HW4.out.size))
      have HNW := Lib.hid (hnw.low HB.out.size)
      clear hnw hb5 HC y2 y3 hB5
      by_cases h8 : er = 0
      · subst h8
        have hx : X' = { X with ns := X.ns ++ [⟨x, id⟩] } := by rw [← HX.out]; exact needS_yes HE.out
        have hl : L = oneV 0 (getR X.vs id) := by
          rw [← HL.out]
          unfold needT oneV
          rw [if_pos HE.out, if_pos rfl]
        have HXX := Lib.hid hx
        rw [← hl] at HNW
        have h5 := HH.out.below HB5.out
        obtain ⟨g0, g1, g2⟩ := HXS.out w5 HW5.out
        have hpl := h5.pw
        have y3 : w5.cell? ⟨p, 3, none⟩ = some (.slice a3 nn k3) := (HB5.out.cell (p := ⟨p, 3, none⟩) (cell_lt HY3.out)).trans HY3.out
        have f3 := h5.fz 3
        have hA8 : Below w5.heap.size w5 (w5.alloc (.cells #[.int .i64 x.role, .int .i64 x.why, .int .i64 x.time, .string id] 112)).drew := ((Below.refl _ _).alloc (Nat.le_refl _) _).drew
        have hoa := own_below (own_below HO3.out HB5.out) hA8
        rw [HNN.out] at hoa
        have HOA := Lib.hid hoa
        have HNW2 : Hid (∀ j u, (cellsN [⟨x, id⟩])[j]? = some u → (w5.alloc (.cells #[.int .i64 x.role, .int .i64 x.why, .int .i64 x.time, .string id] 112)).drew.cell? ((⟨w5.heap.size, 0, none⟩ : Addr).add j) = some u) := cell_note w5 ⟨x, id⟩ _
        have hq1 : nn + 1 ≤ maxLen := by unfold maxLen; omega
        have hq2 : (nn + 1) * 40 ≤ 140737488355328 := by omega
        have hq3 : p + 1 ≤ (w5.alloc (.cells #[.int .i64 x.role, .int .i64 x.why, .int .i64 x.time, .string id] 112)).drew.heap.size := by simp; omega
        have HQ := Lib.hid (And.intro hq1 (And.intro hq2 hq3))
        have hne : some p ≠ (Value.slice a3 nn k3).ownBlock := fun e => by have := (World.ownsRow.lt HOA.out p e.symm).1; omega
        have HYA := Lib.hid ((hA8.cell (p := ⟨p, 3, none⟩) hpl).trans y3)
        have HFA := Lib.hid ((hA8.frozen (p := ⟨p, 3, none⟩) hpl).trans f3)
        have HPA : Hid (p < (w5.alloc (.cells #[.int .i64 x.role, .int .i64 x.why, .int .i64 x.time, .string id] 112)).drew.heap.size) := Nat.lt_of_lt_of_le hpl hA8.size
        have HNE := Lib.hid hne
        have HA8 := Lib.hid hA8
        have H5 := Lib.hid h5
        clear hA8 hq1 hq2 hq3 hne hx hl h5 hoa
        go_wp2_with fail
        go_region_law (refine step_append_lies _ rfl (.tmp 50) (.tmp 54) 46 rfl (p + 1) 112 iN _ 4 40 Tryz.underlying46 hi hz0 hz1 hz2 rfl (by decide) (.slice a3 nn k3) nn (cellsN X.ns) (by simp [Act.eval, Act.put]) HOA.out ⟨w5.heap.size, 0, none⟩ 1 1 (cellsN [⟨x, id⟩]) (by simp [Act.eval, Act.put]) rfl HNW2.out (cellsN_one [⟨x, id⟩]) (by decide) HQ.out.1 HQ.out.2.1 HQ.out.2.2 _ rfl ?_; intro g cap w9 hown hgrow hat hlt; have HOW := Lib.hid hown; have HGR := Lib.hid hgrow; have u3 := (hgrow.cell_far ⟨p, 3, none⟩ HPA.out HNE.out).trans HYA.out; have v3 := (hgrow.frozen_far ⟨p, 3, none⟩ HPA.out HNE.out).trans HFA.out; have HAT := Lib.hid hat; have HLT := Lib.hid hlt; clear hown hgrow hat hlt)
        all_goals
          go_wp2_with fail
          go_ret2
          have hln : (X.ns ++ [(⟨x, id⟩ : NoteL)]).length = nn + 1 := by rw [List.length_append, HNN.out]; rfl
          have hon : OwnN (p + 1) w9 (.slice (some ⟨g, 0, none⟩) (nn + 1) cap) (X.ns ++ [(⟨x, id⟩ : NoteL)]) := by
            unfold OwnN
            rw [cellsN_append, hln]
            exact HOW.out
          have hqg : (g = q ∨ (w5.heap.size ≤ g ∧ ¬ F g)) := by
            rcases HAT.out with e | e
            · exact .inl (HQ3.out g e)
            · have hs : (w5.alloc (.cells #[.int .i64 x.role, .int .i64 x.why, .int .i64 x.time, .string id] 112)).drew.heap.size = w5.heap.size + 1 := by simp
              rw [hs] at e
              have hB5 := HB5.out.size
              exact .inr ⟨by omega, fun k => by have := HF.out g k; omega⟩
          have hk9 : Kept (fun z => z ≠ q ∨ z = p) w5 w9 := (Kept.of HA8.out).trans (Kept.grown HGR.out fun z hz e => by
            cases hob : (Value.slice a3 nn k3).ownBlock with
            | none => rw [hob] at e; cases e
            | some b =>
              rw [hob] at e
              cases e
              have hbq := HQ3.out z hob
              have hbp := (World.ownsRow.lt HO3.out z hob).1
              rcases hz with hz | hz
              · exact hz hbq
              · omega)
          have hsrv := H5.out.setNs (ns := X.ns ++ [(⟨x, id⟩ : NoteL)]) (c := cap) hln.symm hk9 hon (fun b hb => by cases hb; rfl) hqg HLT.out (by rw [hln]; omega)
          have hkf : Kept (Off p q) w5 (w9.setCell ⟨p, 3, none⟩ (.slice (some ⟨g, 0, none⟩) (nn + 1) cap)) := (hk9.sub fun z _ hz => .inl hz.2).trans (Kept.setCell w9 (fun k => k.1 rfl) _)
          have hpw := HH.out.pw
          have hqw := HH.out.qw
          have hB5 := HB5.out.size
          refine ⟨A, mm, c, g, rfl, HNW.out.kept hkf (fun b hb _ => ⟨by omega, by omega⟩), by rw [HXX.out]; exact hsrv, ?_, (Kept.of HB5.out).trans hkf⟩
          rcases hqg with e | ⟨e, _⟩
          · exact .inl e
          · exact .inr (by omega)
      · have hx : X' = X := by rw [← HX.out]; exact needS_no (by rw [HE.out]; exact h8)
        subst hx
        have hl : L = [] := by rw [← HL.out]; exact needT_no (by rw [HE.out]; exact h8)
        subst hl
        have h9 : (er == 0) = false := by simpa using h8
        have h10 : (er != 0) = true := by simpa using h8
        clear h8
        go_wp2_with fail
        go_ret2
        exact NeedTo.no HH.out HB5.out
  · have he : er = se := by
      rw [← HE.out]
      unfold needC
      rw [if_pos (by rw [HSE.out]; exact h0)]
      exact HSE.out
    subst he
    have hx : X' = X := by rw [← HX.out]; exact needS_no (by rw [HE.out]; exact h0)
    subst hx
    have hl : L = [] := by rw [← HL.out]; exact needT_no (by rw [HE.out]; exact h0)
    subst hl
    have h9 : (er == 0) = false := by simpa using h0
    have h10 : (er != 0) = true := by simpa using h0
    clear h0
    go_wp2_with fail
    go_ret2
    exact NeedTo.no HH.out HB.out
end Go.Proofs.YteimdhkajbldjaaGreat
namespace Go.Proofs.YteimdhkajbldjaaGreat
open Go.RowKit Go.Sort

/-- what is foreign, and two boxes of the call's own -/
def Loc (F : Nat → Prop) (b z : Nat) : Prop := F z ∨ z = b + 1 ∨ z = b + 2
abbrev doW (o : OpL) (P : OpP) (w : World) : World := ((w.alloc (.cells #[.int .i64 o.kind, .int .i64 o.who.role, .int .i64 o.who.why, .int .i64 o.who.time, .slice P.ra o.n P.rc, .string o.r.id, .int .i64 o.r.cats, .slice P.p.fa o.r.fs.length P.p.fc, .slice P.p.ra o.r.rs.length P.p.rc, .string o.id, .string o.f.key, .string o.f.val] 39)).alloc (.cells #[.int .i64 0, .slice none 0 0, .slice none 0 0, .slice none 0 0] 48)).alloc (.cells #[.int .i64 0, .slice none 0 0, .slice none 0 0, .slice none 0 0] 48)
/-- a box in which nothing is told yet -/
structure TB (b : Nat) (w : World) : Prop where
  c0 : w.cell? ⟨b, 0, none⟩ = some (.int .i64 0)
  c1 : w.cell? ⟨b, 1, none⟩ = some (.slice none 0 0)
  c2 : w.cell? ⟨b, 2, none⟩ = some (.slice none 0 0)
  c3 : w.cell? ⟨b, 3, none⟩ = some (.slice none 0 0)
  z0 : w.frozen? ⟨b, 0, none⟩ = false
  z1 : w.frozen? ⟨b, 1, none⟩ = false
  z2 : w.frozen? ⟨b, 2, none⟩ = false
  z3 : w.frozen? ⟨b, 3, none⟩ = false
theorem TB.kept {b : Nat} {w w' : World} {Z : Nat → Prop} (h : TB b w) (k : Kept Z w w') (hz : Z b) : TB b w' :=
  ⟨k.cell hz h.c0, k.cell hz h.c1, k.cell hz h.c2, k.cell hz h.c3, (k.frozen hz (cell_lt h.c0)).trans h.z0, (k.frozen hz (cell_lt h.c0)).trans h.z1, (k.frozen hz (cell_lt h.c0)).trans h.z2, (k.frozen hz (cell_lt h.c0)).trans h.z3⟩
theorem doW_below (o : OpL) (P : OpP) (w : World) : Below w.heap.size w (doW o P w) := (((Below.refl _ _).alloc (Nat.le_refl _) _).alloc (by simp) _).alloc (by simp; omega) _
theorem doW_size (o : OpL) (P : OpP) (w : World) : (doW o P w).heap.size = w.heap.size + 3 := by simp [doW]
theorem doW_one (o : OpL) (P : OpP) (w : World) : TB (w.heap.size + 1) (doW o P w) := by constructor <;> simp [doW, go_sem]
theorem doW_two (o : OpL) (P : OpP) (w : World) : TB (w.heap.size + 2) (doW o P w) := by constructor <;> simp [doW, go_sem]
theorem Srv.boxed {w : World} {S p q : Nat} {F : Nat → Prop} {X : SrvX} (h : Srv w S p q F X) (o : OpL) (P : OpP) : Srv (doW o P w) S p q (Loc F w.heap.size) X := h.keep (Kept.of (doW_below o P w)) fun z hz k => by
  rcases k with k | k | k
  · exact k
  · omega
  · omega
theorem Loc.lt {F : Nat → Prop} {w : World} (hF : ∀ z, F z → z < w.heap.size) (o : OpL) (P : OpP) : ∀ z, Loc F w.heap.size z → z < (doW o P w).heap.size := fun z k => by
  rw [doW_size]
  rcases k with k | k | k
  · have := hF z k; omega
  · omega
  · omega
/-- the boxes stay as they are while the server changes -/
theorem off_box {w : World} {S p q : Nat} {F : Nat → Prop} {X : SrvX} (h : Srv w S p q F X) (k : Nat) : Off p q (w.heap.size + k) := ⟨by have := h.pw; omega, by have := h.qw; omega⟩
theorem do_end {w W w1 wf : World} {S p q q' : Nat} {F : Nat → Prop} {X X' : SrvX} {o : OpL} {t : ToldL} {P : ToldP} (hz : W.heap.size = w.heap.size + 3) (hs : Srv w S p q F X) (h1 : Srv w1 S p q' (Loc F w.heap.size) X') (hq : q' = q ∨ W.heap.size ≤ q') (hA : Below w.heap.size w W) (k1 : Kept (Off p q) W w1)
    (k2 : Kept (fun z => z ≠ w.heap.size + 1 ∧ z ≠ w.heap.size + 2) w1 wf) (hT : NewTold W.heap.size w1 t P) (ht : doT X o = t) (hx : doX X o = X') : DoTo S p q F X o w (.returned (t.v P)) wf := by
  subst ht hx
  refine ⟨P, q', rfl, (hT.kept k2 fun b hb _ => ⟨by omega, by omega⟩).low (by omega), h1.keep (k2.sub fun z _ hz => ⟨fun e => hz (.inr (.inl e)), fun e => hz (.inr (.inr e))⟩) fun z _ e => .inl e, ?_, ?_⟩
  · rcases hq with e | e
    · exact .inl e
    · exact .inr (by omega)
  · have k3 : Kept (fun z => Off p q z ∧ z ≠ w.heap.size + 1 ∧ z ≠ w.heap.size + 2) w wf := ((Kept.of hA).trans (k1.sub fun z _ hz => hz.1)).trans (k2.sub fun z _ hz => hz.2)
    exact k3.sub fun z hl hz => ⟨hz, by omega, by omega⟩

set_option maxHeartbeats 8000000 in
theorem do_1 {S p q : Nat} {F : Nat → Prop} {X : SrvX} (o : OpL) (P : OpP) (w : World) (h : Srv w S p q F X) (hF : ∀ z, F z → z < w.heap.size) (hi : o.in_ P w) (hk : o.kind = 1) :
    Calls Tryz.prog 16 #[ptr p, o.v P] w (DoTo S p q F X o w) := by
  have hC := setRules_of P.ra P.rc _ (h.boxed o P) (Loc.lt hF o P) (hi.rs.below (doW_below o P w)) (Nat.le_trans hi.rl hi.rm) rfl rfl
  have ht : doT X o = ⟨rulesErr o.n o.rs, [], [], []⟩ := by unfold doT; rw [if_pos hk]
  have hx : doX X o = setS X o.n o.rs := by unfold doX; rw [if_pos hk]
  obtain ⟨er, her⟩ : ∃ er, rulesErr o.n o.rs = er := ⟨_, rfl⟩
  rw [her] at hC ht
  obtain ⟨W, hW⟩ : ∃ W, W = doW o P w := ⟨_, rfl⟩
  have hA : Below w.heap.size w W := by rw [hW]; exact doW_below o P w
  have hsz : W.heap.size = w.heap.size + 3 := by rw [hW]; exact doW_size o P w
  have t1 : TB (w.heap.size + 1) W := by rw [hW]; exact doW_one o P w
  have t2 : TB (w.heap.size + 2) W := by rw [hW]; exact doW_two o P w
  have HB := Lib.hid (h.boxed o P)
  rw [← hW] at HB
  have HH := Lib.hid h
  have HT := Lib.hid ht
  have HX := Lib.hid hx
  have HA := Lib.hid hA
  have HSZ := Lib.hid hsz
  have T1 := Lib.hid t1
  have T2 := Lib.hid t2
  have HO1 := Lib.hid (off_box h 1)
  have HO2 := Lib.hid (off_box h 2)
  obtain ⟨kind, who, n, rs, r, id, f⟩ := o
  simp only at hk
  subst hk
  have HC := Lib.hid hC
  have HW := Lib.hid hW
  clear hC h hF hi ht hx her hA hsz t1 t2 hW
  go_enter Tryz.func16, Tryz.ntmps16
  go_wp2_with fail
  refine HC.out.mono ?_
  rintro e w1 ⟨rfl, hs1, hkk⟩
  rw [← HW.out] at hkk
  obtain ⟨d0, d1, d2, d3, y0, y1, y2, y3⟩ := T1.out.kept hkk HO1.out
  obtain ⟨e0, e1, e2, e3, z0, z1, z2, z3⟩ := T2.out.kept hkk HO2.out
  have HS1 := Lib.hid hs1
  have HKK := Lib.hid hkk
  have hsl : w.heap.size + 2 < w1.heap.size := cell_lt e0
  clear hs1 hkk HC
  go_wp2_with fail
  refine bodyPost_ret (v := ToldL.v ⟨er, [], [], []⟩ ToldP.none) (by simp [results, Tryz.results16, go_sem, ToldP.none, d0, d1, d2, d3, y0, y1, y2, y3, e0, e1, e2, e3, z0, z1, z2, z3]) rfl ?_
  exact do_end HSZ.out HH.out HS1.out (.inl rfl) HA.out HKK.out (by repeat (first | (with_reducible exact Kept.refl _ _) | refine Kept.trans ?_ (Kept.setCell _ (by simp) _))) (NewTold.bare _ _ _) HT.out HX.out

set_option maxHeartbeats 8000000 in
theorem do_2 {S p q : Nat} {F : Nat → Prop} {X : SrvX} (o : OpL) (P : OpP) (w : World) (h : Srv w S p q F X) (hF : ∀ z, F z → z < w.heap.size) (hi : o.in_ P w) (hk : o.kind = 2) :
    Calls Tryz.prog 16 #[ptr p, o.v P] w (DoTo S p q F X o w) := by
  have hC := put_of o.who o.r P.p _ (h.boxed o P) (Loc.lt hF o P) (hi.r.below (doW_below o P w)) rfl rfl
  have ht : doT X o = ⟨putC X o.who o.r, [], [], []⟩ := by unfold doT; rw [if_neg (by rw [hk]; decide), if_pos hk]
  have hx : doX X o = putS X o.who o.r := by unfold doX; rw [if_neg (by rw [hk]; decide), if_pos hk]
  obtain ⟨er, her⟩ : ∃ er, putC X o.who o.r = er := ⟨_, rfl⟩
  rw [her] at hC ht
  obtain ⟨W, hW⟩ : ∃ W, W = doW o P w := ⟨_, rfl⟩
  have hA : Below w.heap.size w W := by rw [hW]; exact doW_below o P w
  have hsz : W.heap.size = w.heap.size + 3 := by rw [hW]; exact doW_size o P w
  have t1 : TB (w.heap.size + 1) W := by rw [hW]; exact doW_one o P w
  have t2 : TB (w.heap.size + 2) W := by rw [hW]; exact doW_two o P w
  have HB := Lib.hid (h.boxed o P)
  rw [← hW] at HB
  have HH := Lib.hid h
  have HT := Lib.hid ht
  have HX := Lib.hid hx
  have HA := Lib.hid hA
  have HSZ := Lib.hid hsz
  have T1 := Lib.hid t1
  have T2 := Lib.hid t2
  have HO1 := Lib.hid (off_box h 1)
  have HO2 := Lib.hid (off_box h 2)
  obtain ⟨kind, who, n, rs, r, id, f⟩ := o
  simp only at hk
  subst hk
  have HC := Lib.hid hC
  have HW := Lib.hid hW
  clear hC h hF hi ht hx her hA hsz t1 t2 hW
  go_enter Tryz.func16, Tryz.ntmps16
  go_wp2_with fail
  refine HC.out.mono ?_
  rintro e w1 ⟨rfl, hs1, hkk⟩
  rw [← HW.out] at hkk
  obtain ⟨d0, d1, d2, d3, y0, y1, y2, y3⟩ := T1.out.kept hkk HO1.out
  obtain ⟨e0, e1, e2, e3, z0, z1, z2, z3⟩ := T2.out.kept hkk HO2.out
  have HS1 := Lib.hid hs1
  have HKK := Lib.hid hkk
  have hsl : w.heap.size + 2 < w1.heap.size := cell_lt e0
  clear hs1 hkk HC
  go_wp2_with fail
  refine bodyPost_ret (v := ToldL.v ⟨er, [], [], []⟩ ToldP.none) (by simp [results, Tryz.results16, go_sem, ToldP.none, d0, d1, d2, d3, y0, y1, y2, y3, e0, e1, e2, e3, z0, z1, z2, z3]) rfl ?_
  exact do_end HSZ.out HH.out HS1.out (.inl rfl) HA.out HKK.out (by repeat (first | (with_reducible exact Kept.refl _ _) | refine Kept.trans ?_ (Kept.setCell _ (by simp) _))) (NewTold.bare _ _ _) HT.out HX.out

set_option maxHeartbeats 8000000 in
theorem do_3 {S p q : Nat} {F : Nat → Prop} {X : SrvX} (o : OpL) (P : OpP) (w : World) (h : Srv w S p q F X) (hF : ∀ z, F z → z < w.heap.size) (hi : o.in_ P w) (hk : o.kind = 3) :
    Calls Tryz.prog 16 #[ptr p, o.v P] w (DoTo S p q F X o w) := by
  have hC := cut_of o.who o.id o.r.cats _ (h.boxed o P) (Loc.lt hF o P) rfl rfl
  have ht : doT X o = ⟨cutC X o.who o.id o.r.cats, [], [], []⟩ := by unfold doT; rw [if_neg (by rw [hk]; decide), if_neg (by rw [hk]; decide), if_pos hk]
  have hx : doX X o = cutS X o.who o.id o.r.cats := by unfold doX; rw [if_neg (by rw [hk]; decide), if_neg (by rw [hk]; decide), if_pos hk]
  obtain ⟨er, her⟩ : ∃ er, cutC X o.who o.id o.r.cats = er := ⟨_, rfl⟩
  rw [her] at hC ht
  obtain ⟨W, hW⟩ : ∃ W, W = doW o P w := ⟨_, rfl⟩
  have hA : Below w.heap.size w W := by rw [hW]; exact doW_below o P w
  have hsz : W.heap.size = w.heap.size + 3 := by rw [hW]; exact doW_size o P w
  have t1 : TB (w.heap.size + 1) W := by rw [hW]; exact doW_one o P w
  have t2 : TB (w.heap.size + 2) W := by rw [hW]; exact doW_two o P w
  have HB := Lib.hid (h.boxed o P)
  rw [← hW] at HB
  have HH := Lib.hid h
  have HT := Lib.hid ht
  have HX := Lib.hid hx
  have HA := Lib.hid hA
  have HSZ := Lib.hid hsz
  have T1 := Lib.hid t1
  have T2 := Lib.hid t2
  have HO1 := Lib.hid (off_box h 1)
  have HO2 := Lib.hid (off_box h 2)
  obtain ⟨kind, who, n, rs, r, id, f⟩ := o
  simp only at hk
  subst hk
  have HC := Lib.hid hC
  have HW := Lib.hid hW
  clear hC h hF hi ht hx her hA hsz t1 t2 hW
  go_enter Tryz.func16, Tryz.ntmps16
  go_wp2_with fail
  refine HC.out.mono ?_
  rintro e w1 ⟨rfl, hs1, hkk⟩
  rw [← HW.out] at hkk
  obtain ⟨d0, d1, d2, d3, y0, y1, y2, y3⟩ := T1.out.kept hkk HO1.out
  obtain ⟨e0, e1, e2, e3, z0, z1, z2, z3⟩ := T2.out.kept hkk HO2.out
  have HS1 := Lib.hid hs1
  have HKK := Lib.hid hkk
  have hsl : w.heap.size + 2 < w1.heap.size := cell_lt e0
  clear hs1 hkk HC
  go_wp2_with fail
  refine bodyPost_ret (v := ToldL.v ⟨er, [], [], []⟩ ToldP.none) (by simp [results, Tryz.results16, go_sem, ToldP.none, d0, d1, d2, d3, y0, y1, y2, y3, e0, e1, e2, e3, z0, z1, z2, z3]) rfl ?_
  exact do_end HSZ.out HH.out HS1.out (.inl rfl) HA.out HKK.out (by repeat (first | (with_reducible exact Kept.refl _ _) | refine Kept.trans ?_ (Kept.setCell _ (by simp) _))) (NewTold.bare _ _ _) HT.out HX.out

set_option maxHeartbeats 8000000 in
theorem do_4 {S p q : Nat} {F : Nat → Prop} {X : SrvX} (o : OpL) (P : OpP) (w : World) (h : Srv w S p q F X) (hF : ∀ z, F z → z < w.heap.size) (hi : o.in_ P w) (hk : o.kind = 4) :
    Calls Tryz.prog 16 #[ptr p, o.v P] w (DoTo S p q F X o w) := by
  have hC := get_of o.who o.id _ (h.boxed o P) rfl rfl
  have ht : doT X o = ⟨getC X o.who o.id, getT X o.who o.id, [], []⟩ := by unfold doT; rw [if_neg (by rw [hk]; decide), if_neg (by rw [hk]; decide), if_neg (by rw [hk]; decide), if_pos hk]
  have hx : doX X o = X := by unfold doX; rw [if_neg (by rw [hk]; decide), if_neg (by rw [hk]; decide), if_neg (by rw [hk]; decide), if_neg (by rw [hk]; decide)]
  obtain ⟨er, her⟩ : ∃ er, getC X o.who o.id = er := ⟨_, rfl⟩
  rw [her] at hC ht
  obtain ⟨L, hL⟩ : ∃ L, getT X o.who o.id = L := ⟨_, rfl⟩
  rw [hL] at hC ht
  obtain ⟨W, hW⟩ : ∃ W, W = doW o P w := ⟨_, rfl⟩
  have hA : Below w.heap.size w W := by rw [hW]; exact doW_below o P w
  have hsz : W.heap.size = w.heap.size + 3 := by rw [hW]; exact doW_size o P w
  have t1 : TB (w.heap.size + 1) W := by rw [hW]; exact doW_one o P w
  have t2 : TB (w.heap.size + 2) W := by rw [hW]; exact doW_two o P w
  have HB := Lib.hid (h.boxed o P)
  rw [← hW] at HB
  have HH := Lib.hid h
  have HT := Lib.hid ht
  have HX := Lib.hid hx
  have HA := Lib.hid hA
  have HSZ := Lib.hid hsz
  have T1 := Lib.hid t1
  have T2 := Lib.hid t2
  have HO1 := Lib.hid (off_box h 1)
  have HO2 := Lib.hid (off_box h 2)
  obtain ⟨kind, who, n, rs, r, id, f⟩ := o
  simp only at hk
  subst hk
  have HC := Lib.hid hC
  have HW := Lib.hid hW
  clear hC h hF hi ht hx her hA hsz t1 t2 hW hL
  go_enter Tryz.func16, Tryz.ntmps16
  go_wp2_with fail
  refine HC.out.mono ?_
  rintro e w1 ⟨A, m, c, rfl, hnw, hb1⟩
  have hm := hnw.at_.len.symm
  rw [← HW.out] at hb1 hnw
  have hkk : Kept (Off p q) W w1 := Kept.of hb1
  obtain ⟨d0, d1, d2, d3, y0, y1, y2, y3⟩ := T1.out.kept hkk HO1.out
  obtain ⟨e0, e1, e2, e3, z0, z1, z2, z3⟩ := T2.out.kept hkk HO2.out
  have HS1 := Lib.hid (HB.out.below hb1)
  have HKK := Lib.hid hkk
  have hsl : w.heap.size + 2 < w1.heap.size := cell_lt e0
  subst hm
  have HNW := Lib.hid hnw
  clear hkk hb1 hnw HC
  go_wp2_with fail
  refine bodyPost_ret (v := ToldL.v ⟨er, L, [], []⟩ ⟨A, c, none, 0, none, 0⟩) (by simp [results, Tryz.results16, go_sem, ToldP.none, d0, d1, d2, d3, y0, y1, y2, y3, e0, e1, e2, e3, z0, z1, z2, z3]) rfl ?_
  exact do_end HSZ.out HH.out HS1.out (.inl rfl) HA.out HKK.out (by repeat (first | (with_reducible exact Kept.refl _ _) | refine Kept.trans ?_ (Kept.setCell _ (by simp) _))) ⟨HNW.out, World.ownsRow_nil _ _ _ _, World.ownsRow_nil _ _ _ _⟩ HT.out HX.out

set_option maxHeartbeats 8000000 in
theorem do_5 {S p q : Nat} {F : Nat → Prop} {X : SrvX} (o : OpL) (P : OpP) (w : World) (h : Srv w S p q F X) (hF : ∀ z, F z → z < w.heap.size) (hi : o.in_ P w) (hk : o.kind = 5) :
    Calls Tryz.prog 16 #[ptr p, o.v P] w (DoTo S p q F X o w) := by
  have hC := find_of o.who o.f _ (h.boxed o P) rfl rfl
  have ht : doT X o = ⟨findC X o.who o.f, [], findT X o.who o.f, []⟩ := by unfold doT; rw [if_neg (by rw [hk]; decide), if_neg (by rw [hk]; decide), if_neg (by rw [hk]; decide), if_neg (by rw [hk]; decide), if_pos hk]
  have hx : doX X o = X := by unfold doX; rw [if_neg (by rw [hk]; decide), if_neg (by rw [hk]; decide), if_neg (by rw [hk]; decide), if_neg (by rw [hk]; decide)]
  obtain ⟨er, her⟩ : ∃ er, findC X o.who o.f = er := ⟨_, rfl⟩
  rw [her] at hC ht
  obtain ⟨L, hL⟩ : ∃ L, findT X o.who o.f = L := ⟨_, rfl⟩
  rw [hL] at hC ht
  obtain ⟨W, hW⟩ : ∃ W, W = doW o P w := ⟨_, rfl⟩
  have hA : Below w.heap.size w W := by rw [hW]; exact doW_below o P w
  have hsz : W.heap.size = w.heap.size + 3 := by rw [hW]; exact doW_size o P w
  have t1 : TB (w.heap.size + 1) W := by rw [hW]; exact doW_one o P w
  have t2 : TB (w.heap.size + 2) W := by rw [hW]; exact doW_two o P w
  have HB := Lib.hid (h.boxed o P)
  rw [← hW] at HB
  have HH := Lib.hid h
  have HT := Lib.hid ht
  have HX := Lib.hid hx
  have HA := Lib.hid hA
  have HSZ := Lib.hid hsz
  have T1 := Lib.hid t1
  have T2 := Lib.hid t2
  have HO1 := Lib.hid (off_box h 1)
  have HO2 := Lib.hid (off_box h 2)
  obtain ⟨kind, who, n, rs, r, id, f⟩ := o
  simp only at hk
  subst hk
  have HC := Lib.hid hC
  have HW := Lib.hid hW
  clear hC h hF hi ht hx her hA hsz t1 t2 hW hL
  go_enter Tryz.func16, Tryz.ntmps16
  go_wp2_with fail
  refine HC.out.mono ?_
  rintro e w1 ⟨A, m, c, rfl, hm, hnw, hb1⟩
  rw [← HW.out] at hb1 hnw
  have hkk : Kept (Off p q) W w1 := Kept.of hb1
  obtain ⟨d0, d1, d2, d3, y0, y1, y2, y3⟩ := T1.out.kept hkk HO1.out
  obtain ⟨e0, e1, e2, e3, z0, z1, z2, z3⟩ := T2.out.kept hkk HO2.out
  have HS1 := Lib.hid (HB.out.below hb1)
  have HKK := Lib.hid hkk
  have hsl : w.heap.size + 2 < w1.heap.size := cell_lt e0
  subst hm
  have HNW := Lib.hid hnw
  clear hkk hb1 hnw HC
  go_wp2_with fail
  refine bodyPost_ret (v := ToldL.v ⟨er, [], L, []⟩ ⟨none, 0, A, c, none, 0⟩) (by simp [results, Tryz.results16, go_sem, ToldP.none, d0, d1, d2, d3, y0, y1, y2, y3, e0, e1, e2, e3, z0, z1, z2, z3]) rfl ?_
  exact do_end HSZ.out HH.out HS1.out (.inl rfl) HA.out HKK.out (by repeat (first | (with_reducible exact Kept.refl _ _) | refine Kept.trans ?_ (Kept.setCell _ (by simp) _))) ⟨NewW.nil _ _, HNW.out, World.ownsRow_nil _ _ _ _⟩ HT.out HX.out

set_option maxHeartbeats 8000000 in
theorem do_6 {S p q : Nat} {F : Nat → Prop} {X : SrvX} (o : OpL) (P : OpP) (w : World) (h : Srv w S p q F X) (hF : ∀ z, F z → z < w.heap.size) (hi : o.in_ P w) (hk : o.kind = 6) :
    Calls Tryz.prog 16 #[ptr p, o.v P] w (DoTo S p q F X o w) := by
  have hC := hist_of o.who o.id _ (h.boxed o P) rfl rfl
  have ht : doT X o = ⟨histC X o.who o.id, histT X o.who o.id, [], []⟩ := by unfold doT; rw [if_neg (by rw [hk]; decide), if_neg (by rw [hk]; decide), if_neg (by rw [hk]; decide), if_neg (by rw [hk]; decide), if_neg (by rw [hk]; decide), if_pos hk]
  have hx : doX X o = X := by unfold doX; rw [if_neg (by rw [hk]; decide), if_neg (by rw [hk]; decide), if_neg (by rw [hk]; decide), if_neg (by rw [hk]; decide)]
  obtain ⟨er, her⟩ : ∃ er, histC X o.who o.id = er := ⟨_, rfl⟩
  rw [her] at hC ht
  obtain ⟨L, hL⟩ : ∃ L, histT X o.who o.id = L := ⟨_, rfl⟩
  rw [hL] at hC ht
  obtain ⟨W, hW⟩ : ∃ W, W = doW o P w := ⟨_, rfl⟩
  have hA : Below w.heap.size w W := by rw [hW]; exact doW_below o P w
  have hsz : W.heap.size = w.heap.size + 3 := by rw [hW]; exact doW_size o P w
  have t1 : TB (w.heap.size + 1) W := by rw [hW]; exact doW_one o P w
  have t2 : TB (w.heap.size + 2) W := by rw [hW]; exact doW_two o P w
  have HB := Lib.hid (h.boxed o P)
  rw [← hW] at HB
  have HH := Lib.hid h
  have HT := Lib.hid ht
  have HX := Lib.hid hx
  have HA := Lib.hid hA
  have HSZ := Lib.hid hsz
  have T1 := Lib.hid t1
  have T2 := Lib.hid t2
  have HO1 := Lib.hid (off_box h 1)
  have HO2 := Lib.hid (off_box h 2)
  obtain ⟨kind, who, n, rs, r, id, f⟩ := o
  simp only at hk
  subst hk
  have HC := Lib.hid hC
  have HW := Lib.hid hW
  clear hC h hF hi ht hx her hA hsz t1 t2 hW hL
  go_enter Tryz.func16, Tryz.ntmps16
  go_wp2_with fail
  refine HC.out.mono ?_
  rintro e w1 ⟨A, m, c, rfl, hnw, hb1⟩
  have hm := hnw.at_.len.symm
  rw [← HW.out] at hb1 hnw
  have hkk : Kept (Off p q) W w1 := Kept.of hb1
  obtain ⟨d0, d1, d2, d3, y0, y1, y2, y3⟩ := T1.out.kept hkk HO1.out
  obtain ⟨e0, e1, e2, e3, z0, z1, z2, z3⟩ := T2.out.kept hkk HO2.out
  have HS1 := Lib.hid (HB.out.below hb1)
  have HKK := Lib.hid hkk
  have hsl : w.heap.size + 2 < w1.heap.size := cell_lt e0
  subst hm
  have HNW := Lib.hid hnw
  clear hkk hb1 hnw HC
  go_wp2_with fail
  refine bodyPost_ret (v := ToldL.v ⟨er, L, [], []⟩ ⟨A, c, none, 0, none, 0⟩) (by simp [results, Tryz.results16, go_sem, ToldP.none, d0, d1, d2, d3, y0, y1, y2, y3, e0, e1, e2, e3, z0, z1, z2, z3]) rfl ?_
  exact do_end HSZ.out HH.out HS1.out (.inl rfl) HA.out HKK.out (by repeat (first | (with_reducible exact Kept.refl _ _) | refine Kept.trans ?_ (Kept.setCell _ (by simp) _))) ⟨HNW.out, World.ownsRow_nil _ _ _ _, World.ownsRow_nil _ _ _ _⟩ HT.out HX.out

set_option maxHeartbeats 8000000 in
theorem do_7 {S p q : Nat} {F : Nat → Prop} {X : SrvX} (o : OpL) (P : OpP) (w : World) (h : Srv w S p q F X) (hF : ∀ z, F z → z < w.heap.size) (hi : o.in_ P w) (hk : o.kind = 7) :
    Calls Tryz.prog 16 #[ptr p, o.v P] w (DoTo S p q F X o w) := by
  have hC := need_of o.who o.id _ (h.boxed o P) (Loc.lt hF o P) rfl rfl rfl
  have ht : doT X o = ⟨needC X o.who o.id, needT X o.who o.id, [], []⟩ := by unfold doT; rw [if_neg (by rw [hk]; decide), if_neg (by rw [hk]; decide), if_neg (by rw [hk]; decide), if_neg (by rw [hk]; decide), if_neg (by rw [hk]; decide), if_neg (by rw [hk]; decide), if_pos hk]
  have hx : doX X o = needS X o.who o.id := by unfold doX; rw [if_neg (by rw [hk]; decide), if_neg (by rw [hk]; decide), if_neg (by rw [hk]; decide), if_pos hk]
  obtain ⟨er, her⟩ : ∃ er, needC X o.who o.id = er := ⟨_, rfl⟩
  rw [her] at hC ht
  obtain ⟨L, hL⟩ : ∃ L, needT X o.who o.id = L := ⟨_, rfl⟩
  rw [hL] at hC ht
  obtain ⟨W, hW⟩ : ∃ W, W = doW o P w := ⟨_, rfl⟩
  have hA : Below w.heap.size w W := by rw [hW]; exact doW_below o P w
  have hsz : W.heap.size = w.heap.size + 3 := by rw [hW]; exact doW_size o P w
  have t1 : TB (w.heap.size + 1) W := by rw [hW]; exact doW_one o P w
  have t2 : TB (w.heap.size + 2) W := by rw [hW]; exact doW_two o P w
  have HB := Lib.hid (h.boxed o P)
  rw [← hW] at HB
  have HH := Lib.hid h
  have HT := Lib.hid ht
  have HX := Lib.hid hx
  have HA := Lib.hid hA
  have HSZ := Lib.hid hsz
  have T1 := Lib.hid t1
  have T2 := Lib.hid t2
  have HO1 := Lib.hid (off_box h 1)
  have HO2 := Lib.hid (off_box h 2)
  obtain ⟨kind, who, n, rs, r, id, f⟩ := o
  simp only at hk
  subst hk
  have HC := Lib.hid hC
  have HW := Lib.hid hW
  clear hC h hF hi ht hx her hA hsz t1 t2 hW hL
  go_enter Tryz.func16, Tryz.ntmps16
  go_wp2_with fail
  refine HC.out.mono ?_
  rintro e w1 ⟨A, m, c, q', rfl, hnw, hs1, hqq, hkk⟩
  have hm := hnw.at_.len.symm
  rw [← HW.out] at hkk hnw hqq
  obtain ⟨d0, d1, d2, d3, y0, y1, y2, y3⟩ := T1.out.kept hkk HO1.out
  obtain ⟨e0, e1, e2, e3, z0, z1, z2, z3⟩ := T2.out.kept hkk HO2.out
  have HS1 := Lib.hid hs1
  have HKK := Lib.hid hkk
  have HQQ := Lib.hid hqq
  have hsl : w.heap.size + 2 < w1.heap.size := cell_lt e0
  subst hm
  have HNW := Lib.hid hnw
  clear hkk hnw HC hs1 hqq
  go_wp2_with fail
  refine bodyPost_ret (v := ToldL.v ⟨er, L, [], []⟩ ⟨A, c, none, 0, none, 0⟩) (by simp [results, Tryz.results16, go_sem, ToldP.none, d0, d1, d2, d3, y0, y1, y2, y3, e0, e1, e2, e3, z0, z1, z2, z3]) rfl ?_
  exact do_end HSZ.out HH.out HS1.out HQQ.out HA.out HKK.out (by repeat (first | (with_reducible exact Kept.refl _ _) | refine Kept.trans ?_ (Kept.setCell _ (by simp) _))) ⟨HNW.out, World.ownsRow_nil _ _ _ _, World.ownsRow_nil _ _ _ _⟩ HT.out HX.out

set_option maxHeartbeats 8000000 in
theorem do_8 {S p q : Nat} {F : Nat → Prop} {X : SrvX} (o : OpL) (P : OpP) (w : World) (h : Srv w S p q F X) (hF : ∀ z, F z → z < w.heap.size) (hi : o.in_ P w) (hk : o.kind = 8) :
    Calls Tryz.prog 16 #[ptr p, o.v P] w (DoTo S p q F X o w) := by
  have hC := audit_of o.who _ (h.boxed o P) rfl rfl
  have ht : doT X o = ⟨chkE X o.who 255, [], [], auditT X o.who⟩ := by unfold doT; rw [if_neg (by rw [hk]; decide), if_neg (by rw [hk]; decide), if_neg (by rw [hk]; decide), if_neg (by rw [hk]; decide), if_neg (by rw [hk]; decide), if_neg (by rw [hk]; decide), if_neg (by rw [hk]; decide), if_pos hk]
  have hx : doX X o = X := by unfold doX; rw [if_neg (by rw [hk]; decide), if_neg (by rw [hk]; decide), if_neg (by rw [hk]; decide), if_neg (by rw [hk]; decide)]
  obtain ⟨er, her⟩ : ∃ er, chkE X o.who 255 = er := ⟨_, rfl⟩
  rw [her] at hC ht
  obtain ⟨L, hL⟩ : ∃ L, auditT X o.who = L := ⟨_, rfl⟩
  rw [hL] at hC ht
  obtain ⟨W, hW⟩ : ∃ W, W = doW o P w := ⟨_, rfl⟩
  have hA : Below w.heap.size w W := by rw [hW]; exact doW_below o P w
  have hsz : W.heap.size = w.heap.size + 3 := by rw [hW]; exact doW_size o P w
  have t1 : TB (w.heap.size + 1) W := by rw [hW]; exact doW_one o P w
  have t2 : TB (w.heap.size + 2) W := by rw [hW]; exact doW_two o P w
  have HB := Lib.hid (h.boxed o P)
  rw [← hW] at HB
  have HH := Lib.hid h
  have HT := Lib.hid ht
  have HX := Lib.hid hx
  have HA := Lib.hid hA
  have HSZ := Lib.hid hsz
  have T1 := Lib.hid t1
  have T2 := Lib.hid t2
  have HO1 := Lib.hid (off_box h 1)
  have HO2 := Lib.hid (off_box h 2)
  obtain ⟨kind, who, n, rs, r, id, f⟩ := o
  simp only at hk
  subst hk
  have HC := Lib.hid hC
  have HW := Lib.hid hW
  clear hC h hF hi ht hx her hA hsz t1 t2 hW hL
  go_enter Tryz.func16, Tryz.ntmps16
  go_wp2_with fail
  refine HC.out.mono ?_
  rintro e w1 ⟨A, m, c, rfl, hm, hnw, hb1⟩
  rw [← HW.out] at hb1 hnw
  have hkk : Kept (Off p q) W w1 := Kept.of hb1
  obtain ⟨d0, d1, d2, d3, y0, y1, y2, y3⟩ := T1.out.kept hkk HO1.out
  obtain ⟨e0, e1, e2, e3, z0, z1, z2, z3⟩ := T2.out.kept hkk HO2.out
  have HS1 := Lib.hid (HB.out.below hb1)
  have HKK := Lib.hid hkk
  have hsl : w.heap.size + 2 < w1.heap.size := cell_lt e0
  subst hm
  have HNW := Lib.hid hnw
  clear hkk hb1 hnw HC
  go_wp2_with fail
  refine bodyPost_ret (v := ToldL.v ⟨er, [], [], L⟩ ⟨none, 0, none, 0, A, c⟩) (by simp [results, Tryz.results16, go_sem, ToldP.none, d0, d1, d2, d3, y0, y1, y2, y3, e0, e1, e2, e3, z0, z1, z2, z3]) rfl ?_
  exact do_end HSZ.out HH.out HS1.out (.inl rfl) HA.out HKK.out (by repeat (first | (with_reducible exact Kept.refl _ _) | refine Kept.trans ?_ (Kept.setCell _ (by simp) _))) ⟨NewW.nil _ _, World.ownsRow_nil _ _ _ _, HNW.out⟩ HT.out HX.out

set_option maxHeartbeats 8000000 in
theorem do_0 {S p q : Nat} {F : Nat → Prop} {X : SrvX} (o : OpL) (P : OpP) (w : World) (h : Srv w S p q F X) (hk : o.kind ≠ 1 ∧ o.kind ≠ 2 ∧ o.kind ≠ 3 ∧ o.kind ≠ 4 ∧ o.kind ≠ 5 ∧ o.kind ≠ 6 ∧ o.kind ≠ 7 ∧ o.kind ≠ 8) :
    Calls Tryz.prog 16 #[ptr p, o.v P] w (DoTo S p q F X o w) := by
  obtain ⟨h1, h2, h3, h4, h5, h6, h7, h8⟩ := hk
  have HT : Hid (doT X o = ⟨3, [], [], []⟩) := by show _ = _; unfold doT; rw [if_neg h1, if_neg h2, if_neg h3, if_neg h4, if_neg h5, if_neg h6, if_neg h7, if_neg h8]
  have HX : Hid (doX X o = X) := by show _ = _; unfold doX; rw [if_neg h1, if_neg h2, if_neg h3, if_neg h7]
  have HB := Lib.hid (h.boxed o P)
  have HH := Lib.hid h
  have HA := Lib.hid (doW_below o P w)
  have HSZ := Lib.hid (doW_size o P w)
  obtain ⟨kind, who, n, rs, r, id, f⟩ := o
  simp only at h1 h2 h3 h4 h5 h6 h7 h8
  have g1 : (kind == 1) = false := by simpa using h1
  have g2 : (kind == 2) = false := by simpa using h2
  have g3 : (kind == 3) = false := by simpa using h3
  have g4 : (kind == 4) = false := by simpa using h4
  have g5 : (kind == 5) = false := by simpa using h5
  have g6 : (kind == 6) = false := by simpa using h6
  have g7 : (kind == 7) = false := by simpa using h7
  have g8 : (kind == 8) = false := by simpa using h8
  clear h
  go_enter Tryz.func16, Tryz.ntmps16
  go_wp2_with fail
  refine bodyPost_ret (v := ToldL.v ⟨3, [], [], []⟩ ToldP.none) (by simp [results, Tryz.results16, go_sem, ToldP.none]) rfl ?_
  unfold DoTo
  rw [HT.out, HX.out]
  have hb := (((Below.refl w.heap.size w).alloc (Nat.le_refl _) (.cells #[.int .i64 kind, .int .i64 who.role, .int .i64 who.why, .int .i64 who.time, .slice P.ra n P.rc, .string r.id, .int .i64 r.cats, .slice P.p.fa r.fs.length P.p.fc, .slice P.p.ra r.rs.length P.p.rc, .string id, .string f.key, .string f.val] 39)).alloc (by simp) (.cells #[.int .i64 3, .slice none 0 0, .slice none 0 0, .slice none 0 0] 48)).alloc (by simp; omega) (.cells #[.int .i64 3, .slice none 0 0, .slice none 0 0, .slice none 0 0] 48)
  exact ⟨ToldP.none, q, rfl, NewTold.bare _ _ _, HH.out.below hb, .inl rfl, Kept.of hb⟩

/-- P36 to P42: what Do leaves -/
theorem do_is {S p q : Nat} {F : Nat → Prop} {X : SrvX} (o : OpL) (P : OpP) (w : World) (h : Srv w S p q F X) (hF : ∀ z, F z → z < w.heap.size) (hi : o.in_ P w) :
    Calls Tryz.prog 16 #[ptr p, o.v P] w (DoTo S p q F X o w) := by
  by_cases h1 : o.kind = 1
  · exact do_1 o P w h hF hi h1
  by_cases h2 : o.kind = 2
  · exact do_2 o P w h hF hi h2
  by_cases h3 : o.kind = 3
  · exact do_3 o P w h hF hi h3
  by_cases h4 : o.kind = 4
  · exact do_4 o P w h hF hi h4
  by_cases h5 : o.kind = 5
  · exact do_5 o P w h hF hi h5
  by_cases h6 : o.kind = 6
  · exact do_6 o P w h hF hi h6
  by_cases h7 : o.kind = 7
  · exact do_7 o P w h hF hi h7
  by_cases h8 : o.kind = 8
  · exact do_8 o P w h hF hi h8
  exact do_0 o P w h ⟨h1, h2, h3, h4, h5, h6, h7, h8⟩
end Go.Proofs.YteimdhkajbldjaaGreat
namespace Go.Proofs.YteimdhkajbldjaaGreat
open Go.RowKit Go.Sort

theorem Tryz.infoI : (Tryz.prog.info? 3).map (fun i => (i.zero, i.size, i.bytes)) = some (some (.int .i64 0), 1, 8) := by kernel_rfl
def NewI (B n : Nat) (z : Nat → Int) (w : World) (e : Ending) (w' : World) : Prop := ∃ A c, e = .returned (.slice A n c) ∧ OwnI B w' (.slice A n c) n z ∧ Below B w w'
theorem flatI_len (z : Nat → Int) (n : Nat) : (flat (fun k => [Value.int .i64 (z k)]) n).length = n * 1 := flat_len (f := fun k => [Value.int .i64 (z k)]) (s := 1) (fun k => rfl) n
theorem flatI_one (z : Nat → Int) (n : Nat) : ∀ u ∈ flat (fun k => [Value.int .i64 (z k)]) n, u.oneCell' = true := flat_mem (fun k u hu => by rw [List.mem_singleton] at hu; subst hu; rfl) n
theorem Sl.cells {w : World} {ad : Addr} {n : Nat} {z : Nat → Int} (h : Sl w (some ad) n z) : ∀ j u, (flat (fun k => [Value.int .i64 (z k)]) n)[j]? = some u → w.cell? (ad.add j) = some u := fun j u hj => by
  obtain ⟨k, i, h1, h2, rfl, h3⟩ := flat_of_get (s := 1) (fun k => rfl) hj
  obtain rfl : i = 0 := by omega
  cases h3
  obtain ⟨b, off, e, h4⟩ := h k h1
  cases e
  have hadd : (⟨b, off, none⟩ : Addr).add (k * 1 + 0) = ⟨b, off + k, none⟩ := by unfold Addr.add; split <;> simp_all
  rw [hadd]
  exact h4

set_option maxHeartbeats 1000000 in
theorem cloneI_any (a : Option Addr) (n cap : Nat) (z : Nat → Int) (w : World) (hs : Sl w a n z) (hn : n ≤ 1000) :
    Calls Tryz.prog 96 #[.slice a n cap] w (NewI w.heap.size n z w) := by
  obtain ⟨i0, hi, hz0, hz1, hz2⟩ := info_parts Tryz.infoI
  have hnil := @Lib.run_eql_slice_nil
  have HS := Lib.hid hs
  clear hs
  cases a with
  | none =>
    have h0 : n = 0 := by
      rcases Nat.eq_zero_or_pos n with h | h
      · exact h
      · obtain ⟨b, off, e, _⟩ := HS.out 0 h
        cases e
    subst h0
    go_enter Tryz.func96, Tryz.ntmps96
    go_wp2_with fail
    go_ret
    exact ⟨none, 0, rfl, World.ownsRow_nil _ _ _ _, Below.refl _ _⟩
  | some ad =>
    have hnews := (HS.out.below ((Below.refl _ _).alloc (Nat.le_refl _) (.cells #[] 3))).cells
    have hown : (w.alloc (.cells #[] 3)).ownsRow w.heap.size 3 1 (.slice (some ⟨w.heap.size, 0, none⟩) 0 0) 0 [] := World.ownsRow_made w #[] 0 (Nat.le_refl _) (by decide) rfl
    have HN := Lib.hid hnews
    clear hnews
    go_enter Tryz.func96, Tryz.ntmps96
    go_wp2_with (at_builtin; refine wpList_append_own _ rfl _ _ 43 rfl w.heap.size 3 i0 _ 1 8 Tryz.underlying43 hi hz0 hz1 hz2 rfl (by decide) _ _ _ rfl hown ad n cap (flat (fun k => [Value.int .i64 (z k)]) n) rfl ?c1 HN.out (flatI_one z n) ?c3 ?c4 ?c5 ?_)
    case c1 => exact flatI_len z n
    case c3 => unfold maxLen; omega
    case c4 => omega
    case c5 => simp
    intro v' w1 hown' hgrow hnv
    have hnx : Below w.heap.size w w1 := ((Below.refl _ _).alloc (Nat.le_refl _) _).grown hgrow (by simp) (fun j hj => by simp [Value.ownBlock] at hj; omega)
    have ho : OwnI w.heap.size w1 v' n z := by
      unfold OwnI
      simpa using hown'
    obtain ⟨A, c, hv⟩ : ∃ A c, v' = .slice A n c := by
      rcases ho.2 with ⟨e, h0⟩ | ⟨g, cap, cur, e, _⟩
      · exact ⟨none, 0, by rw [e, h0]⟩
      · exact ⟨_, _, e⟩
    have HO := Lib.hid ho
    clear hnv hgrow hown hown' ho
    subst hv
    go_wp2_with fail
    go_ret
    exact ⟨A, c, rfl, HO.out, hnx⟩

/-- a server that has nothing yet -/
def bareX (m : Nat) (u : Nat → Nat) : SrvX := ⟨m, u, 0, fun _ => ⟨0, 0, 0, 0, 0, false⟩, [], []⟩
theorem bareX_ok {m : Nat} {u : Nat → Nat} (h : rolesErr m (fun k => (u k : Int)) = 0) : (bareX m u).Ok := ⟨h, rfl, stErr_ok.2 ⟨by simp [bareX], stOk_nil⟩, by simp [bareX]⟩
/-- what a server is made as: block p, new -/
def MadeTo (F : Nat → Prop) (X : SrvX) (w : World) (e : Ending) (w' : World) : Prop := ∃ p, e = .returned (.tuple #[ptr p, .int .i64 0]) ∧ Srv w' w.heap.size p p F X ∧ Below w.heap.size w w'

set_option maxHeartbeats 4000000 in
theorem new_of (F : Nat → Prop) (a : Option Addr) (m c : Nat) (u : Nat → Nat) (w : World) (hF : ∀ z, F z → z < w.heap.size) (hs : SlV w a m u) (h0 : rolesErr m (fun k => (u k : Int)) = 0) :
    Calls Tryz.prog 51 #[.slice a m c] w (MadeTo F (bareX m u) w) := by
  have HCK := Lib.hid (hs.check c)
  have HCL := Lib.hid (cloneI_any a m c (fun k => (u k : Int)) w hs.1 (by have := (rolesErr_zero h0).1; omega))
  have HV := Lib.hid hs.2
  have HF := Lib.hid hF
  have H0 := Lib.hid h0
  clear hs hF h0
  go_enter Tryz.func51, Tryz.ntmps51
  go_wp2_with fail
  refine HCK.out.mono ?_
  rintro e w1 ⟨rfl, rfl⟩
  go_wp2_with fail
  refine HCL.out.mono ?_
  rintro e w2 ⟨A, c2, rfl, ho, hb⟩
  have HO := Lib.hid ho
  have HB := Lib.hid hb
  clear ho hb HCK HCL
  go_wp2_with fail
  go_ret2
  have hb2 : Below w2.heap.size w2 (w2.alloc (.cells #[.slice A m c2, .slice none 0 0, .slice none 0 0, .slice none 0 0] 102)) := (Below.refl _ _).alloc (Nat.le_refl _) _
  have hsz := HB.out.size
  have hn : ∀ {P : World → Prop} {w0 : World}, (∀ w', P w') → On (Firm w2.heap.size w2.heap.size F) P w0 := fun h w' _ => h w'
  refine ⟨w2.heap.size, rfl, ⟨hsz, hsz, fun e => by have := HF.out _ e; omega, fun e => by have := HF.out _ e; omega, by simp, by simp, fun o => by simp [go_sem], ⟨A, c2, by simp [go_sem, bareX], fun w' k => ?_⟩, ⟨none, 0, by simp [go_sem, bareX], hn fun w' k hk => absurd hk (Nat.not_lt_zero _)⟩, ⟨none, 0, by simp [go_sem, bareX], hn fun w' => VsAt.nil _ _⟩, ⟨none, 0, by simp [go_sem, bareX], World.ownsRow_nil _ _ _ _, fun b hb => by cases hb⟩, bareX_ok H0.out⟩, HB.out.alloc hsz _⟩
  have ho2 := own_below HO.out hb2
  have ho3 := own_kept ho2 k (fun b hb => by
    obtain ⟨h1, h2⟩ := World.ownsRow.lt HO.out b hb
    exact ⟨fun e => by have := HF.out b e; omega, by omega, by omega⟩)
  exact ⟨(OwnI.sl ho3).1, HV.out⟩

theorem slv_lit3 {w : World} {b : Nat} (h0 : w.cell? ⟨b, 0, none⟩ = some (.int .i64 0)) (h1 : w.cell? ⟨b, 1, none⟩ = some (.int .i64 1)) (h2 : w.cell? ⟨b, 2, none⟩ = some (.int .i64 2)) : SlV w (some ⟨b, 0, none⟩) 3 (fun k => k) :=
  slv_of (z := fun k => (k : Int)) (fun k hk => by
    refine ⟨b, 0, rfl, ?_⟩
    rw [Nat.zero_add]
    match k, hk with
    | 0, _ => exact h0
    | 1, _ => exact h1
    | 2, _ => exact h2) (by decide)
theorem slv_lit1 {w : World} {b : Nat} (h0 : w.cell? ⟨b, 0, none⟩ = some (.int .i64 0)) : SlV w (some ⟨b, 0, none⟩) 1 (fun k => k) :=
  slv_of (z := fun k => (k : Int)) (fun k hk => by
    refine ⟨b, 0, rfl, ?_⟩
    rw [Nat.zero_add]
    match k, hk with
    | 0, _ => exact h0) (by decide)

def RuledTo (F : Nat → Prop) (w : World) (e : Ending) (w' : World) : Prop := ∃ p, e = .returned (.tuple #[ptr p, .bool true]) ∧ Srv w' w.heap.size p p F (bareX 3 fun k => k) ∧ Below w.heap.size w w'
set_option maxHeartbeats 4000000 in
theorem ruled_is (F : Nat → Prop) (w : World) (hF : ∀ z, F z → z < w.heap.size) : Calls Tryz.prog 12 #[] w (RuledTo F w) := by
  obtain ⟨W, hW⟩ : ∃ W, W = w.alloc (.cells #[.int .i64 0, .int .i64 1, .int .i64 2] 3) := ⟨_, rfl⟩
  have hA : Below w.heap.size w W := by rw [hW]; exact (Below.refl _ _).alloc (Nat.le_refl _) _
  have hl := slv_lit3 (w := W) (b := w.heap.size) (by rw [hW]; simp [go_sem]) (by rw [hW]; simp [go_sem]) (by rw [hW]; simp [go_sem])
  have HC := Lib.hid (new_of F _ 3 3 _ W (fun z hz => Nat.lt_of_lt_of_le (hF z hz) hA.size) hl (by decide))
  have HA := Lib.hid hA
  have HW := Lib.hid hW
  rw [hW] at HC
  clear hA hl hW hF
  go_enter Tryz.func12, Tryz.ntmps12
  go_wp2_with fail
  refine HC.out.mono ?_
  rintro e w1 ⟨p, rfl, hs, hb⟩
  rw [← HW.out] at hs hb
  have HS := Lib.hid hs
  have HB := Lib.hid (HA.out.trans (hb.mono HA.out.size))
  clear hs hb HC
  go_wp2_with fail
  go_ret2
  have h := HS.out
  have hz := HA.out.size
  exact ⟨p, rfl, ⟨Nat.le_trans hz h.sp, Nat.le_trans hz h.sq, h.fp, h.fq, h.pw, h.qw, h.fz, h.c0, h.c1, h.c2, h.c3, h.ok⟩, HB.out⟩

/-! ## lists that are the same -/
set_option maxHeartbeats 2000000 in
theorem eqR_yes (a a' : Option Addr) (n c c' : Nat) (rs : Nat → RuleL) (w : World) (hs : SlR w a n rs) (hs' : SlR w a' n rs) (hm : n ≤ maxLen) :
    Calls Tryz.prog 20 #[.slice a n c, .slice a' n c'] w fun e w' => e = .returned (.bool true) ∧ Below w.heap.size w w' := by
  unfold maxLen at hm
  have HS := Lib.hid hs
  have HS' := Lib.hid hs'
  clear hs hs'
  go_enter Tryz.func20, Tryz.ntmps20
  go_wp2_with fail
  go_loopw [13] (fun i wr => ∃ k : Nat, k ≤ n ∧ i = .int .i64 k ∧ Below w.heap.size w wr) (fun i _ => n - (intOf i).toNat)
  case atStart => exact ⟨0, Nat.zero_le _, rfl, Below.refl _ _⟩
  case round =>
    obtain ⟨k, hk, rfl, hB⟩ := hrel
    by_cases hlt : k < n
    · obtain ⟨b, off, rfl, hr⟩ := (HS.out.below hB) k hlt
      obtain ⟨b', off', rfl, hr'⟩ := (HS'.out.below hB) k hlt
      obtain ⟨c0, c1, c2, c3, c4, c5⟩ := hr
      obtain ⟨d0, d1, d2, d3, d4, d5⟩ := hr'
      generalize rs k = r at c0 c1 c2 c3 c4 c5 d0 d1 d2 d3 d4 d5
      have j1 : (0 : Int) ≤ (k : Int) := by omega
      have j2 : (k : Int) < (n : Int) := by omega
      go_wp2_with fail
      go_quiet (fail)
      go_wp2_with fail
      go_roundw
      case rel => exact ⟨k + 1, by omega, by go_num, hB.trans ((drewn_below wr _).mono hB.size)⟩
      case measure => simp [intOf]; omega
    · go_wp2_with fail
      go_ret
      exact ⟨rfl, hB⟩

set_option maxHeartbeats 2000000 in
theorem eqN_yes (a a' : Option Addr) (c c' : Nat) (l : List NoteL) (w : World) (hs : SlN w a l) (hs' : SlN w a' l) (hm : l.length ≤ maxLen) :
    Calls Tryz.prog 63 #[.slice a l.length c, .slice a' l.length c'] w fun e w' => e = .returned (.bool true) ∧ Below w.heap.size w w' := by
  unfold maxLen at hm
  have HS := Lib.hid hs
  have HS' := Lib.hid hs'
  obtain ⟨n, hn⟩ : ∃ n, n = l.length := ⟨_, rfl⟩
  have HN := Lib.hid hn
  rw [← hn] at hm ⊢
  clear hs hs' hn
  go_enter Tryz.func63, Tryz.ntmps63
  go_wp2_with fail
  go_loopw [13] (fun i wr => ∃ k : Nat, k ≤ n ∧ i = .int .i64 k ∧ Below w.heap.size w wr) (fun i _ => n - (intOf i).toNat)
  case atStart => exact ⟨0, Nat.zero_le _, rfl, Below.refl _ _⟩
  case round =>
    obtain ⟨k, hk, rfl, hB⟩ := hrel
    by_cases hlt : k < n
    · obtain ⟨x, hx⟩ : ∃ x, l[k]? = some x := ⟨_, List.getElem?_eq_getElem (by rw [← HN.out]; exact hlt)⟩
      obtain ⟨b, off, rfl, c0, c1, c2, c3⟩ := (HS.out.below hB) k x hx
      obtain ⟨b', off', rfl, d0, d1, d2, d3⟩ := (HS'.out.below hB) k x hx
      have l1 : (x.id.toList == x.id.toList) = true := by simp
      have j1 : (0 : Int) ≤ (k : Int) := by omega
      have j2 : (k : Int) < (n : Int) := by omega
      clear hx
      go_wp2_with fail
      go_quiet (fail)
      go_wp2_with fail
      go_roundw
      case rel => exact ⟨k + 1, by omega, by go_num, hB.trans ((drewn_below wr _).mono hB.size)⟩
      case measure => simp [intOf]; omega
    · go_wp2_with fail
      go_ret
      exact ⟨rfl, hB⟩
end Go.Proofs.YteimdhkajbldjaaGreat
namespace Go.Proofs.YteimdhkajbldjaaGreat
open Go.RowKit Go.Sort

/-- what Do leaves, told in the law's own words -/
def DoIs (S p q : Nat) (F : Nat → Prop) (T : ToldL) (X' : SrvX) (w : World) (e : Ending) (w' : World) : Prop :=
  ∃ (P : ToldP) (q' : Nat), e = .returned (.agg #[.int .i64 T.code, .slice P.va T.vs.length P.vc, .slice P.ia T.ids.length P.ic, .slice P.na T.ns.length P.nc]) ∧ NewTold w.heap.size w' T P ∧ Srv w' S p q' F X' ∧ (q' = q ∨ w.heap.size ≤ q') ∧ Kept (Off p q) w w'
theorem do_to {S p q : Nat} {F : Nat → Prop} {X X' : SrvX} {T : ToldL} (o : OpL) (P : OpP) (w : World) (h : Srv w S p q F X) (hF : ∀ z, F z → z < w.heap.size) (hi : o.in_ P w) (hT : doT X o = T) (hX : doX X o = X') :
    Calls Tryz.prog 16 #[ptr p, o.v P] w (DoIs S p q F T X' w) := by
  subst hT hX
  exact do_is o P w h hF hi
theorem doT_1 {X : SrvX} {o : OpL} (h : o.kind = 1) : doT X o = ⟨rulesErr o.n o.rs, [], [], []⟩ := by unfold doT; rw [if_pos h]
theorem doX_1 {X : SrvX} {o : OpL} (h : o.kind = 1) : doX X o = setS X o.n o.rs := by unfold doX; rw [if_pos h]
theorem doT_2 {X : SrvX} {o : OpL} (h : o.kind = 2) : doT X o = ⟨putC X o.who o.r, [], [], []⟩ := by unfold doT; rw [if_neg (by rw [h]; decide), if_pos h]
theorem doX_2 {X : SrvX} {o : OpL} (h : o.kind = 2) : doX X o = putS X o.who o.r := by unfold doX; rw [if_neg (by rw [h]; decide), if_pos h]
theorem doT_3 {X : SrvX} {o : OpL} (h : o.kind = 3) : doT X o = ⟨cutC X o.who o.id o.r.cats, [], [], []⟩ := by unfold doT; rw [if_neg (by rw [h]; decide), if_neg (by rw [h]; decide), if_pos h]
theorem doX_3 {X : SrvX} {o : OpL} (h : o.kind = 3) : doX X o = cutS X o.who o.id o.r.cats := by unfold doX; rw [if_neg (by rw [h]; decide), if_neg (by rw [h]; decide), if_pos h]
theorem doT_4 {X : SrvX} {o : OpL} (h : o.kind = 4) : doT X o = ⟨getC X o.who o.id, getT X o.who o.id, [], []⟩ := by unfold doT; rw [if_neg (by rw [h]; decide), if_neg (by rw [h]; decide), if_neg (by rw [h]; decide), if_pos h]
theorem doX_4 {X : SrvX} {o : OpL} (h : o.kind = 4) : doX X o = X := by unfold doX; rw [if_neg (by rw [h]; decide), if_neg (by rw [h]; decide), if_neg (by rw [h]; decide), if_neg (by rw [h]; decide)]
theorem doT_5 {X : SrvX} {o : OpL} (h : o.kind = 5) : doT X o = ⟨findC X o.who o.f, [], findT X o.who o.f, []⟩ := by unfold doT; rw [if_neg (by rw [h]; decide), if_neg (by rw [h]; decide), if_neg (by rw [h]; decide), if_neg (by rw [h]; decide), if_pos h]
theorem doX_5 {X : SrvX} {o : OpL} (h : o.kind = 5) : doX X o = X := by unfold doX; rw [if_neg (by rw [h]; decide), if_neg (by rw [h]; decide), if_neg (by rw [h]; decide), if_neg (by rw [h]; decide)]
theorem doT_6 {X : SrvX} {o : OpL} (h : o.kind = 6) : doT X o = ⟨histC X o.who o.id, histT X o.who o.id, [], []⟩ := by unfold doT; rw [if_neg (by rw [h]; decide), if_neg (by rw [h]; decide), if_neg (by rw [h]; decide), if_neg (by rw [h]; decide), if_neg (by rw [h]; decide), if_pos h]
theorem doX_6 {X : SrvX} {o : OpL} (h : o.kind = 6) : doX X o = X := by unfold doX; rw [if_neg (by rw [h]; decide), if_neg (by rw [h]; decide), if_neg (by rw [h]; decide), if_neg (by rw [h]; decide)]
theorem doT_7 {X : SrvX} {o : OpL} (h : o.kind = 7) : doT X o = ⟨needC X o.who o.id, needT X o.who o.id, [], []⟩ := by unfold doT; rw [if_neg (by rw [h]; decide), if_neg (by rw [h]; decide), if_neg (by rw [h]; decide), if_neg (by rw [h]; decide), if_neg (by rw [h]; decide), if_neg (by rw [h]; decide), if_pos h]
theorem doX_7 {X : SrvX} {o : OpL} (h : o.kind = 7) : doX X o = needS X o.who o.id := by unfold doX; rw [if_neg (by rw [h]; decide), if_neg (by rw [h]; decide), if_neg (by rw [h]; decide), if_pos h]
theorem doT_8 {X : SrvX} {o : OpL} (h : o.kind = 8) : doT X o = ⟨chkE X o.who 255, [], [], auditT X o.who⟩ := by unfold doT; rw [if_neg (by rw [h]; decide), if_neg (by rw [h]; decide), if_neg (by rw [h]; decide), if_neg (by rw [h]; decide), if_neg (by rw [h]; decide), if_neg (by rw [h]; decide), if_neg (by rw [h]; decide), if_pos h]
theorem doX_8 {X : SrvX} {o : OpL} (h : o.kind = 8) : doX X o = X := by unfold doX; rw [if_neg (by rw [h]; decide), if_neg (by rw [h]; decide), if_neg (by rw [h]; decide), if_neg (by rw [h]; decide)]
def allR : Nat → RuleL := fun _ => ⟨0, -1, 0, 9, 255, true⟩
def recQ : RecL := ⟨⟨#[97]⟩, 3, [], []⟩
theorem recQ_ok : recQ.Ok := RecL.okBare (by decide) ⟨by decide, by decide⟩
def opAll : OpL := ⟨1, ⟨0, 0, 0⟩, 1, allR, RecL.zero, ⟨#[]⟩, ⟨⟨#[]⟩, ⟨#[]⟩⟩⟩
def opPut : OpL := ⟨2, ⟨0, 0, 0⟩, 0, allR, recQ, ⟨#[]⟩, ⟨⟨#[]⟩, ⟨#[]⟩⟩⟩
def opGet : OpL := ⟨4, ⟨0, 0, 0⟩, 0, allR, RecL.zero, ⟨#[97]⟩, ⟨⟨#[]⟩, ⟨#[]⟩⟩⟩
def begX : SrvX := ⟨1, fun k => k, 1, allR, [], []⟩
def begY : SrvX := ⟨1, fun k => k, 1, allR, [⟨recQ, false⟩], []⟩
theorem beg_all : doT (bareX 1 fun k => k) opAll = ⟨0, [], [], []⟩ ∧ doX (bareX 1 fun k => k) opAll = begX := by
  have h : rulesErr 1 allR = 0 := by decide
  constructor
  · rw [doT_1 rfl]
    show (⟨rulesErr 1 allR, [], [], []⟩ : ToldL) = _
    rw [h]
  · rw [doX_1 rfl]
    show setS _ 1 allR = _
    unfold setS
    rw [if_pos h]
    rfl
theorem beg_chk : chkE begX ⟨0, 0, 0⟩ 3 = 0 := by decide +kernel
theorem beg_st : stErr [] = 0 := stErr_ok.2 ⟨by simp, stOk_nil⟩
theorem beg_putC : putC begX ⟨0, 0, 0⟩ recQ = 0 := by
  rw [putC_put (recQ.err_ok.2 recQ_ok) beg_chk]
  exact putErr_ok.2 ⟨beg_st, recQ_ok, by show same [] _ < 20; rw [same_nil]; omega⟩
theorem beg_put : doT begX opPut = ⟨0, [], [], []⟩ ∧ doX begX opPut = begY := by
  constructor
  · rw [doT_2 rfl]
    show (⟨putC begX ⟨0, 0, 0⟩ recQ, [], [], []⟩ : ToldL) = _
    rw [beg_putC]
  · rw [doX_2 rfl]
    show putS begX ⟨0, 0, 0⟩ recQ = _
    rw [putS_yes beg_putC]
    rfl
theorem beg_seE : seE begY ⟨0, 0, 0⟩ = 0 := by decide +kernel
theorem beg_seV : seV begY ⟨0, 0, 0⟩ = 255 := by decide +kernel
theorem begY_st : stErr begY.vs = 0 := by
  have := (bareX_ok (m := 1) (u := fun k => k) (by decide)).doX opAll
  rw [beg_all.2] at this
  have h2 := this.doX opPut
  rw [beg_put.2] at h2
  exact h2.st
theorem beg_seen : seenL begY ⟨0, 0, 0⟩ = [⟨recQ, false⟩] := by
  unfold seenL
  rw [beg_seV]
  exact prt_whole begY_st
theorem beg_getC : getC begY ⟨0, 0, 0⟩ ⟨#[97]⟩ = 0 ∧ getT begY ⟨0, 0, 0⟩ ⟨#[97]⟩ = [⟨recQ, false⟩] := by
  have hg := get_some (l := [⟨recQ, false⟩]) (id := ⟨#[97]⟩) begY_st (getV_put [] recQ)
  have e : getC begY ⟨0, 0, 0⟩ ⟨#[97]⟩ = 0 := by
    unfold getC
    rw [if_neg (fun k => k beg_seE), beg_seen]
    exact hg.1
  refine ⟨e, ?_⟩
  unfold getT
  rw [if_pos e, beg_seen, hg.2]
theorem beg_get : doT begY opGet = ⟨0, [⟨recQ, false⟩], [], []⟩ ∧ doX begY opGet = begY := by
  constructor
  · rw [doT_4 rfl]
    show (⟨getC begY ⟨0, 0, 0⟩ ⟨#[97]⟩, getT begY ⟨0, 0, 0⟩ ⟨#[97]⟩, [], []⟩ : ToldL) = _
    rw [beg_getC.1, beg_getC.2]
  · rw [doX_4 rfl]

theorem SlR.none (w : World) (rs : Nat → RuleL) : SlR w Option.none 0 rs := fun k hk => absurd hk (Nat.not_lt_zero k)
theorem zero_ok (w : World) : RecL.zero.in_ At.none w := ⟨SlF.nil _ _, SlS.nil _ _, Nat.le_refl _, Nat.le_refl _, Nat.zero_le _, Nat.zero_le _⟩
theorem zero_sh : RecL.zero.short := ⟨by show 0 ≤ maxLen; exact Nat.zero_le _, fun f h => absurd h (by simp [RecL.zero]), fun f h => absurd h (by simp [RecL.zero])⟩
theorem bare_in (w : World) (r : RecL) (h1 : r.fs = []) (h2 : r.rs = []) : r.in_ At.none w := by
  obtain ⟨id, c, fs, rs⟩ := r
  simp only at h1 h2
  subst h1 h2
  exact ⟨SlF.nil _ _, SlS.nil _ _, Nat.le_refl _, Nat.le_refl _, Nat.zero_le _, Nat.zero_le _⟩
theorem str0_sh : (⟨⟨#[]⟩, ⟨#[]⟩⟩ : FieldL).short := ⟨Nat.zero_le _, Nat.zero_le _⟩

abbrev zOp (k : Int) (rv : Value) (rid : ByteArray) (rc : Int) (id : ByteArray) : Array Value := #[.int .i64 k, .int .i64 0, .int .i64 0, .int .i64 0, rv, .string rid, .int .i64 rc, .slice none 0 0, .slice none 0 0, .string id, .string ⟨#[]⟩, .string ⟨#[]⟩]

set_option maxHeartbeats 8000000 in
theorem srvBegun_is (w : World) : Calls Tryz.prog 11 #[] w fun e w' => e = .returned (.bool true) ∧ Below w.heap.size w w' := by
  obtain ⟨W, hW⟩ : ∃ W, W = w.alloc (.cells #[.int .i64 0] 3) := ⟨_, rfl⟩
  have hA : Below w.heap.size w W := by rw [hW]; exact (Below.refl _ _).alloc (Nat.le_refl _) _
  have hl := slv_lit1 (w := W) (b := w.heap.size) (by rw [hW]; simp [go_sem])
  have hr0 := run_told0
  have hr1 := run_told1
  have HC := Lib.hid (new_of (fun _ => False) _ 1 1 _ W (fun z hz => hz.elim) hl (by decide))
  have HA := Lib.hid hA
  have HW := Lib.hid hW
  rw [hW] at HC
  clear hA hl hW
  go_enter Tryz.func11, Tryz.ntmps11
  go_wp2_with fail
  refine HC.out.mono ?_
  rintro e w1 ⟨p, rfl, hs, hb⟩
  rw [← HW.out] at hs hb
  have HS := Lib.hid hs
  have hb1 := HA.out.trans (hb.mono HA.out.size)
  have hsp : w.heap.size ≤ p := Nat.le_trans HA.out.size hs.sp
  have hp1 : p < w1.heap.size := hs.pw
  have HB1 := Lib.hid hb1
  obtain ⟨W5, hW5⟩ : ∃ W5, W5 = (((w1.alloc (.cells #[.int .i64 0, .int .i64 (-1), .int .i64 0, .int .i64 9, .int .i64 255, .bool true] 59)).alloc (.cells (zOp 1 (.slice (some ⟨w1.heap.size, 0, none⟩) 1 1) ⟨#[]⟩ 0 ⟨#[]⟩) 39)).alloc (.cells (zOp 2 (.slice none 0 0) ⟨#[97]⟩ 3 ⟨#[]⟩) 39)).alloc (.cells (zOp 4 (.slice none 0 0) ⟨#[]⟩ 0 ⟨#[97]⟩) 39) := ⟨_, rfl⟩
  have hA5 : Below w1.heap.size w1 W5 := by rw [hW5]; exact ((((Below.refl _ _).alloc (Nat.le_refl _) _).alloc (by simp) _).alloc (by simp; omega) _).alloc (by simp; omega) _
  have s5 : W5.heap.size = w1.heap.size + 4 := by rw [hW5]; simp
  have hr5 : SlR W5 (some ⟨w1.heap.size, 0, none⟩) 1 allR := fun k hk => by
    obtain rfl : k = 0 := by omega
    refine ⟨w1.heap.size, 0, rfl, ?_⟩
    rw [hW5]
    constructor
    · simp [go_sem, allR]
    · refine ⟨?_, ?_, ?_, ?_, ?_⟩ <;> simp [go_sem, allR]
  have b4 : OpAt W5 (w1.heap.size + 2) 0 ⟨opPut, ⟨none, 0, At.none⟩⟩ := by rw [hW5]; constructor <;> simp [go_sem, zOp, opPut, recQ, At.none]
  have b5 : OpAt W5 (w1.heap.size + 3) 0 ⟨opGet, ⟨none, 0, At.none⟩⟩ := by rw [hW5]; constructor <;> simp [go_sem, zOp, opGet, RecL.zero, At.none]
  have HD1 := Lib.hid (do_to opAll ⟨some ⟨w1.heap.size, 0, none⟩, 1, At.none⟩ W5 (hs.below hA5) (fun z hz => hz.elim) ⟨hr5, Nat.le_refl _, by show 1 ≤ maxLen; unfold maxLen; omega, zero_ok _, zero_sh, str0_sh⟩ beg_all.1 beg_all.2)
  have HB4 := Lib.hid b4
  have HB5 := Lib.hid b5
  have HA5 := Lib.hid hA5
  have HS5 := Lib.hid s5
  have HW5 := Lib.hid hW5
  have HSP := Lib.hid hsp
  have HP1 := Lib.hid hp1
  rw [hW5] at HD1
  clear hs hb hb1 HC hW5 hA5 s5 hr5 b4 b5 hsp hp1
  go_wp2_with fail
  refine HD1.out.mono ?_
  rintro e w6 ⟨P, q1, rfl, _, hs6, hq1, hk6⟩
  rw [← HW5.out] at hk6 hq1
  have hne2 : Off p p (w1.heap.size + 2) := by have := HP1.out; constructor <;> omega
  have hne3 : Off p p (w1.heap.size + 3) := by have := HP1.out; constructor <;> omega
  have b4 := HB4.out.kept hk6 hne2
  have b5 := HB5.out.kept hk6 hne3
  have hbw6 : Below w.heap.size w w6 := (HB1.out.trans (HA5.out.mono HB1.out.size)).trans (hk6.to (fun z hz => by have := HSP.out; constructor <;> omega) (Nat.le_trans HB1.out.size HA5.out.size))
  have HD2 := Lib.hid (do_to opPut ⟨none, 0, At.none⟩ w6 hs6 (fun z hz => hz.elim) ⟨SlR.none _ _, Nat.le_refl _, Nat.zero_le _, bare_in _ _ rfl rfl, recQ_ok.short, str0_sh⟩ beg_put.1 beg_put.2)
  obtain ⟨c0, c1, c2, c3, c4, c5, c6, c7, c8, c9, c10, c11⟩ := b4
  simp only [Nat.zero_add] at c0 c1 c2 c3 c4 c5 c6 c7 c8 c9 c10 c11
  have HB6 := Lib.hid b5
  have HBW6 := Lib.hid hbw6
  have HQ1 := Lib.hid hq1
  have HS6 := Lib.hid hs6
  clear hs6 hk6 hq1 b5 hbw6 HD1 hne2 hne3
  go_wp2_with fail
  refine HD2.out.mono ?_
  rintro e w7 ⟨P2, q2, rfl, _, hs7, hq2, hk7⟩
  have h5s := HS5.out
  have h5l := HA5.out.size
  have hw6s := HS6.out.pw
  have hp1s := HP1.out
  have hq1o := HQ1.out
  have hq1s : w1.heap.size + 4 ≤ w6.heap.size := by
    have := HB6.out.c0
    have := cell_lt this
    omega
  have hne3 : Off p q1 (w1.heap.size + 3) := by constructor <;> omega
  have b5 := HB6.out.kept hk7 hne3
  have hsq1 : w.heap.size ≤ q1 := by have := HSP.out; have := HB1.out.size; omega
  have hbw7 : Below w.heap.size w w7 := HBW6.out.trans (hk7.to (fun z hz => by have := HSP.out; constructor <;> omega) HBW6.out.size)
  have HD3 := Lib.hid (do_to opGet ⟨none, 0, At.none⟩ w7 hs7 (fun z hz => hz.elim) ⟨SlR.none _ _, Nat.le_refl _, Nat.zero_le _, zero_ok _, zero_sh, str0_sh⟩ beg_get.1 beg_get.2)
  have HBW7 := Lib.hid hbw7
  have HSQ2 : Hid (w.heap.size ≤ q2) := by show w.heap.size ≤ q2; have := HBW6.out.size; omega
  have HSPP := Lib.hid HSP.out
  clear c0 c1 c2 c3 c4 c5 c6 c7 c8 c9 c10 c11
  obtain ⟨c0, c1, c2, c3, c4, c5, c6, c7, c8, c9, c10, c11⟩ := b5
  simp only [Nat.zero_add] at c0 c1 c2 c3 c4 c5 c6 c7 c8 c9 c10 c11
  clear hs7 hk7 hq2 hbw7 HD2 hne3 h5s h5l hw6s hp1s hq1o hq1s hsq1
  go_wp2_with fail
  refine HD3.out.mono ?_
  rintro e w8 ⟨P3, q3, rfl, _, hs8, hq3, hk8⟩
  have HBW8 := Lib.hid (HBW7.out.trans (hk8.to (fun z hz => by have := HSPP.out; have := HSQ2.out; constructor <;> omega) HBW7.out.size))
  clear hs8 hk8 hq3 HD3 c0 c1 c2 c3 c4 c5 c6 c7 c8 c9 c10 c11
  go_wp2_with fail
  go_ret
  exact ⟨rfl, HBW8.out⟩
end Go.Proofs.YteimdhkajbldjaaGreat
namespace Go.Proofs.YteimdhkajbldjaaGreat
open Go.RowKit Go.Sort

/-- block p is a server that has X; since the world w3 nothing but that block, and what is new, has changed -/
def LpS (S p : Nat) (w3 : World) (X : SrvX) (w : World) : Prop := ∃ q, Srv w S p q (fun _ => False) X ∧ (q = p ∨ w3.heap.size ≤ q) ∧ Kept (fun z => z ≠ p) w3 w
theorem LpS.ok {S p : Nat} {w3 w : World} {X : SrvX} (h : LpS S p w3 X w) : X.Ok := by
  obtain ⟨q, h, _⟩ := h
  exact h.ok
theorem LpS.start {S p : Nat} {w3 : World} {X : SrvX} (h : Srv w3 S p p (fun _ => False) X) : LpS S p w3 X w3 := ⟨p, h, .inl rfl, Kept.refl _ _⟩
theorem LpS.below {S p : Nat} {w3 w w' : World} {X : SrvX} (h : LpS S p w3 X w) (hb : Below w.heap.size w w') : LpS S p w3 X w' := by
  obtain ⟨q, h1, h2, h3⟩ := h
  exact ⟨q, h1.below hb, h2, h3.trans (Kept.of hb)⟩
theorem LpS.far {S p : Nat} {w3 w : World} {X : SrvX} (h : LpS S p w3 X w) (hS : S ≤ w3.heap.size) : Below S w3 w := by
  obtain ⟨q, h1, h2, h3⟩ := h
  exact h3.to (fun z hz => by have := h1.sp; omega) hS
theorem LpS.kept {S p : Nat} {w3 w : World} {X : SrvX} (h : LpS S p w3 X w) : Kept (fun z => z ≠ p) w3 w := by
  obtain ⟨q, h1, h2, h3⟩ := h
  exact h3
/-- what Do leaves: W is the world in which it is called -/
def LpIs (S p : Nat) (w3 : World) (T : ToldL) (X' : SrvX) (w : World) (e : Ending) (w' : World) : Prop :=
  ∃ P : ToldP, e = .returned (.agg #[.int .i64 T.code, .slice P.va T.vs.length P.vc, .slice P.ia T.ids.length P.ic, .slice P.na T.ns.length P.nc]) ∧ NewTold w.heap.size w' T P ∧ LpS S p w3 X' w'
theorem LpS.doing {S p : Nat} {w3 w : World} {X X' : SrvX} {T : ToldL} (h : LpS S p w3 X w) (o : OpL) (P : OpP) (hi : o.in_ P w) (hT : doT X o = T) (hX : doX X o = X') :
    Calls Tryz.prog 16 #[ptr p, o.v P] w (LpIs S p w3 T X' w) := by
  obtain ⟨q, h1, h2, h3⟩ := h
  refine (do_to o P w h1 (fun z hz => hz.elim) hi hT hX).mono ?_
  rintro e w' ⟨P', q', rfl, hn, hs, hq, hk⟩
  have hsz := h3.size
  have k3 : Kept (fun z => z ≠ p ∧ z < w3.heap.size) w3 w' := (h3.sub fun z _ hz => hz.1).trans (hk.sub fun z _ hz => ⟨hz.1, fun e => by
    rcases h2 with e2 | e2
    · exact hz.1 (e.trans e2)
    · omega⟩)
  refine ⟨P', rfl, hn, q', hs, ?_, k3.sub fun z hl hz => ⟨hz, hl⟩⟩
  rcases hq with e | e
  · rw [e]; exact h2
  · exact .inr (by omega)
/-- .. and all else of that world but the server's own -/
def LpIsK (S p q : Nat) (w3 : World) (T : ToldL) (X' : SrvX) (w : World) (e : Ending) (w' : World) : Prop :=
  ∃ P : ToldP, e = .returned (.agg #[.int .i64 T.code, .slice P.va T.vs.length P.vc, .slice P.ia T.ids.length P.ic, .slice P.na T.ns.length P.nc]) ∧ NewTold w.heap.size w' T P ∧ LpS S p w3 X' w' ∧ Kept (Off p q) w w'
theorem LpS.own {S p : Nat} {w3 w : World} {X : SrvX} (h : LpS S p w3 X w) : ∃ q, q < w.heap.size ∧ S ≤ q ∧ (q = p ∨ w3.heap.size ≤ q) ∧ ∀ (w4 : World) (X' : SrvX) (T : ToldL) (o : OpL) (P : OpP), Below w.heap.size w w4 → o.in_ P w4 → doT X o = T → doX X o = X' →
    Calls Tryz.prog 16 #[ptr p, o.v P] w4 (LpIsK S p q w3 T X' w4) := by
  obtain ⟨q, h1, h2, h3⟩ := h
  refine ⟨q, h1.qw, h1.sq, h2, fun w4 X' T o P hb hi hT hX => ?_⟩
  refine (do_to o P w4 (h1.below hb) (fun z hz => hz.elim) hi hT hX).mono ?_
  rintro e w' ⟨P', q', rfl, hn, hs, hq, hk⟩
  have h3' := h3.trans (Kept.of hb)
  have hsz := h3'.size
  have k3 : Kept (fun z => z ≠ p ∧ z < w3.heap.size) w3 w' := (h3'.sub fun z _ hz => hz.1).trans (hk.sub fun z _ hz => ⟨hz.1, fun e => by
    rcases h2 with e2 | e2
    · exact hz.1 (e.trans e2)
    · omega⟩)
  refine ⟨P', rfl, hn, ⟨q', hs, ?_, k3.sub fun z hl hz => ⟨hz, hl⟩⟩, hk⟩
  rcases hq with e | e
  · rw [e]; exact h2
  · exact .inr (by omega)
theorem LpS.versions {S p : Nat} {w3 w : World} {X : SrvX} {L : List VerL} (h : LpS S p w3 X w) (hL : X.vs = L) : Calls Tryz.prog 18 #[ptr p] w (VersTo L w) := by
  obtain ⟨q, h1, _⟩ := h
  exact versions_of w h1 hL
theorem LpS.rules {S p n : Nat} {w3 w : World} {X : SrvX} (h : LpS S p w3 X w) (hn : X.n = n) : Calls Tryz.prog 15 #[ptr p] w (RulesTo n X.rs w) := by
  obtain ⟨q, h1, _⟩ := h
  exact rules_of w h1 hn

/-- P36: what is answered with an error changes nothing, and tells nothing -/
theorem wrong_math {X : SrvX} {o : OpL} (h : (doT X o).code ≠ 0) : doX X o = X ∧ (doT X o).vs = [] ∧ (doT X o).ids = [] ∧ (doT X o).ns = [] := by
  by_cases h1 : o.kind = 1
  · rw [doT_1 h1] at h ⊢
    rw [doX_1 h1]
    exact ⟨by unfold setS; rw [if_neg h], rfl, rfl, rfl⟩
  by_cases h2 : o.kind = 2
  · rw [doT_2 h2] at h ⊢
    rw [doX_2 h2]
    exact ⟨putS_no h, rfl, rfl, rfl⟩
  by_cases h3 : o.kind = 3
  · rw [doT_3 h3] at h ⊢
    rw [doX_3 h3]
    exact ⟨cutS_no h, rfl, rfl, rfl⟩
  by_cases h4 : o.kind = 4
  · rw [doT_4 h4] at h ⊢
    rw [doX_4 h4]
    exact ⟨rfl, by unfold getT; rw [if_neg h], rfl, rfl⟩
  by_cases h5 : o.kind = 5
  · rw [doT_5 h5] at h ⊢
    rw [doX_5 h5]
    exact ⟨rfl, rfl, by unfold findT; rw [if_neg h], rfl⟩
  by_cases h6 : o.kind = 6
  · rw [doT_6 h6] at h ⊢
    rw [doX_6 h6]
    exact ⟨rfl, by unfold histT; rw [if_neg h], rfl, rfl⟩
  by_cases h7 : o.kind = 7
  · rw [doT_7 h7] at h ⊢
    rw [doX_7 h7]
    exact ⟨needS_no h, needT_no h, rfl, rfl⟩
  by_cases h8 : o.kind = 8
  · rw [doT_8 h8] at h ⊢
    rw [doX_8 h8]
    exact ⟨rfl, rfl, rfl, by unfold auditT; rw [if_neg h]⟩
  · unfold doX doT
    simp only [if_neg h1, if_neg h2, if_neg h3, if_neg h4, if_neg h5, if_neg h6, if_neg h7, if_neg h8]
    exact ⟨trivial, trivial, trivial, trivial⟩
end Go.Proofs.YteimdhkajbldjaaGreat
