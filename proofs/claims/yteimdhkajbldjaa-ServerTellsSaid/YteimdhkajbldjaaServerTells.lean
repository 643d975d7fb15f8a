/- ServerTells' walk. -/
import Derived.Test.YteimdhkajbldjaaSrvB
import Derived.Test.YteimdhkajbldjaaVAsk
import Derived.Test.YteimdhkajbldjaaFAll
import Derived.Deep.CutRange
import Derived.Deep.RegionHeld3
import Derived.Lib.QuietBelow
import Derived.BigQuiet
import Derived.Deep.QuietTactic
set_option linter.unusedVariables false
set_option linter.unusedSimpArgs false
set_option maxRecDepth 100000
namespace Go.Proofs.Yteimdhkajbldjaa
open Go.RowKit Go.Sort

theorem doX_mu (X : SrvX) (o : OpL) : (doX X o).m = X.m ∧ (doX X o).u = X.u := by
  unfold doX setS putS cutS needS
  split
  · split <;> exact ⟨rfl, rfl⟩
  · split
    · split <;> exact ⟨rfl, rfl⟩
    · split
      · split <;> exact ⟨rfl, rfl⟩
      · split
        · split <;> exact ⟨rfl, rfl⟩
        · exact ⟨rfl, rfl⟩
theorem ask_seE {X : SrvX} (h : X.Ok) (hm : X.m = 3) {x : WhoL} (hx : x.ok) (h3 : x.role < 3) : seE X x = 0 := seesE_ok (askE_ok h.roles h.rules hx) (by rw [hm]; omega)
theorem AskOk.who {o : OpL} (h : AskOk o) : o.who.ok ∧ o.who.role < 3 := ⟨⟨⟨h.r0, by have := h.r3; omega⟩, ⟨h.y0, by have := h.y2; omega⟩, ⟨h.t0, by have := h.t40; omega⟩⟩, h.r3⟩
/-- what rule.Sees answers at roles that stand in a literal -/
theorem sees_of {X : SrvX} {sv : Nat} {n : Nat} (hok : X.Ok) (hm : X.m = 3) (hu : X.u = fun k => k) (hn : X.n = n) {x : WhoL} (hx : x.ok) (h3 : x.role < 3) (hsv : seV X x = sv) (g : Nat) (A : Option Addr) (c : Nat) (w : World) (h0 : w.cell? ⟨g, 0, none⟩ = some (.int .i64 0)) (h1 : w.cell? ⟨g, 1, none⟩ = some (.int .i64 1)) (h2 : w.cell? ⟨g, 2, none⟩ = some (.int .i64 2)) (hs : SlR w A n X.rs) :
    Calls Try.prog 12 #[.slice (some ⟨g, 0, none⟩) 3 3, .slice A n c, .agg #[.int .i64 x.role, .int .i64 x.why, .int .i64 x.time]] w fun e w' => e = .returned (.tuple #[.int .i64 (sv : Int), .int .i64 0]) ∧ Below w.heap.size w w' := by
  have := sees_any (some ⟨g, 0, none⟩) 3 3 (fun k => ((k : Nat) : Int)) A n c X.rs x w (slv_lit3 h0 h1 h2).1 (by unfold maxLen; omega) hs (by have := rules_le hok; omega)
  have e1 : seesV 3 (fun k => ((k : Nat) : Int)) n X.rs x = sv := by rw [← hsv, ← hn, ← hm]; unfold seV SrvX.zi; rw [hu]
  have e2 : seesE 3 (fun k => ((k : Nat) : Int)) n X.rs x = 0 := by
    have := ask_seE hok hm hx h3
    unfold seE SrvX.zi at this
    rw [hu, hm, hn] at this
    exact this
  rw [e1, e2] at this
  exact this
theorem chk_sub {X : SrvX} {x : WhoL} {c : Int} (h : chkE X x c = 0) : sub c.toNat (seV X x) = 0 ∧ 0 ≤ c ∧ c ≤ 255 := by
  unfold chkE at h
  split at h
  · contradiction
  · rename_i h0
    split at h
    · rename_i h1
      unfold maV mayV at h1
      rw [Bool.and_eq_true, decide_eq_true_eq, decide_eq_true_eq] at h1
      refine ⟨h1.2, ?_⟩
      have h2 := h1.1
      unfold mayE at h2
      split at h2
      · contradiction
      · split at h2
        · assumption
        · cases h2
    · cases h

theorem sub_255 {s : Nat} (hs : s ≤ 255) (h : sub 255 s = 0) : s = 255 := by
  have H : ∀ t : Fin 256, sub 255 t.val = 0 → t.val = 255 := by decide +kernel
  exact H ⟨s, by omega⟩ h
theorem seen_in {X : SrvX} {x : WhoL} {v : VerL} (h : v ∈ seenL X x) : v ∈ X.vs ∧ among v.r.cats (seV X x : Int) = true := by
  unfold seenL prt at h
  rw [List.mem_filter] at h
  exact h
/-- P39, P40: what is told -/
theorem tells_math {X : SrvX} {o : OpL} (hok : X.Ok) (h7 : o.kind ≠ 7) :
    (∀ v ∈ (doT X o).vs, among v.r.cats (seV X o.who : Int) = true ∧ 0 ≤ v.r.cats ∧ v.r.cats ≤ 255) ∧
    (∀ id ∈ (doT X o).ids, ∃ v, getV (seenL X o.who) id = some v ∧ o.f ∈ v.r.fs) ∧
    ((doT X o).ns = [] ∨ seV X o.who = 255) := by
  have hver : ∀ v ∈ seenL X o.who, among v.r.cats (seV X o.who : Int) = true ∧ 0 ≤ v.r.cats ∧ v.r.cats ≤ 255 := fun v hv => by
    obtain ⟨h1, h2⟩ := seen_in hv
    have h3 := (stErr_ok.1 hok.st).2.ver v h1
    exact ⟨h2, h3.c0, h3.c1⟩
  have none : ∀ (c : Int), doT X o = ⟨c, [], [], []⟩ → (∀ v ∈ (doT X o).vs, among v.r.cats (seV X o.who : Int) = true ∧ 0 ≤ v.r.cats ∧ v.r.cats ≤ 255) ∧ (∀ id ∈ (doT X o).ids, ∃ v, getV (seenL X o.who) id = some v ∧ o.f ∈ v.r.fs) ∧ ((doT X o).ns = [] ∨ seV X o.who = 255) := fun c h => by
    rw [h]
    exact ⟨fun v hv => by simp at hv, fun v hv => by simp at hv, .inl rfl⟩
  have hst : stErr (seenL X o.who) = 0 := prt_st hok.st _
  by_cases h1 : o.kind = 1
  · exact none _ (doT_1 h1)
  by_cases h2 : o.kind = 2
  · exact none _ (doT_2 h2)
  by_cases h3 : o.kind = 3
  · exact none _ (doT_3 h3)
  by_cases h4 : o.kind = 4
  · rw [doT_4 h4]
    refine ⟨fun v hv => ?_, fun v hv => by simp at hv, .inl rfl⟩
    have hv' : v ∈ getT X o.who o.id := hv
    unfold getT at hv'
    split at hv'
    · rename_i hg
      have hg2 : getErr (seenL X o.who) o.id = 0 := by
        unfold getC at hg
        split at hg
        · contradiction
        · exact hg
      cases hv2 : getV (seenL X o.who) o.id with
      | none =>
        rw [(get_none hst hv2).1] at hg2
        cases hg2
      | some u =>
        rw [(get_some hst hv2).2] at hv'
        simp only [List.mem_singleton] at hv'
        subst hv'
        exact hver u (getV_some hv2).1
    · simp at hv'
  by_cases h5 : o.kind = 5
  · rw [doT_5 h5]
    refine ⟨fun v hv => by simp at hv, fun id hv => ?_, .inl rfl⟩
    have hv' : id ∈ findT X o.who o.f := hv
    unfold findT at hv'
    split at hv'
    · exact mem_byL.1 hv'
    · simp at hv'
  by_cases h6 : o.kind = 6
  · rw [doT_6 h6]
    refine ⟨fun v hv => ?_, fun v hv => by simp at hv, .inl rfl⟩
    have hv' : v ∈ histT X o.who o.id := hv
    unfold histT at hv'
    split at hv'
    · exact hver v (List.mem_filter.1 hv').1
    · simp at hv'
  by_cases h8 : o.kind = 8
  · rw [doT_8 h8]
    refine ⟨fun v hv => by simp at hv, fun v hv => by simp at hv, ?_⟩
    show auditT X o.who = [] ∨ _
    unfold auditT
    split
    · rename_i hc
      exact .inr (sub_255 (seV_le X o.who) (chk_sub hc).1)
    · exact .inl rfl
  · refine none 3 ?_
    unfold doT
    rw [if_neg h1, if_neg h2, if_neg h3, if_neg h4, if_neg h5, if_neg h6, if_neg h7, if_neg h8]

set_option maxHeartbeats 8000000 in
theorem serverTells_walk (a : Option Addr) (c : Nat) (g : List RowI) (w : World) (hs : SlG w a g) (hl : g.length ≤ c) (hm : c ≤ maxLen) :
    Calls Try.prog 3 #[.slice a g.length c] w fun e w' => e = .returned (.bool true) ∧ Below w.heap.size w w' := by
  obtain ⟨gl, hgl⟩ : ∃ gl, g.length = gl := ⟨_, rfl⟩
  have HS := Lib.hid hs
  have HL := Lib.hid hl
  have HM := Lib.hid hm
  have HGL := Lib.hid hgl
  rw [hgl]
  clear hs hl hm hgl
  go_enter Try.func3, Try.ntmps3
  go_wp2_with fail
  refine (srvBegun_is _).mono ?_
  rintro e w1 ⟨rfl, hb1⟩
  have HB1 := Lib.hid hb1
  clear hb1
  go_wp2_with fail
  refine (ruled_is (fun _ => False) _ (fun z h => h.elim)).mono ?_
  rintro e w2 ⟨p, rfl, hs2, hb2⟩
  have hB2 := HB1.out.trans (hb2.mono HB1.out.size)
  have HASK := Lib.hid (asked_is a g c w2 (HS.out.below hB2) HL.out HM.out)
  rw [HGL.out] at HASK
  have HS2 := Lib.hid hs2
  have HB2 := Lib.hid hB2
  clear hs2 hb2 hB2
  go_wp2_with fail
  refine HASK.out.mono ?_
  rintro e w3 ⟨A, n, ca, l, rfl, hn30, hrow, hb3⟩
  have HROW := Lib.hid hrow
  have HS3 := Lib.hid (HS2.out.below hb3)
  have HPW : Hid (p < w2.heap.size) := HS2.out.pw
  have HB3 := Lib.hid (HB2.out.trans (hb3.mono HB2.out.size))
  clear hrow hb3 HASK HS2
  go_wp2_with fail
  go_loopw [28] (fun i wr => ∃ (k : Nat) (X : SrvX), k ≤ n ∧ i = .int .i64 k ∧ Hid (X.m = 3 ∧ X.u = fun k => k) ∧ Hid (LpS w1.heap.size p w3 X wr)) (fun i _ => n - (intOf i).toNat)
  case atStart => exact ⟨0, _, Nat.zero_le _, rfl, ⟨rfl, rfl⟩, LpS.start HS3.out⟩
  case round =>
    obtain ⟨k, X, hk, rfl, HMU, HLP⟩ := hrel
    by_cases hlt : k < n
    · have hrow := HROW.out.kept HLP.out.kept (fun b hb => by have := HPW.out; omega)
      obtain ⟨x, b, off, hx, rfl, hat, hin, hok⟩ := hrow.at hlt
      obtain ⟨c0, c1, c2, c3, c4, c5, c6, c7, c8, c9, c10, c11⟩ := hat
      obtain ⟨W1, hW1⟩ : ∃ W1, W1 = wr.alloc (.cells #[.int .i64 x.o.kind, .int .i64 x.o.who.role, .int .i64 x.o.who.why, .int .i64 x.o.who.time, .slice x.P.ra x.o.n x.P.rc, .string x.o.r.id, .int .i64 x.o.r.cats, .slice x.P.p.fa x.o.r.fs.length x.P.p.fc, .slice x.P.p.ra x.o.r.rs.length x.P.p.rc, .string x.o.id, .string x.o.f.key, .string x.o.f.val] 39) := ⟨_, rfl⟩
      have hA1 : Below wr.heap.size wr W1 := by rw [hW1]; exact (Below.refl _ _).alloc (Nat.le_refl _) _
      have hat1 : OpAt W1 wr.heap.size 0 x := by rw [hW1]; constructor <;> simp [go_sem]
      have hsz1 : W1.heap.size = wr.heap.size + 1 := by rw [hW1]; simp
      have HLP1 := Lib.hid (HLP.out.below hA1)
      have HIN := Lib.hid (hin.below hA1)
      have HAT := Lib.hid hat1
      have HASKO := Lib.hid hok
      have HW1 := Lib.hid hW1
      have HSZ1 := Lib.hid hsz1
      obtain ⟨rn, hrn⟩ : ∃ rn, X.n = rn := ⟨_, rfl⟩
      obtain ⟨sv, hsv⟩ : ∃ sv, seV X x.o.who = sv := ⟨_, rfl⟩
      have hs8 : sv ≤ 255 := by rw [← hsv]; exact seV_le X x.o.who
      have HRN := Lib.hid hrn
      have HSV := Lib.hid hsv
      have HR : Hid (∀ V, Below W1.heap.size W1 V → Calls Try.prog 13 #[ptr p] V (RulesTo rn X.rs V)) := fun V hV => (HLP1.out.below hV).rules HRN.out
      have HSE : Hid (∀ (g : Nat) (A : Option Addr) (c : Nat) (V : World), V.cell? ⟨g, 0, none⟩ = some (.int .i64 0) → V.cell? ⟨g, 1, none⟩ = some (.int .i64 1) → V.cell? ⟨g, 2, none⟩ = some (.int .i64 2) → SlR V A rn X.rs →
          Calls Try.prog 12 #[.slice (some ⟨g, 0, none⟩) 3 3, .slice A rn c, .agg #[.int .i64 x.o.who.role, .int .i64 x.o.who.why, .int .i64 x.o.who.time]] V fun e w' => e = .returned (.tuple #[.int .i64 (sv : Int), .int .i64 0]) ∧ Below V.heap.size V w') := fun g A c V h0 h1 h2 hs => sees_of HLP1.out.ok HMU.out.1 HMU.out.2 HRN.out HASKO.out.who.1 HASKO.out.who.2 HSV.out g A c V h0 h1 h2 hs
      have HSS : Hid (∀ V, Below W1.heap.size W1 V → V.cell? ⟨wr.heap.size, 1, none⟩ = some (.int .i64 x.o.who.role) ∧ V.cell? ⟨wr.heap.size, 2, none⟩ = some (.int .i64 x.o.who.why) ∧ V.cell? ⟨wr.heap.size, 3, none⟩ = some (.int .i64 x.o.who.time)) := fun V hV => by
        have h := HAT.out.below hV
        have k1 := h.c1
        have k2 := h.c2
        have k3 := h.c3
        simp only [Nat.zero_add] at k1 k2 k3
        exact ⟨k1, k2, k3⟩
      have i1 : (0 : Int) ≤ (k : Int) := by omega
      have i2 : (k : Int) < (n : Int) := by omega
      clear hrow hx hin hok hA1 hat1 hW1 hsz1 hrn hsv
      go_wp2_with fail
      rw [← HW1.out]
      obtain ⟨k1, k2, k3⟩ := HSS.out W1 (Below.refl _ _)
      clear c0 c1 c2 c3 c4 c5 c6 c7 c8 c9 c10 c11
      go_cut [7, 8] from 33 to 40 (fun s7 s8 wc => s7 = .int .i64 (sv : Nat) ∧ s8 = .int .i64 0 ∧ Below W1.heap.size W1 wc)
      case first =>
        clear HS HL HM HGL HB1 HB2 HB3 HROW HS3 HPW HMU HLP HLP1 HIN HAT HASKO HW1 HRN HSV hs8 hk hlt i1 i2 hn30
        go_region_held3 (fun w' => w'.cell? ⟨wr.heap.size, 1, none⟩ = some (.int .i64 x.o.who.role) ∧ w'.cell? ⟨wr.heap.size, 2, none⟩ = some (.int .i64 x.o.who.why) ∧ w'.cell? ⟨wr.heap.size, 3, none⟩ = some (.int .i64 x.o.who.time)) (first | assumption | exact HSS.out _ ((Below.refl _ _).drew) | exact HSS.out _ (((Below.refl _ _).alloc (Nat.le_refl _) _).drew) | exact HSS.out _ (by assumption) | exact HSS.out _ (Below.alloc hW' hW'.size _))
          (first
            | (go_at_call 13; refine (HR.out _ (by first | exact (Below.refl _ _).drew | exact ((Below.refl _ _).alloc (Nat.le_refl _) _).drew)).mono ?_; rintro e w' ⟨A', c', rfl, ho', hb'⟩; have hW' : Below W1.heap.size W1 w' := (by first | exact ((Below.refl W1.heap.size W1).drew).trans hb' | exact (((Below.refl W1.heap.size W1).alloc (Nat.le_refl _) _).drew).trans (hb'.mono (by simp))))
            | (go_at_call 12; refine (HSE.out _ _ _ _ (by first | (simp [go_sem]; done) | exact (hb'.cell (p := ⟨_, 0, none⟩) (by simp)).trans (by simp [go_sem])) (by first | (simp [go_sem]; done) | exact (hb'.cell (p := ⟨_, 1, none⟩) (by simp)).trans (by simp [go_sem])) (by first | (simp [go_sem]; done) | exact (hb'.cell (p := ⟨_, 2, none⟩) (by simp)).trans (by simp [go_sem])) (by first | exact (OwnR.slr ho').1 | exact (OwnR.slr (own_below ho' ((Below.refl _ _).alloc (Nat.le_refl _) _))).1)).mono ?_; rintro e w'' ⟨rfl, hb''⟩; have hW'' : Below W1.heap.size W1 w'' := (by first | exact hW'.trans (hb''.mono hW'.size) | exact (hW'.alloc hW'.size _).trans (hb''.mono (hW'.alloc hW'.size _).size))))
        all_goals (go_wp2_with fail; go_meet)
        all_goals
          case rel => exact ⟨rfl, rfl, hW''⟩
      case rest =>
        obtain ⟨wA, hwAe⟩ : ∃ wA, wA = wc := ⟨_, rfl⟩
        subst hwAe
        obtain ⟨rfl, rfl, hBA⟩ := hcut
        obtain ⟨q, hql, hqS, hqq, hdo⟩ := HLP.out.own
        have HDO := Lib.hid hdo
        have HQL := Lib.hid hql
        have HV := Lib.hid ((HLP1.out.below hBA).versions rfl)
        have HBA := Lib.hid hBA
        have HBWA : Hid (Below wr.heap.size wr wA) := by
          have h : Below wr.heap.size wr W1 := by rw [HW1.out]; exact (Below.refl _ _).alloc (Nat.le_refl _) _
          exact h.trans (hBA.mono h.size)
        clear hdo hql hqS hqq hBA k1 k2 k3
        go_wp2_with fail
        refine HV.out.mono ?_
        rintro e w5 ⟨A5, m5, c5, rfl, hn5, hb5⟩
        have HBA5 := Lib.hid (HBA.out.trans (hb5.mono HBA.out.size))
        have HBR5 := Lib.hid (HBWA.out.trans (hb5.mono HBWA.out.size))
        have HP := Lib.hid (part_is c5 sv w5 hn5.at_ HLP.out.ok.st hs8)
        clear hn5 hb5 HV
        go_wp2_with fail
        refine HP.out.mono ?_
        rintro e w6 ⟨A6, m6, c6, rfl, hn6, hb6⟩
        have hb16 := HBA5.out.trans (hb6.mono HBA5.out.size)
        have hbr6 := HBR5.out.trans (hb6.mono HBR5.out.size)
        obtain ⟨⟨er, tv, ti, tn⟩, hT⟩ : ∃ T, doT X x.o = T := ⟨_, rfl⟩
        obtain ⟨tl, htl⟩ : ∃ tl, tv.length = tl := ⟨_, rfl⟩
        obtain ⟨il, hil⟩ : ∃ il, ti.length = il := ⟨_, rfl⟩
        obtain ⟨nl, hnl⟩ : ∃ nl, tn.length = nl := ⟨_, rfl⟩
        have HTL := Lib.hid htl
        have HIL := Lib.hid hil
        have HNL := Lib.hid hnl
        have HD := Lib.hid (HDO.out w6 (doX X x.o) _ x.o x.P hbr6 (HIN.out.below hb16) hT rfl)
        have hat6 := HAT.out.below hb16
        have HAT6 := Lib.hid hat6
        have HN6 := Lib.hid hn6
        have HBR6 := Lib.hid hbr6
        have HTT := Lib.hid hT
        obtain ⟨c0, c1, c2, c3, c4, c5', c6', c7, c8, c9, c10, c11⟩ := hat6
        simp only [Nat.zero_add] at c0 c1 c2 c3 c4 c5' c6' c7 c8 c9 c10 c11
        clear hn6 hb6 hb16 hbr6 hT htl hil hnl HP
        go_wp2_with fail
        refine HD.out.mono ?_
        rintro e w7 ⟨⟨va, vc, ia, ic, na, nc⟩, rfl, hnt, hl7, hk7⟩
        rw [show (ToldL.mk er tv ti tn).vs.length = tl from HTL.out, show (ToldL.mk er tv ti tn).ids.length = il from HIL.out, show (ToldL.mk er tv ti tn).ns.length = nl from HNL.out]
        obtain ⟨W8, hW8⟩ : ∃ W8, W8 = w7.alloc (.cells #[.int .i64 er, .slice va tl vc, .slice ia il ic, .slice na nl nc] 51) := ⟨_, rfl⟩
        have hA8 : Below w7.heap.size w7 W8 := by rw [hW8]; exact (Below.refl _ _).alloc (Nat.le_refl _) _
        have t1 : W8.cell? ⟨w7.heap.size, 1, none⟩ = some (.slice va tl vc) := by rw [hW8]; simp [go_sem]
        have t2 : W8.cell? ⟨w7.heap.size, 2, none⟩ = some (.slice ia il ic) := by rw [hW8]; simp [go_sem]
        have t3 : W8.cell? ⟨w7.heap.size, 3, none⟩ = some (.slice na nl nc) := by rw [hW8]; simp [go_sem]
        have hoff : Off p q wr.heap.size := by
          have h1 := HS3.out.pw
          have h2 := HLP.out.kept.size
          have h3 := HQL.out
          exact ⟨by omega, by omega⟩
        have hat7 := HAT6.out.kept hk7 hoff
        have HAT8 := Lib.hid (hat7.below hA8)
        have HSE8 : Hid (VsAt W8 A6 m6 (prt X.vs (sv : Int))) := ((HN6.out.kept hk7 (fun b hb _ => by
          have h1 := HS3.out.pw
          have h2 := HLP.out.kept.size
          have h3 := HQL.out
          have h4 := HBR5.out.size
          exact ⟨by omega, by omega⟩)).below hA8).at_
        have HL8 := Lib.hid (hl7.below hA8)
        have HNT := Lib.hid (hnt.below hA8)
        have HT1 := Lib.hid t1
        have HT2 := Lib.hid t2
        have HT3 := Lib.hid t3
        have HW8 := Lib.hid hW8
        have HMU' : Hid ((doX X x.o).m = 3 ∧ (doX X x.o).u = fun k => k) := ⟨(doX_mu X x.o).1.trans HMU.out.1, (doX_mu X x.o).2.trans HMU.out.2⟩
        have HPST : Hid (stErr (prt X.vs (sv : Int)) = 0) := prt_st HLP.out.ok.st _
        have HZ7 : Hid (wr.heap.size < w7.heap.size) := cell_lt hat7.c0
        clear c0 c1 c2 c3 c4 c5' c6' c7 c8 c9 c10 c11
        obtain ⟨c0, c1, c2, c3, c4, c5', c6', c7, c8, c9, c10, c11⟩ := hat7
        simp only [Nat.zero_add] at c0 c1 c2 c3 c4 c5' c6' c7 c8 c9 c10 c11
        have g0 := HZ7.out
        clear hnt hl7 hk7 hA8 t1 t2 t3 hoff hW8 HD
        by_cases h7 : x.o.kind = 7
        · have e7 : (x.o.kind == 7) = true := by simp [h7]
          clear h7
          go_wp2_with fail
          rw [← HW8.out]
          go_roundw
          case rel => exact ⟨k + 1, _, by omega, by go_num, HMU'.out, HL8.out⟩
          case measure => simp [intOf]; omega
        · have e7 : (x.o.kind == 7) = false := by simpa using h7
          have hma := tells_math HLP.out.ok h7
          unfold seenL at hma
          rw [HTT.out, HSV.out] at hma
          have HMA := Lib.hid hma
          clear h7 hma
          go_wp2_with fail
          rw [← HW8.out]
          clear c0 c1 c2 c3 c4 c5' c6' c7 c8 c9 c10 c11 e7 g0
          have htm : tl ≤ maxLen := by
            have h1 := HNT.out.v.cap
            have h2 := HTL.out
            simp only at h1
            omega
          have him : il ≤ maxLen := by
            have h1 := (OwnS.at_ HNT.out.i rfl).2
            have h2 := HIL.out
            simp only at h1
            omega
          unfold maxLen at htm him
          go_loopw [61] (fun i wc => ∃ j : Nat, j ≤ tl ∧ i = .int .i64 j ∧ Hid (Below W8.heap.size W8 wc)) (fun i _ => tl - (intOf i).toNat)
          case atStart => exact ⟨0, Nat.zero_le _, rfl, Below.refl _ _⟩
          case round =>
            obtain ⟨j, hj, rfl, HBC⟩ := hrel
            by_cases hjt : j < tl
            · obtain ⟨lv, hl1, hl2, hl3⟩ := (HNT.out.v.below HBC.out).at_
              simp only at hl1 hl2 hl3
              have htl := HTL.out
              obtain ⟨y, hy⟩ : ∃ y, lv[j]? = some y := ⟨_, List.getElem?_eq_getElem (by omega)⟩
              have hym : y.v ∈ tv := by
                rw [← hl1]
                exact List.mem_map_of_mem (List.mem_of_getElem? hy)
              obtain ⟨hyi, bv, ov, rfl, v0, v1, v2, v3, v4⟩ := hl3 j y hy
              obtain ⟨ham, hc0, hc1⟩ := HMA.out.1 y.v hym
              obtain ⟨cn, hcn⟩ := Int.eq_ofNat_of_zero_le hc0
              have hband : bits .andNot .i64 y.v.r.cats (sv : Int) = 0 := by
                unfold among at ham
                rw [decide_eq_true_eq, Int.toNat_natCast, hcn, Int.toNat_natCast] at ham
                rw [hcn, i64_andNot cn sv (by omega) (by omega), ham]
                rfl
              have j0 : (0 : Int) ≤ (j : Int) := by omega
              have j1 : (j : Int) < (tl : Int) := by omega
              have hbx : Below wr.heap.size wr (wr.alloc (.cells #[.string y.v.r.id, .int .i64 y.v.r.cats, .slice y.p.fa y.v.r.fs.length y.p.fc, .slice y.p.ra y.v.r.rs.length y.p.rc, .bool y.v.gone] 54)) := (Below.refl _ _).alloc (Nat.le_refl _) _
              have HBX := Lib.hid (HBC.out.trans (hbx.mono HBC.out.size))
              clear hl1 hl2 hl3 hy hym hyi ham hc0 hc1 hcn hbx htl
              go_wp2_with fail
              go_roundw
              case rel => exact ⟨j + 1, by omega, by go_num, HBX.out⟩
              case measure => simp [intOf]; omega
            · obtain rfl : j = tl := by omega
              have d2 := (HBC.out.cell (p := ⟨w7.heap.size, 2, none⟩) (cell_lt HT2.out)).trans HT2.out
              go_wp2_with fail
              clear d2
              go_loopw [75] (fun i wd => ∃ j : Nat, j ≤ il ∧ i = .int .i64 j ∧ Hid (Below W8.heap.size W8 wd)) (fun i _ => il - (intOf i).toNat)
              case atStart => exact ⟨0, Nat.zero_le _, rfl, HBC.out⟩
              case round =>
                obtain ⟨j2, hj2, rfl, HBD⟩ := hrel
                by_cases hjt2 : j2 < il
                · have hsl := (OwnS.at_ (own_below HNT.out.i HBD.out) rfl).1
                  have hil := HIL.out
                  obtain ⟨id, hid⟩ : ∃ id, ti[j2]? = some id := ⟨_, List.getElem?_eq_getElem (by omega)⟩
                  obtain ⟨b', off', rfl, hc⟩ := hsl j2 id hid
                  obtain ⟨v, hgv, hfv⟩ := HMA.out.2.1 id (List.mem_of_getElem? hid)
                  obtain ⟨he, hR⟩ := get_some HPST.out hgv
                  have HG := Lib.hid (get_fine c6 id wr (HSE8.out.below HBD.out) HPST.out hR he)
                  have HFV := Lib.hid hfv
                  have j0 : (0 : Int) ≤ (j2 : Int) := by omega
                  have j1 : (j2 : Int) < (il : Int) := by omega
                  clear hsl hil hid hgv hfv he hR
                  go_wp2_with fail
                  refine HG.out.mono ?_
                  rintro e we ⟨yp, rfl, hnr, hbe⟩
                  have hbde := HBD.out.trans (hbe.mono HBD.out.size)
                  have hate := HAT8.out.below hbde
                  have f0 := hate.c10
                  have f1 := hate.c11
                  simp only [Nat.zero_add] at f0 f1
                  have l0 := cell_lt f0
                  have hin := hnr.in_
                  have hbx : Below we.heap.size we (we.alloc (.cells #[.string v.r.id, .int .i64 v.r.cats, .slice yp.fa v.r.fs.length yp.fc, .slice yp.ra v.r.rs.length yp.rc] 35)) := (Below.refl _ _).alloc (Nat.le_refl _) _
                  have HCF := Lib.hid (containsF_is (b := true) yp.fa v.r.fs yp.fc x.o.f _ (hin.1.below hbx) (Nat.le_trans hin.3 hin.5) (decide_eq_true HFV.out))
                  have HBE := Lib.hid (hbde.trans (hbx.mono hbde.size))
                  clear hate hin hnr hbe hbde hbx HG hc
                  go_wp2_with fail
                  refine HCF.out.mono ?_
                  rintro e wf ⟨rfl, hbf⟩
                  have HBF := Lib.hid (HBE.out.trans (hbf.mono HBE.out.size))
                  clear hbf HCF f0 f1 l0
                  go_wp2_with fail
                  go_roundw
                  case rel => exact ⟨j2 + 1, by omega, by go_num, HBF.out⟩
                  case measure => simp [intOf]; omega
                · obtain rfl : j2 = il := by omega
                  have d3 := (HBD.out.cell (p := ⟨w7.heap.size, 3, none⟩) (cell_lt HT3.out)).trans HT3.out
                  have HL9 := Lib.hid (HL8.out.below HBD.out)
                  have hcs : nl = 0 ∨ (0 < nl ∧ sv = 255) := by
                    by_cases h0 : nl = 0
                    · exact .inl h0
                    · rcases HMA.out.2.2 with h | h
                      · have hnl := HNL.out
                        have h' : tn = [] := h
                        rw [h'] at hnl
                        exact absurd hnl.symm h0
                      · exact .inr ⟨by omega, h⟩
                  rcases hcs with rfl | ⟨h0, rfl⟩
                  · go_wp2_with fail
                    go_roundw
                    case rel => exact ⟨k + 1, _, by omega, by go_num, HMU'.out, HL9.out⟩
                    case measure => simp [intOf]; omega
                  · have g1 : (0 : Int) < (nl : Int) := by omega
                    go_wp2_with fail
                    go_roundw
                    case rel => exact ⟨k + 1, _, by omega, by go_num, HMU'.out, HL9.out⟩
                    case measure => simp [intOf]; omega
    · obtain rfl : k = n := by omega
      have HBR := Lib.hid (HB3.out.trans ((HLP.out.far (by have := HS3.out.sp; have := HS3.out.pw; omega)).mono HB1.out.size))
      go_wp2_with fail
      go_ret
      exact ⟨rfl, HBR.out⟩
end Go.Proofs.Yteimdhkajbldjaa
