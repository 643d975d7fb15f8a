/- ServerAsks' walk. -/
import Derived.Test.YteimdhkajbldjaaGreatSrvB
import Derived.Test.YteimdhkajbldjaaGreatVAsk
import Derived.Test.YteimdhkajbldjaaGreatVRead
import Derived.Test.YteimdhkajbldjaaGreatVTold
import Derived.Test.YteimdhkajbldjaaGreatVInv
import Derived.Deep.CutRange
import Derived.Deep.RegionHeld3
set_option linter.unusedVariables false
set_option linter.unusedSimpArgs false
set_option maxRecDepth 100000
namespace Go.Proofs.YteimdhkajbldjaaGreat
open Go.RowKit Go.Sort

/-- what is told, in a box of its own -/
structure TBox (B : Nat) (w : World) (b : Nat) (T : ToldL) (P : ToldP) : Prop where
  c0 : w.cell? ⟨b, 0, none⟩ = some (.int .i64 T.code)
  c1 : w.cell? ⟨b, 1, none⟩ = some (.slice P.va T.vs.length P.vc)
  c2 : w.cell? ⟨b, 2, none⟩ = some (.slice P.ia T.ids.length P.ic)
  c3 : w.cell? ⟨b, 3, none⟩ = some (.slice P.na T.ns.length P.nc)
  new : NewTold B w T P

/-- what the operations of the two calls' region leave -/
def Phi14 (p : Nat) (ov : Value) (T : ToldL) (i lo hi : Nat) (v : Nat → Value) (w : World) : Prop :=
  match i with
  | 0 => v 0 = ptr p
  | 1 => v 1 = ov
  | 2 => ∃ P, v 2 = T.v P ∧ RegTold lo hi w T P
  | 3 => v 3 = ptr p
  | 4 => v 4 = ov
  | 5 => ∃ P, v 5 = T.v P ∧ RegTold lo hi w T P
  | 6 => hi = lo + 1 ∧ v 6 = .pointer (some ⟨lo, 0, none⟩) ∧ ∃ u0 u1 u2 u3, QB w lo u0 u1 u2 u3
  | 7 => hi = lo + 1 ∧ v 7 = .pointer (some ⟨lo, 0, none⟩) ∧ ∃ u0 u1 u2 u3, QB w lo u0 u1 u2 u3
  | 8 => hi = lo + 1 ∧ v 6 = .pointer (some ⟨lo, 0, none⟩) ∧ ∃ P : ToldP, v 2 = T.v P ∧ QB w lo (.int .i64 T.code) (.slice P.va T.vs.length P.vc) (.slice P.ia T.ids.length P.ic) (.slice P.na T.ns.length P.nc)
  | 9 => hi = lo + 1 ∧ v 7 = .pointer (some ⟨lo, 0, none⟩) ∧ ∃ P : ToldP, v 5 = T.v P ∧ QB w lo (.int .i64 T.code) (.slice P.va T.vs.length P.vc) (.slice P.ia T.ids.length P.ic) (.slice P.na T.ns.length P.nc)
  | _ => True
theorem Phi14.mono {p : Nat} {ov : Value} {T : ToldL} {S : Nat} (i lo hi : Nat) (w w' : World) (v : Nat → Value) (h : Phi14 p ov T i lo hi v w) (k : Kept (fun z => z < S ∨ (lo ≤ z ∧ z < hi)) w w') : Phi14 p ov T i lo hi v w' := by
  match i, h with
  | 0, h => exact h
  | 1, h => exact h
  | 2, h => obtain ⟨P, e, h⟩ := h; exact ⟨P, e, h.kept k fun z a b => .inr ⟨a, b⟩⟩
  | 3, h => exact h
  | 4, h => exact h
  | 5, h => obtain ⟨P, e, h⟩ := h; exact ⟨P, e, h.kept k fun z a b => .inr ⟨a, b⟩⟩
  | 6, h => obtain ⟨e, e2, u0, u1, u2, u3, q⟩ := h; exact ⟨e, e2, _, _, _, _, q.kept k (.inr ⟨Nat.le_refl _, by omega⟩)⟩
  | 7, h => obtain ⟨e, e2, u0, u1, u2, u3, q⟩ := h; exact ⟨e, e2, _, _, _, _, q.kept k (.inr ⟨Nat.le_refl _, by omega⟩)⟩
  | 8, h => obtain ⟨e, e2, P, e3, q⟩ := h; exact ⟨e, e2, P, e3, q.kept k (.inr ⟨Nat.le_refl _, by omega⟩)⟩
  | 9, h => obtain ⟨e, e2, P, e3, q⟩ := h; exact ⟨e, e2, P, e3, q.kept k (.inr ⟨Nat.le_refl _, by omega⟩)⟩
  | n + 10, _ => exact trivial
def St14 (i : Nat) : Option Nat := if i = 8 then some 6 else if i = 9 then some 7 else none
theorem QB.zero (w : World) : QB (w.alloc (.cells #[.int .i64 0, .slice none 0 0, .slice none 0 0, .slice none 0 0] 48)) w.heap.size (.int .i64 0) (.slice none 0 0) (.slice none 0 0) (.slice none 0 0) := by
  constructor <;> simp [go_sem]
theorem kept_four {lo hi : Nat} (w : World) (h : hi = lo + 1) (u0 u1 u2 u3 : Value) : Kept (fun z => ¬ (lo ≤ z ∧ z < hi)) w ((((w.setCell ⟨lo, 0, none⟩ u0).setCell ⟨lo, 1, none⟩ u1).setCell ⟨lo, 2, none⟩ u2).setCell ⟨lo, 3, none⟩ u3) := by
  have hz : ¬ ¬ (lo ≤ lo ∧ lo < hi) := fun k => k ⟨Nat.le_refl _, by omega⟩
  exact (((Kept.setCell w (a := ⟨lo, 0, none⟩) hz u0).trans (Kept.setCell _ (a := ⟨lo, 1, none⟩) hz u1)).trans (Kept.setCell _ (a := ⟨lo, 2, none⟩) hz u2)).trans (Kept.setCell _ (a := ⟨lo, 3, none⟩) hz u3)

set_option maxHeartbeats 8000000 in
theorem serverAsks_walk (a : Option Addr) (c : Nat) (g : List RowI) (o : OpL) (P : OpP) (w : World) (hs : SlG w a g) (hl : g.length ≤ c) (hm : c ≤ maxLen) (hi : o.in_ P w) :
    Calls Tryz.prog 5 #[.slice a g.length c, o.v P] w fun e w' => e = .returned (.bool true) ∧ Below w.heap.size w w' := by
  obtain ⟨gl, hgl⟩ : ∃ gl, g.length = gl := ⟨_, rfl⟩
  obtain ⟨W, hW⟩ : ∃ W, W = w.alloc (.cells #[.int .i64 o.kind, .int .i64 o.who.role, .int .i64 o.who.why, .int .i64 o.who.time, .slice P.ra o.n P.rc, .string o.r.id, .int .i64 o.r.cats, .slice P.p.fa o.r.fs.length P.p.fc, .slice P.p.ra o.r.rs.length P.p.rc, .string o.id, .string o.f.key, .string o.f.val] 39) := ⟨_, rfl⟩
  have hA : Below w.heap.size w W := by rw [hW]; exact (Below.refl _ _).alloc (Nat.le_refl _) _
  have hat : OpAt W w.heap.size 0 ⟨o, P⟩ := by rw [hW]; constructor <;> simp [go_sem]
  have hsz : W.heap.size = w.heap.size + 1 := by rw [hW]; simp
  have HS := Lib.hid hs
  have HL := Lib.hid hl
  have HM := Lib.hid hm
  have HGL := Lib.hid hgl
  have HI := Lib.hid hi
  have HA := Lib.hid hA
  have HAT := Lib.hid hat
  have HSZ := Lib.hid hsz
  have HW := Lib.hid hW
  rw [hgl]
  clear hs hl hm hgl hi hA hat hsz hW
  go_enter Tryz.func5, Tryz.ntmps5
  go_wp2_with fail
  refine (srvBegun_is _).mono ?_
  rintro e w1 ⟨rfl, hb1⟩
  rw [← HW.out] at hb1
  have HB1 := Lib.hid (HA.out.trans (hb1.mono HA.out.size))
  have HAT1 := Lib.hid (HAT.out.below hb1)
  have HS1 : Hid (w.heap.size < w1.heap.size) := by
    show w.heap.size < w1.heap.size
    have h1 := hb1.size
    have h2 := HSZ.out
    omega
  clear hb1
  go_wp2_with fail
  refine (ruled_is (fun _ => False) _ (fun z h => h.elim)).mono ?_
  rintro e w2 ⟨p, rfl, hs2, hb2⟩
  have hB2 := HB1.out.trans (hb2.mono HB1.out.size)
  have HAT2 := Lib.hid (HAT1.out.below hb2)
  have HASK := Lib.hid (asked_is a g c w2 (HS.out.below hB2) HL.out HM.out)
  rw [HGL.out] at HASK
  have HS2 := Lib.hid hs2
  have HB2 := Lib.hid hB2
  clear hs2 hb2 hB2
  go_wp2_with fail
  refine HASK.out.mono ?_
  rintro e w3 ⟨A, n, ca, l, rfl, hn30, hrow, hb3⟩
  have HROW := Lib.hid hrow
  have HS3 := Lib.hid (HS2.out.below hb3)
  have HAT3 := Lib.hid (HAT2.out.below hb3)
  have HPW : Hid (p < w2.heap.size) := HS2.out.pw
  have HB3 := Lib.hid (HB2.out.trans (hb3.mono HB2.out.size))
  clear hrow hb3 HASK HS2
  go_wp2_with fail
  go_loopw [24] (fun i wr => ∃ (k : Nat) (X : SrvX), k ≤ n ∧ i = .int .i64 k ∧ Hid (LpS w1.heap.size p w3 X wr)) (fun i _ => n - (intOf i).toNat)
  case atStart => exact ⟨0, _, Nat.zero_le _, rfl, LpS.start HS3.out⟩
  case round =>
    obtain ⟨k, X, hk, rfl, HLP⟩ := hrel
    by_cases hlt : k < n
    · have hrow := HROW.out.kept HLP.out.kept (fun b hb => by have := HPW.out; omega)
      obtain ⟨y, b, off, hx, rfl, hat, hin, hok⟩ := hrow.at hlt
      obtain ⟨c0, c1, c2, c3, c4, c5, c6, c7, c8, c9, c10, c11⟩ := hat
      have hbx : Below wr.heap.size wr (wr.alloc (.cells #[.int .i64 y.o.kind, .int .i64 y.o.who.role, .int .i64 y.o.who.why, .int .i64 y.o.who.time, .slice y.P.ra y.o.n y.P.rc, .string y.o.r.id, .int .i64 y.o.r.cats, .slice y.P.p.fa y.o.r.fs.length y.P.p.fc, .slice y.P.p.ra y.o.r.rs.length y.P.p.rc, .string y.o.id, .string y.o.f.key, .string y.o.f.val] 39)) := (Below.refl _ _).alloc (Nat.le_refl _) _
      have HDO := Lib.hid ((HLP.out.below hbx).doing y.o y.P (hin.below hbx) rfl rfl)
      have i1 : (0 : Int) ≤ (k : Int) := by omega
      have i2 : (k : Int) < (n : Int) := by omega
      clear hrow hx hin hok hbx
      go_wp2_with fail
      refine HDO.out.mono ?_
      rintro e w4 ⟨P', rfl, _, hl4⟩
      have HL4 := Lib.hid hl4
      clear hl4 HDO c0 c1 c2 c3 c4 c5 c6 c7 c8 c9 c10 c11
      go_wp2_with fail
      go_roundw
      case rel => exact ⟨k + 1, _, by omega, by go_num, HL4.out⟩
      case measure => simp [intOf]; omega
    · obtain rfl : k = n := by omega
      obtain ⟨q, hs4, _, hk4⟩ := HLP.out
      have hat4 := HAT3.out.kept hk4 (by have := HS1.out; have := hs4.sp; omega)
      have hb4 := HB3.out.trans (hk4.to (fun z hz => by have := HS1.out; have := hs4.sp; omega) HB3.out.size)
      have HAT4 := Lib.hid hat4
      have HB4 := Lib.hid hb4
      have HS4 := Lib.hid hs4
      obtain ⟨kd, hkd⟩ : ∃ kd, o.kind = kd := ⟨_, rfl⟩
      obtain ⟨c0, c1, c2, c3, c4, c5, c6, c7, c8, c9, c10, c11⟩ := hat4
      simp only [Nat.zero_add] at c0 c1 c2 c3 c4 c5 c6 c7 c8 c9 c10 c11
      simp only [hkd] at c0
      have HKD := Lib.hid hkd
      clear hs4 hk4 hb4 hkd hlt
      by_cases hkk : kd ≠ 1 ∧ kd ≠ 2 ∧ kd ≠ 3 ∧ kd ≠ 7
      · obtain ⟨n1, n2, n3, n7⟩ := hkk
        have e1 : (kd == 1) = false := by simpa using n1
        have e2 : (kd == 2) = false := by simpa using n2
        have e3 : (kd == 3) = false := by simpa using n3
        have e7 : (kd == 7) = false := by simpa using n7
        have HKK : Hid (o.kind ≠ 1 ∧ o.kind ≠ 2 ∧ o.kind ≠ 3 ∧ o.kind ≠ 7) := by
          show _ ∧ _
          rw [HKD.out]
          exact ⟨n1, n2, n3, n7⟩
        have HV := Lib.hid (versions_of _ HS4.out rfl)
        clear n1 n2 n3 n7
        go_wp2_with fail
        refine HV.out.mono ?_
        rintro e w5 ⟨A5, m5, c5', rfl, hn5, hb5⟩
        have HN5 := Lib.hid hn5
        have HB5 := Lib.hid (HB4.out.trans (hb5.mono HB4.out.size))
        have HS5 := Lib.hid (HS4.out.below hb5)
        have HAT5 := Lib.hid (HAT4.out.below hb5)
        have HR := Lib.hid (rules_of (n := X.n) _ HS5.out rfl)
        clear hn5 hb5 HV c0 c1 c2 c3 c4 c5 c6 c7 c8 c9 c10 c11
        go_wp2_with fail
        refine HR.out.mono ?_
        rintro e w6 ⟨A6, c6', rfl, hn6, hb6⟩
        have HR6 := Lib.hid hn6
        have HB6 := Lib.hid (HB5.out.trans (hb6.mono HB5.out.size))
        have HS6 := Lib.hid (HS5.out.below hb6)
        have HB56 := Lib.hid hb6
        have HSA : Hid (OpAt w6 w.heap.size 0 ⟨o, P⟩) := HAT5.out.below hb6
        have HSS : Hid (∀ w', Below w6.heap.size w6 w' → w'.cell? ⟨w.heap.size, 0, none⟩ = some (.int .i64 o.kind) ∧ w'.cell? ⟨w.heap.size, 1, none⟩ = some (.int .i64 o.who.role) ∧ w'.cell? ⟨w.heap.size, 2, none⟩ = some (.int .i64 o.who.why) ∧ w'.cell? ⟨w.heap.size, 3, none⟩ = some (.int .i64 o.who.time) ∧ w'.cell? ⟨w.heap.size, 4, none⟩ = some (.slice P.ra o.n P.rc) ∧ w'.cell? ⟨w.heap.size, 5, none⟩ = some (.string o.r.id) ∧ w'.cell? ⟨w.heap.size, 6, none⟩ = some (.int .i64 o.r.cats) ∧ w'.cell? ⟨w.heap.size, 7, none⟩ = some (.slice P.p.fa o.r.fs.length P.p.fc) ∧ w'.cell? ⟨w.heap.size, 8, none⟩ = some (.slice P.p.ra o.r.rs.length P.p.rc) ∧ w'.cell? ⟨w.heap.size, 9, none⟩ = some (.string o.id) ∧ w'.cell? ⟨w.heap.size, 10, none⟩ = some (.string o.f.key) ∧ w'.cell? ⟨w.heap.size, 11, none⟩ = some (.string o.f.val)) := fun V hV => by
          obtain ⟨c0, c1, c2, c3, c4, c5, c6, c7, c8, c9, c10, c11⟩ := HSA.out.below hV
          simp only [Nat.zero_add] at c0 c1 c2 c3 c4 c5 c6 c7 c8 c9 c10 c11
          exact ⟨c0, c1, c2, c3, c4, c5, c6, c7, c8, c9, c10, c11⟩
        have HS2 : Hid (∀ w', Below w6.heap.size w6 w' → Below w6.heap.size w6 w' ∧ w'.cell? ⟨w.heap.size, 0, none⟩ = some (.int .i64 o.kind) ∧ w'.cell? ⟨w.heap.size, 1, none⟩ = some (.int .i64 o.who.role) ∧ w'.cell? ⟨w.heap.size, 2, none⟩ = some (.int .i64 o.who.why) ∧ w'.cell? ⟨w.heap.size, 3, none⟩ = some (.int .i64 o.who.time) ∧ w'.cell? ⟨w.heap.size, 4, none⟩ = some (.slice P.ra o.n P.rc) ∧ w'.cell? ⟨w.heap.size, 5, none⟩ = some (.string o.r.id) ∧ w'.cell? ⟨w.heap.size, 6, none⟩ = some (.int .i64 o.r.cats) ∧ w'.cell? ⟨w.heap.size, 7, none⟩ = some (.slice P.p.fa o.r.fs.length P.p.fc) ∧ w'.cell? ⟨w.heap.size, 8, none⟩ = some (.slice P.p.ra o.r.rs.length P.p.rc) ∧ w'.cell? ⟨w.heap.size, 9, none⟩ = some (.string o.id) ∧ w'.cell? ⟨w.heap.size, 10, none⟩ = some (.string o.f.key) ∧ w'.cell? ⟨w.heap.size, 11, none⟩ = some (.string o.f.val)) := fun w' hV => ⟨hV, HSS.out w' hV⟩
        obtain ⟨T, hT⟩ : ∃ T, doT X o = T := ⟨_, rfl⟩
        have HDO : Hid (∀ V, Below w6.heap.size w6 V → Calls Tryz.prog 16 #[ptr p, o.v P] V (RdIs T V)) := fun V hV => do_read o P V (HS6.out.below hV) (fun z h => h.elim) (HI.out.below (HB6.out.trans (hV.mono HB6.out.size))) HKK.out hT
        have HTT := Lib.hid hT
        have hat6 := HSA.out
        obtain ⟨c0, c1, c2, c3, c4, c5, c6, c7, c8, c9, c10, c11⟩ := hat6
        simp only [Nat.zero_add] at c0 c1 c2 c3 c4 c5 c6 c7 c8 c9 c10 c11
        clear hn6 hb6 HR hT
        go_upto_region 14 with (fail)
        go_cut [11, 12] from 54 to 59 (fun s11 s12 wc => ∃ b1 b2 P1 P2, s11 = .pointer (some ⟨b1, 0, none⟩) ∧ s12 = .pointer (some ⟨b2, 0, none⟩) ∧ TBox w6.heap.size wc b1 T P1 ∧ TBox w6.heap.size wc b2 T P2 ∧ Below w6.heap.size w6 wc)
        case first =>
          clear HS HL HM HGL HB1 HB2 HB3 HROW HS3 HPW HLP HAT HAT1 HAT2 HAT3 HAT4 HAT5 HB4 HB5 HB6 HB56 HS4 HS5 HS6 HN5 HR6 HKK HKD HW HA HI HSZ HS1 HTT hn30 hk
          have HSO := Lib.hid HSS.out
          obtain ⟨ov, hov⟩ : ∃ ov, o.v P = ov := ⟨_, rfl⟩
          have HOV : Hid (ov = .agg #[.int .i64 o.kind, .int .i64 o.who.role, .int .i64 o.who.why, .int .i64 o.who.time, .slice P.ra o.n P.rc, .string o.r.id, .int .i64 o.r.cats, .slice P.p.fa o.r.fs.length P.p.fc, .slice P.p.ra o.r.rs.length P.p.rc, .string o.id, .string o.f.key, .string o.f.val]) := hov.symm
          rw [hov] at HDO
          refine wp_region_inv (P := Tryz.prog) (by kernel_rfl) (by kernel_rfl) (by kernel_rfl) (by kernel_rfl) St14 (by kernel_rfl) (by rfl) (fun _ => true) (Phi14 p ov T) (fun i lo hi w w' v h _ _ k => Phi14.mono i lo hi w w' v h k) ?_ (fun _ _ _ _ h _ => by cases h) ?_ (fun _ _ _ _ => rfl) ?_ ?_ ?_
          · -- what hangs on what
            intro i o' lo hi w' v v' ho h hi' hd
            match i, ho, h, hi' with
            | 0, _, h, e => exact e.symm.trans h
            | 1, _, h, e => exact e.symm.trans h
            | 2, _, h, e => obtain ⟨P, e2, h⟩ := h; exact ⟨P, e.symm.trans e2, h⟩
            | 3, _, h, e => exact e.symm.trans h
            | 4, _, h, e => exact e.symm.trans h
            | 5, _, h, e => obtain ⟨P, e2, h⟩ := h; exact ⟨P, e.symm.trans e2, h⟩
            | 6, _, h, e => obtain ⟨e1, e2, h⟩ := h; exact ⟨e1, e.symm.trans e2, h⟩
            | 7, _, h, e => obtain ⟨e1, e2, h⟩ := h; exact ⟨e1, e.symm.trans e2, h⟩
            | 8, ho, h, e =>
              obtain ⟨e1, e2, P, e3, h⟩ := h
              cases ho
              exact ⟨e1, (hd ⟨6, .data⟩ (by simp) rfl).symm.trans e2, P, (hd ⟨2, .data⟩ (by simp) rfl).symm.trans e3, h⟩
            | 9, ho, h, e =>
              obtain ⟨e1, e2, P, e3, h⟩ := h
              cases ho
              exact ⟨e1, (hd ⟨7, .data⟩ (by simp) rfl).symm.trans e2, P, (hd ⟨5, .data⟩ (by simp) rfl).symm.trans e3, h⟩
            | n + 10, _, _, _ => exact trivial
          · -- no guards
            intro i o' j b ho hg
            rw [no_guard (by kernel_rfl) ho] at hg
            cases hg
          refine each_of ?_
          refine And.intro ?_ (And.intro ?_ (And.intro ?_ (And.intro ?_ (And.intro ?_ (And.intro ?_ (And.intro ?_ (And.intro ?_ (And.intro (fun h => by cases h) (And.intro (fun h => by cases h) trivial)))))))))
          ·
            intro _ _ a w' hf hb hd
            obtain ⟨ρ, hρ⟩ : ∃ ρ, a.eval = ρ := ⟨_, rfl⟩
            have rc := Act.rho a
            rw [hρ] at rc
            have e := hf.old (v := ptr p) 5 (by kernel_rfl) rfl
            rw [hρ] at e
            exact wp_val hρ (v := ptr p) (w' := w') (by simp [execOp, go_sem, e]) ⟨_, rfl, Below.refl _ _, fun vs hv _ => hv⟩
          ·
            intro _ _ a w' hf hb hd
            obtain ⟨ρ, hρ⟩ : ∃ ρ, a.eval = ρ := ⟨_, rfl⟩
            have rc := Act.rho a
            rw [hρ] at rc
            have e := hf.old (v := .pointer (some ⟨w.heap.size, 0, none⟩)) 3 (by kernel_rfl) rfl
            rw [hρ] at e
            obtain ⟨c0, c1, c2, c3, c4, c5, c6, c7, c8, c9, c10, c11⟩ := HSO.out w' hb
            exact wp_val hρ (v := ov) (w' := w') (by rw [HOV.out]; simp [execOp, go_sem, e, c0, c1, c2, c3, c4, c5, c6, c7, c8, c9, c10, c11]) ⟨_, rfl, Below.refl _ _, fun vs hv _ => hv⟩
          ·
            intro _ _ a w' hf hb hd
            obtain ⟨ρ, hρ⟩ : ∃ ρ, a.eval = ρ := ⟨_, rfl⟩
            have rc := Act.rho a
            rw [hρ] at rc
            obtain ⟨_, _, _, _, e0⟩ := hd ⟨0, .data⟩ (by simp) rfl
            obtain ⟨_, _, _, _, e1⟩ := hd ⟨1, .data⟩ (by simp) rfl
            have f0 := hf.new 0 54 rfl
            have f1 := hf.new 1 55 rfl
            rw [hρ] at f0 f1
            have g0 := f0.trans e0
            have g1 := f1.trans e1
            refine wp_call hρ (f := 16) (args := #[ptr p, ov]) (by simp [execOp, go_sem, rc.f, g0, g1]) ((HDO.out w' hb).mono ?_)
            rintro e w2 ⟨P2, rfl, hn2, hb2⟩
            exact ⟨_, rfl, _, rfl, hb2, fun vs hv _ => ⟨P2, hv, RegTold.now hn2⟩⟩
          ·
            intro _ _ a w' hf hb hd
            obtain ⟨ρ, hρ⟩ : ∃ ρ, a.eval = ρ := ⟨_, rfl⟩
            have rc := Act.rho a
            rw [hρ] at rc
            have e := hf.old (v := ptr p) 5 (by kernel_rfl) rfl
            rw [hρ] at e
            exact wp_val hρ (v := ptr p) (w' := w') (by simp [execOp, go_sem, e]) ⟨_, rfl, Below.refl _ _, fun vs hv _ => hv⟩
          ·
            intro _ _ a w' hf hb hd
            obtain ⟨ρ, hρ⟩ : ∃ ρ, a.eval = ρ := ⟨_, rfl⟩
            have rc := Act.rho a
            rw [hρ] at rc
            have e := hf.old (v := .pointer (some ⟨w.heap.size, 0, none⟩)) 3 (by kernel_rfl) rfl
            rw [hρ] at e
            obtain ⟨c0, c1, c2, c3, c4, c5, c6, c7, c8, c9, c10, c11⟩ := HSO.out w' hb
            exact wp_val hρ (v := ov) (w' := w') (by rw [HOV.out]; simp [execOp, go_sem, e, c0, c1, c2, c3, c4, c5, c6, c7, c8, c9, c10, c11]) ⟨_, rfl, Below.refl _ _, fun vs hv _ => hv⟩
          ·
            intro _ _ a w' hf hb hd
            obtain ⟨ρ, hρ⟩ : ∃ ρ, a.eval = ρ := ⟨_, rfl⟩
            have rc := Act.rho a
            rw [hρ] at rc
            obtain ⟨_, _, _, _, e0⟩ := hd ⟨3, .data⟩ (by simp) rfl
            obtain ⟨_, _, _, _, e1⟩ := hd ⟨4, .data⟩ (by simp) rfl
            have f0 := hf.new 3 57 rfl
            have f1 := hf.new 4 58 rfl
            rw [hρ] at f0 f1
            have g0 := f0.trans e0
            have g1 := f1.trans e1
            refine wp_call hρ (f := 16) (args := #[ptr p, ov]) (by simp [execOp, go_sem, rc.f, g0, g1]) ((HDO.out w' hb).mono ?_)
            rintro e w2 ⟨P2, rfl, hn2, hb2⟩
            exact ⟨_, rfl, _, rfl, hb2, fun vs hv _ => ⟨P2, hv, RegTold.now hn2⟩⟩
          ·
            intro _ _ a w' hf hb hd
            obtain ⟨ρ, hρ⟩ : ∃ ρ, a.eval = ρ := ⟨_, rfl⟩
            have rc := Act.rho a
            rw [hρ] at rc
            refine wp_val hρ (v := .pointer (some ⟨w'.heap.size, 0, none⟩)) (w' := w'.alloc (.cells #[.int .i64 0, .slice none 0 0, .slice none 0 0, .slice none 0 0] 48)) (by simp [execOp, go_sem]) ⟨_, rfl, (Below.refl _ _).alloc (Nat.le_refl _) _, fun vs hv _ => ⟨by simp, hv, _, _, _, _, QB.zero w'⟩⟩
          ·
            intro _ _ a w' hf hb hd
            obtain ⟨ρ, hρ⟩ : ∃ ρ, a.eval = ρ := ⟨_, rfl⟩
            have rc := Act.rho a
            rw [hρ] at rc
            refine wp_val hρ (v := .pointer (some ⟨w'.heap.size, 0, none⟩)) (w' := w'.alloc (.cells #[.int .i64 0, .slice none 0 0, .slice none 0 0, .slice none 0 0] 48)) (by simp [execOp, go_sem]) ⟨_, rfl, (Below.refl _ _).alloc (Nat.le_refl _) _, fun vs hv _ => ⟨by simp, hv, _, _, _, _, QB.zero w'⟩⟩
          · -- the two stores
            intro i k o' ho hk a w' lo hi' hf hb h1 h2 hΦ hd
            obtain ⟨ρ, hρ⟩ : ∃ ρ, a.eval = ρ := ⟨_, rfl⟩
            have rc := Act.rho a
            rw [hρ] at rc
            have hi : i = 8 ∨ i = 9 := by
              unfold St14 at hk
              split at hk
              · exact .inl ‹_›
              · split at hk
                · exact .inr ‹_›
                · cases hk
            rcases hi with hi | hi
            · -- into what 6 laid
              subst hi
              cases ho
              obtain rfl : k = 6 := by cases hk; rfl
              obtain ⟨e1, e2, u0, u1, u2, u3, q⟩ := hΦ
              obtain ⟨_, _, _, _, P2, e3, _⟩ := hd ⟨2, .data⟩ (by simp) rfl
              have f0 := hf.new 6 11 rfl
              have f1 := hf.new 2 56 rfl
              rw [hρ] at f0 f1
              have g0 := f0.trans e2
              have g1 := f1.trans e3
              obtain ⟨q0, q1, q2, q3, z0, z1, z2, z3⟩ := q
              exact wp_skip hρ (w' := (((w'.setCell ⟨lo, 0, none⟩ (.int .i64 T.code)).setCell ⟨lo, 1, none⟩ (.slice P2.va T.vs.length P2.vc)).setCell ⟨lo, 2, none⟩ (.slice P2.ia T.ids.length P2.ic)).setCell ⟨lo, 3, none⟩ (.slice P2.na T.ns.length P2.nc)) (by simp [execOp, go_sem, g0, g1, q0, q1, q2, q3, z0, z1, z2, z3]) ⟨rfl, kept_four w' e1 _ _ _ _, ⟨e1, e2, _, _, _, _, QB.set ⟨q0, q1, q2, q3, z0, z1, z2, z3⟩ _ _ _ _⟩, ⟨e1, e2, P2, e3, QB.set ⟨q0, q1, q2, q3, z0, z1, z2, z3⟩ _ _ _ _⟩⟩
            · -- into what 7 laid
              subst hi
              cases ho
              obtain rfl : k = 7 := by cases hk; rfl
              obtain ⟨e1, e2, u0, u1, u2, u3, q⟩ := hΦ
              obtain ⟨_, _, _, _, P2, e3, _⟩ := hd ⟨5, .data⟩ (by simp) rfl
              have f0 := hf.new 7 12 rfl
              have f1 := hf.new 5 59 rfl
              rw [hρ] at f0 f1
              have g0 := f0.trans e2
              have g1 := f1.trans e3
              obtain ⟨q0, q1, q2, q3, z0, z1, z2, z3⟩ := q
              exact wp_skip hρ (w' := (((w'.setCell ⟨lo, 0, none⟩ (.int .i64 T.code)).setCell ⟨lo, 1, none⟩ (.slice P2.va T.vs.length P2.vc)).setCell ⟨lo, 2, none⟩ (.slice P2.ia T.ids.length P2.ic)).setCell ⟨lo, 3, none⟩ (.slice P2.na T.ns.length P2.nc)) (by simp [execOp, go_sem, g0, g1, q0, q1, q2, q3, z0, z1, z2, z3]) ⟨rfl, kept_four w' e1 _ _ _ _, ⟨e1, e2, _, _, _, _, QB.set ⟨q0, q1, q2, q3, z0, z1, z2, z3⟩ _ _ _ _⟩, ⟨e1, e2, P2, e3, QB.set ⟨q0, q1, q2, q3, z0, z1, z2, z3⟩ _ _ _ _⟩⟩
          · -- behind it
            intro v lo hi w' hb hall
            obtain ⟨l2, _, P2, e2, r2⟩ := hall 2 (by decide)
            obtain ⟨l5, _, P5, e5, r5⟩ := hall 5 (by decide)
            obtain ⟨_, _, k8, e6, P8, e8, q8⟩ := hall 8 (by decide)
            obtain ⟨_, _, k9, e7, P9, e9, q9⟩ := hall 9 (by decide)
            obtain rfl := toldv_inj (e2.symm.trans e8)
            obtain rfl := toldv_inj (e5.symm.trans e9)
            have HT1 : Hid (TBox w6.heap.size w' (lo 8) T P2) := ⟨q8.c0, q8.c1, q8.c2, q8.c3, r2.new.low l2⟩
            have HT2 : Hid (TBox w6.heap.size w' (lo 9) T P5) := ⟨q9.c0, q9.c1, q9.c2, q9.c3, r5.new.low l5⟩
            simp only [putAll, Act.put, List.setIfInBounds_toArray, List.set_cons_zero, List.set_cons_succ, Nat.zero_add, Nat.reduceAdd]
            rw [e6, e7]
            generalize v 0 = y0
            generalize v 1 = y1
            generalize v 2 = y2
            generalize v 3 = y3
            generalize v 4 = y4
            generalize v 5 = y5
            have HBF := Lib.hid hb
            clear hall e2 e5 e6 e7 e8 e9 q8 q9 r2 r5 k8 k9 l2 l5 hb
            go_wp2_with fail
            go_meet
            case rel => exact ⟨_, _, _, _, rfl, rfl, HT1.out, HT2.out, HBF.out⟩
        case rest =>
          obtain ⟨w7, hw7e⟩ : ∃ w7, w7 = wc := ⟨_, rfl⟩
          subst hw7e
          obtain ⟨b1, b2, P1, P2, rfl, rfl, ht1, ht2, hb7⟩ := hcut
          have HT1 := Lib.hid ht1
          have HT2 := Lib.hid ht2
          have HB7 := Lib.hid (HB6.out.trans (hb7.mono HB6.out.size))
          have HB67 := Lib.hid hb7
          obtain ⟨xn, hxn⟩ : ∃ xn, X.n = xn := ⟨_, rfl⟩
          rw [hxn]
          have HXN := Lib.hid hxn
          have HSAME := Lib.hid (told_yes T P1 P2 w7 ht1.new ht2.new)
          obtain ⟨x0, x1, x2, x3, _⟩ := ht1
          obtain ⟨y0, y1, y2, y3, _⟩ := ht2
          clear hb7 c0 c1 c2 c3 c4 c5 c6 c7 c8 c9 c10 c11 hxn
          go_wp2_with fail
          refine HSAME.out.mono ?_
          rintro e w8 ⟨rfl, hb8⟩
          have hb68 := HB67.out.trans (hb8.mono HB67.out.size)
          have HV := Lib.hid (versions_of (L := X.vs) w8 (HS6.out.below hb68) rfl)
          have HB68 := Lib.hid hb68
          have HB8 := Lib.hid hb8
          have z0 := (hb8.cell (p := ⟨b1, 0, none⟩) (cell_lt x0)).trans x0
          have z1 := (hb8.cell (p := ⟨b1, 1, none⟩) (cell_lt x1)).trans x1
          have z2 := (hb8.cell (p := ⟨b1, 2, none⟩) (cell_lt x2)).trans x2
          have z3 := (hb8.cell (p := ⟨b1, 3, none⟩) (cell_lt x3)).trans x3
          clear hb8 hb68 x0 x1 x2 x3 y0 y1 y2 y3 HSAME
          go_wp2_with fail
          refine HV.out.mono ?_
          rintro e w9 ⟨A9, m9, c9, rfl, hn9, hb9⟩
          have hb69 := HB68.out.trans (hb9.mono HB68.out.size)
          have hst := HS6.out.ok.st
          have HSM := Lib.hid (alike_is (b := true) c5' c9 w9 (HN5.out.below (HB56.out.trans (hb69.mono HB56.out.size))).at_ hn9.at_ hst hst (by simp))
          have HB69 := Lib.hid hb69
          have x0 := (hb9.cell (p := ⟨b1, 0, none⟩) (cell_lt z0)).trans z0
          have x1 := (hb9.cell (p := ⟨b1, 1, none⟩) (cell_lt z1)).trans z1
          have x2 := (hb9.cell (p := ⟨b1, 2, none⟩) (cell_lt z2)).trans z2
          have x3 := (hb9.cell (p := ⟨b1, 3, none⟩) (cell_lt z3)).trans z3
          clear hn9 hb9 hb69 hst z0 z1 z2 z3 HV
          go_wp2_with fail
          refine HSM.out.mono ?_
          rintro e wa ⟨rfl, hba⟩
          have hb6a := HB69.out.trans (hba.mono HB69.out.size)
          have HR := Lib.hid (rules_of (n := xn) wa (HS6.out.below hb6a) HXN.out)
          have HB6a := Lib.hid hb6a
          have z0 := (hba.cell (p := ⟨b1, 0, none⟩) (cell_lt x0)).trans x0
          have z1 := (hba.cell (p := ⟨b1, 1, none⟩) (cell_lt x1)).trans x1
          have z2 := (hba.cell (p := ⟨b1, 2, none⟩) (cell_lt x2)).trans x2
          have z3 := (hba.cell (p := ⟨b1, 3, none⟩) (cell_lt x3)).trans x3
          clear hba hb6a x0 x1 x2 x3 HSM
          go_wp2_with fail
          refine HR.out.mono ?_
          rintro e wb ⟨Ab, cb, rfl, hob, hbb⟩
          have hb6b := HB6a.out.trans (hbb.mono HB6a.out.size)
          have ho6 := own_below HR6.out hb6b
          rw [HXN.out] at ho6
          have HEQ := Lib.hid (eqR_yes A6 Ab xn c6' cb X.rs wb (OwnR.slr ho6).1 (OwnR.slr hob).1 (by have := rules_le HS6.out.ok; rw [HXN.out] at this; exact this))
          have HB6b := Lib.hid hb6b
          have x0 := (hbb.cell (p := ⟨b1, 0, none⟩) (cell_lt z0)).trans z0
          have x1 := (hbb.cell (p := ⟨b1, 1, none⟩) (cell_lt z1)).trans z1
          have x2 := (hbb.cell (p := ⟨b1, 2, none⟩) (cell_lt z2)).trans z2
          have x3 := (hbb.cell (p := ⟨b1, 3, none⟩) (cell_lt z3)).trans z3
          clear hob hbb hb6b ho6 z0 z1 z2 z3 HR
          go_wp2_with fail
          refine HEQ.out.mono ?_
          rintro e wd ⟨rfl, hbd⟩
          have HBF := Lib.hid (HB6.out.trans ((HB6b.out.trans (hbd.mono HB6b.out.size)).mono HB6.out.size))
          have z0 := (hbd.cell (p := ⟨b1, 0, none⟩) (cell_lt x0)).trans x0
          have z1 := (hbd.cell (p := ⟨b1, 1, none⟩) (cell_lt x1)).trans x1
          have z2 := (hbd.cell (p := ⟨b1, 2, none⟩) (cell_lt x2)).trans x2
          have z3 := (hbd.cell (p := ⟨b1, 3, none⟩) (cell_lt x3)).trans x3
          clear hbd x0 x1 x2 x3 HEQ
          obtain ⟨er, her⟩ : ∃ er, T.code = er := ⟨_, rfl⟩
          rw [her] at z0
          by_cases h0 : er = 0
          · subst h0
            clear her z1 z2 z3
            go_wp2_with fail
            go_ret
            exact ⟨rfl, HBF.out⟩
          · obtain ⟨_, hvs, hids, hns⟩ := wrong_math (X := X) (o := o) (by rw [HTT.out, her]; exact h0)
            rw [HTT.out] at hvs hids hns
            rw [hvs] at z1
            rw [hids] at z2
            rw [hns] at z3
            have h1 : (er == 0) = false := by simpa using h0
            clear her hvs hids hns h0
            go_wp2_with fail
            go_ret
            exact ⟨rfl, HBF.out⟩
      · have hcs : ((kd == 1) = true) ∨ ((kd == 1) = false ∧ (kd == 2) = true) ∨ ((kd == 1) = false ∧ (kd == 2) = false ∧ (kd == 3) = true) ∨ ((kd == 1) = false ∧ (kd == 2) = false ∧ (kd == 3) = false ∧ (kd == 7) = true) := by
          by_cases h1 : kd = 1
          · exact .inl (by simp [h1])
          · by_cases h2 : kd = 2
            · exact .inr (.inl ⟨by simp [h2], by simp [h2]⟩)
            · by_cases h3 : kd = 3
              · exact .inr (.inr (.inl ⟨by simp [h3], by simp [h3], by simp [h3]⟩))
              · by_cases h7 : kd = 7
                · exact .inr (.inr (.inr ⟨by simp [h7], by simp [h7], by simp [h7], by simp [h7]⟩))
                · exact absurd ⟨h1, h2, h3, h7⟩ hkk
        clear hkk
        rcases hcs with e1 | ⟨e1, e2⟩ | ⟨e1, e2, e3⟩ | ⟨e1, e2, e3, e7⟩
        all_goals
          go_wp2_with fail
          go_ret
          exact ⟨rfl, HB4.out⟩
end Go.Proofs.YteimdhkajbldjaaGreat
