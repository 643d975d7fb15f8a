/- ServerReads' walk. -/
import Derived.Test.YteimdhkajbldjaaSrvB
import Derived.Test.YteimdhkajbldjaaVAsk
import Derived.Test.YteimdhkajbldjaaVRead
import Derived.Test.YteimdhkajbldjaaREq
import Derived.Lib.QuietBelow
import Derived.BigQuiet
import Derived.Deep.QuietTactic
set_option linter.unusedVariables false
set_option linter.unusedSimpArgs false
set_option maxRecDepth 100000
namespace Go.Proofs.Yteimdhkajbldjaa
open Go.RowKit Go.Sort

theorem chk_sees {X : SrvX} {x : WhoL} {c : Int} (h : chkE X x c = 0) : seE X x = 0 ∧ among c (seV X x : Int) = true := by
  unfold chkE at h
  split at h
  · contradiction
  · rename_i h0
    split at h
    · rename_i h1
      have h00 : maE X x c = 0 := Classical.byContradiction h0
      unfold maV mayV at h1
      rw [Bool.and_eq_true, decide_eq_true_eq, decide_eq_true_eq] at h1
      refine ⟨?_, ?_⟩
      · unfold maE mayE at h00
        split at h00
        · rename_i h2
          exact absurd h00 h2
        · rename_i h2
          exact Classical.byContradiction h2
      · unfold among
        rw [decide_eq_true_eq, Int.toNat_natCast]
        exact h1.2
    · cases h
def withV (X : SrvX) (vs : List VerL) : SrvX := { X with vs := X.vs ++ vs }
theorem hist_put (l : List VerL) (r : RecL) : hist (l ++ [⟨r, false⟩]) r.id = hist l r.id ++ [⟨r, false⟩] := by
  unfold hist
  rw [List.filter_append]
  simp [sEq_iff]
structure ReadsM (X : SrvX) (x : WhoL) (r : RecL) : Prop where
  ok : r.Ok
  x1 : doX X ⟨2, x, 0, allR, r, ⟨#[]⟩, ⟨⟨#[]⟩, ⟨#[]⟩⟩⟩ = withV X [⟨r, false⟩]
  g : doT (withV X [⟨r, false⟩]) ⟨4, x, 0, allR, RecL.zero, r.id, ⟨⟨#[]⟩, ⟨#[]⟩⟩⟩ = ⟨0, [⟨r, false⟩], [], []⟩
  h : ∃ H, doT (withV X [⟨r, false⟩]) ⟨6, x, 0, allR, RecL.zero, r.id, ⟨⟨#[]⟩, ⟨#[]⟩⟩⟩ = ⟨0, H ++ [⟨r, false⟩], [], []⟩
  c : (∃ er, (er = 0 ∨ er = 2) ∧ doT (withV X [⟨r, false⟩]) ⟨3, x, 0, allR, ⟨⟨#[]⟩, r.cats, [], []⟩, r.id, ⟨⟨#[]⟩, ⟨#[]⟩⟩⟩ = ⟨er, [], [], []⟩ ∧
    (er = 0 → doX (withV X [⟨r, false⟩]) ⟨3, x, 0, allR, ⟨⟨#[]⟩, r.cats, [], []⟩, r.id, ⟨⟨#[]⟩, ⟨#[]⟩⟩⟩ = withV (withV X [⟨r, false⟩]) [goneV r.id r.cats] ∧
      (doT (withV (withV X [⟨r, false⟩]) [goneV r.id r.cats]) ⟨4, x, 0, allR, RecL.zero, r.id, ⟨⟨#[]⟩, ⟨#[]⟩⟩⟩ = ⟨4, [], [], []⟩ ∨
        ∃ v : RecL, v.cats ≠ r.cats ∧ doT (withV (withV X [⟨r, false⟩]) [goneV r.id r.cats]) ⟨4, x, 0, allR, RecL.zero, r.id, ⟨⟨#[]⟩, ⟨#[]⟩⟩⟩ = ⟨0, [⟨v, false⟩], [], []⟩)))
theorem reads_math {X : SrvX} (hok : X.Ok) {x : WhoL} {r : RecL} (h0 : putC X x r = 0) : ReadsM X x r := by
  have hr : r.err = 0 := by
    apply Classical.byContradiction
    intro hr
    rw [putC_rec hr] at h0
    exact hr h0
  have hc : chkE X x r.cats = 0 := by
    apply Classical.byContradiction
    intro hc
    rw [putC_chk hr hc] at h0
    exact hc h0
  have hro := r.err_ok.1 hr
  obtain ⟨hse, ham⟩ := chk_sees hc
  have hYok : (withV X [⟨r, false⟩]).Ok := by
    have := hok.put x r
    rw [putS_yes h0] at this
    exact this
  have hsY : stErr (X.vs ++ [⟨r, false⟩]) = 0 := hYok.st
  have hp1 : ∀ l : List VerL, prt (l ++ [⟨r, false⟩]) (seV X x : Int) = prt l (seV X x : Int) ++ [⟨r, false⟩] := fun l => by
    rw [prt_append, prt_one, if_pos ham]
  have hp2 : ∀ l : List VerL, prt (l ++ [goneV r.id r.cats]) (seV X x : Int) = prt l (seV X x : Int) ++ [goneV r.id r.cats] := fun l => by
    rw [prt_append, prt_one, if_pos (by exact ham)]
  have hlY : seenL (withV X [⟨r, false⟩]) x = prt X.vs (seV X x : Int) ++ [⟨r, false⟩] := hp1 X.vs
  have hgY := get_some (l := prt X.vs (seV X x : Int) ++ [⟨r, false⟩]) (id := r.id) (by rw [← hp1]; exact prt_st hsY _) (getV_put _ r)
  have hseY : ∀ vs, seE (withV X vs) x = 0 := fun vs => hse
  have hgC : getC (withV X [⟨r, false⟩]) x r.id = 0 := by
    unfold getC
    rw [if_neg (fun k => k (hseY _)), hlY]
    exact hgY.1
  have hhC : histC (withV X [⟨r, false⟩]) x r.id = 0 := by
    unfold histC
    rw [if_neg (fun k => k (hseY _)), hlY]
    exact (histErr_yes (by rw [← hp1]; exact prt_st hsY _) (by rw [hist_put]; simp)).1
  refine ⟨hro, ?_, ?_, ⟨hist (prt X.vs (seV X x : Int)) r.id, ?_⟩, ?_⟩
  · rw [doX_2 rfl]
    exact putS_yes h0
  · rw [doT_4 rfl]
    show (⟨getC (withV X [⟨r, false⟩]) x r.id, getT (withV X [⟨r, false⟩]) x r.id, [], []⟩ : ToldL) = _
    unfold getT
    rw [if_pos hgC, hgC, hlY, hgY.2]
  · rw [doT_6 rfl]
    show (⟨histC (withV X [⟨r, false⟩]) x r.id, histT (withV X [⟨r, false⟩]) x r.id, [], []⟩ : ToldL) = _
    unfold histT
    rw [if_pos hhC, hhC, hlY, hist_put]
  · have hck : chkE (withV X [⟨r, false⟩]) x r.cats = 0 := hc
    have hcc : cutC (withV X [⟨r, false⟩]) x r.id r.cats = 0 ∨ cutC (withV X [⟨r, false⟩]) x r.id r.cats = 2 := by
      rw [cutC_cut hck]
      show cutErr (X.vs ++ [⟨r, false⟩]) r.id r.cats = 0 ∨ cutErr (X.vs ++ [⟨r, false⟩]) r.id r.cats = 2
      unfold cutErr
      rw [if_neg (fun k => k hsY), if_neg (by rw [hro.id]; decide), if_neg (fun k => k ⟨hro.c0, hro.c1⟩), if_neg (by rw [lives_put]; decide)]
      split
      · exact .inr rfl
      · exact .inl rfl
    refine ⟨_, hcc, by rw [doT_3 rfl], fun e0 => ⟨?_, ?_⟩⟩
    · rw [doX_3 rfl]
      exact cutS_yes e0
    · have hZok : (withV (withV X [⟨r, false⟩]) [goneV r.id r.cats]).Ok := by
        have := hYok.cut x r.id r.cats
        rw [cutS_yes e0] at this
        exact this
      have hsZ : stErr (X.vs ++ [⟨r, false⟩] ++ [goneV r.id r.cats]) = 0 := hZok.st
      have hlZ : seenL (withV (withV X [⟨r, false⟩]) [goneV r.id r.cats]) x = prt X.vs (seV X x : Int) ++ [⟨r, false⟩] ++ [goneV r.id r.cats] := by
        show prt (X.vs ++ [⟨r, false⟩] ++ [goneV r.id r.cats]) (seV X x : Int) = _
        rw [hp2, hp1]
      have hsl : stErr (prt X.vs (seV X x : Int) ++ [⟨r, false⟩] ++ [goneV r.id r.cats]) = 0 := by
        rw [← hp1, ← hp2]
        exact prt_st hsZ _
      have hseZ : seE (withV (withV X [⟨r, false⟩]) [goneV r.id r.cats]) x = 0 := hse
      have hT : ∀ ec er, getErr (prt X.vs (seV X x : Int) ++ [⟨r, false⟩] ++ [goneV r.id r.cats]) r.id = ec → getR (prt X.vs (seV X x : Int) ++ [⟨r, false⟩] ++ [goneV r.id r.cats]) r.id = er → doT (withV (withV X [⟨r, false⟩]) [goneV r.id r.cats]) ⟨4, x, 0, allR, RecL.zero, r.id, ⟨⟨#[]⟩, ⟨#[]⟩⟩⟩ = ⟨ec, if ec = 0 then [⟨er, false⟩] else [], [], []⟩ := fun ec er h1 h2 => by
        have hg : getC (withV (withV X [⟨r, false⟩]) [goneV r.id r.cats]) x r.id = ec := by
          unfold getC
          rw [if_neg (fun k => k hseZ), hlZ]
          exact h1
        rw [doT_4 rfl]
        show (⟨getC (withV (withV X [⟨r, false⟩]) [goneV r.id r.cats]) x r.id, getT (withV (withV X [⟨r, false⟩]) [goneV r.id r.cats]) x r.id, [], []⟩ : ToldL) = _
        unfold getT
        rw [hg, hlZ, h2]
      cases hv : getV (prt X.vs (seV X x : Int) ++ [⟨r, false⟩] ++ [goneV r.id r.cats]) r.id with
      | none => exact .inl (hT 4 _ (get_none hsl hv).1 rfl)
      | some v => exact .inr ⟨v.r, getV_putCut_ne hv, hT 0 _ (get_some hsl hv).1 (get_some hsl hv).2⟩

/-- who asks, and a record, in boxes of their own -/
structure RBox (w : World) (b : Nat) (x : WhoL) (r : RecL) (P : At) : Prop where
  x0 : w.cell? ⟨b, 0, none⟩ = some (.int .i64 x.role)
  x1 : w.cell? ⟨b, 1, none⟩ = some (.int .i64 x.why)
  x2 : w.cell? ⟨b, 2, none⟩ = some (.int .i64 x.time)
  r0 : w.cell? ⟨b + 1, 0, none⟩ = some (.string r.id)
  r1 : w.cell? ⟨b + 1, 1, none⟩ = some (.int .i64 r.cats)
  r2 : w.cell? ⟨b + 1, 2, none⟩ = some (.slice P.fa r.fs.length P.fc)
  r3 : w.cell? ⟨b + 1, 3, none⟩ = some (.slice P.ra r.rs.length P.rc)
theorem RBox.kept {Z : Nat → Prop} {w w' : World} {b : Nat} {x : WhoL} {r : RecL} {P : At} (h : RBox w b x r P) (k : Kept Z w w') (h0 : Z b) (h1 : Z (b + 1)) : RBox w' b x r P :=
  ⟨k.cell h0 h.x0, k.cell h0 h.x1, k.cell h0 h.x2, k.cell h1 h.r0, k.cell h1 h.r1, k.cell h1 h.r2, k.cell h1 h.r3⟩
theorem RBox.below {w w' : World} {b : Nat} {x : WhoL} {r : RecL} {P : At} (h : RBox w b x r P) (hb : Below w.heap.size w w') : RBox w' b x r P := h.kept (Z := fun _ => True) (Kept.of hb) trivial trivial
/-- what is told, in a box of its own that may be written -/
structure GB (w : World) (b : Nat) (v0 v1 v2 v3 : Value) : Prop where
  c0 : w.cell? ⟨b, 0, none⟩ = some v0
  c1 : w.cell? ⟨b, 1, none⟩ = some v1
  c2 : w.cell? ⟨b, 2, none⟩ = some v2
  c3 : w.cell? ⟨b, 3, none⟩ = some v3
  z0 : w.frozen? ⟨b, 0, none⟩ = false
  z1 : w.frozen? ⟨b, 1, none⟩ = false
  z2 : w.frozen? ⟨b, 2, none⟩ = false
  z3 : w.frozen? ⟨b, 3, none⟩ = false
theorem GB.kept {Z : Nat → Prop} {w w' : World} {b : Nat} {v0 v1 v2 v3 : Value} (h : GB w b v0 v1 v2 v3) (k : Kept Z w w') (hz : Z b) : GB w' b v0 v1 v2 v3 :=
  ⟨k.cell hz h.c0, k.cell hz h.c1, k.cell hz h.c2, k.cell hz h.c3, (k.frozen hz (cell_lt h.c0)).trans h.z0, (k.frozen hz (cell_lt h.c0)).trans h.z1, (k.frozen hz (cell_lt h.c0)).trans h.z2, (k.frozen hz (cell_lt h.c0)).trans h.z3⟩
theorem GB.below {w w' : World} {b : Nat} {v0 v1 v2 v3 : Value} (h : GB w b v0 v1 v2 v3) (hb : Below w.heap.size w w') : GB w' b v0 v1 v2 v3 := h.kept (Z := fun _ => True) (Kept.of hb) trivial
theorem GB.set {w : World} {b : Nat} {v0 v1 v2 v3 : Value} (h : GB w b v0 v1 v2 v3) (u0 u1 u2 u3 : Value) : GB ((((w.setCell ⟨b, 0, none⟩ u0).setCell ⟨b, 1, none⟩ u1).setCell ⟨b, 2, none⟩ u2).setCell ⟨b, 3, none⟩ u3) b u0 u1 u2 u3 := by
  obtain ⟨c0, c1, c2, c3, z0, z1, z2, z3⟩ := h
  constructor <;> simp [go_sem, c0, c1, c2, c3, z0, z1, z2, z3]
theorem cut_sh (c : Int) : (RecL.mk ⟨#[]⟩ c [] []).short := ⟨by show 0 ≤ maxLen; exact Nat.zero_le _, fun f h => absurd h (by simp), fun f h => absurd h (by simp)⟩

set_option maxHeartbeats 8000000 in
theorem serverReads_walk (a : Option Addr) (c : Nat) (g : List RowI) (x : WhoL) (r : RecL) (P : At) (w : World) (hs : SlG w a g) (hl : g.length ≤ c) (hm : c ≤ maxLen) (hi : r.in_ P w) (hsh : r.short) :
    Calls Try.prog 6 #[.slice a g.length c, x.v, r.v P] w fun e w' => e = .returned (.bool true) ∧ Below w.heap.size w w' := by
  obtain ⟨gl, hgl⟩ : ∃ gl, g.length = gl := ⟨_, rfl⟩
  obtain ⟨W, hW⟩ : ∃ W, W = (w.alloc (.cells #[.int .i64 x.role, .int .i64 x.why, .int .i64 x.time] 30)).alloc (.cells #[.string r.id, .int .i64 r.cats, .slice P.fa r.fs.length P.fc, .slice P.ra r.rs.length P.rc] 35) := ⟨_, rfl⟩
  have hA : Below w.heap.size w W := by rw [hW]; exact ((Below.refl _ _).alloc (Nat.le_refl _) _).alloc (by simp) _
  have hbx : RBox W w.heap.size x r P := by rw [hW]; constructor <;> simp [go_sem]
  have hsz : W.heap.size = w.heap.size + 2 := by rw [hW]; simp
  have hr0 := run_told0
  have HS := Lib.hid hs
  have HL := Lib.hid hl
  have HM := Lib.hid hm
  have HGL := Lib.hid hgl
  have HI := Lib.hid hi
  have HSH := Lib.hid hsh
  have HA := Lib.hid hA
  have HBX := Lib.hid hbx
  have HSZ := Lib.hid hsz
  have HW := Lib.hid hW
  rw [hgl]
  clear hs hl hm hgl hi hsh hA hbx hsz hW
  go_enter Try.func6, Try.ntmps6
  go_wp2_with fail
  refine (srvBegun_is _).mono ?_
  rintro e w1 ⟨rfl, hb1⟩
  rw [← HW.out] at hb1
  have HB1 := Lib.hid (HA.out.trans (hb1.mono HA.out.size))
  have HX1 := Lib.hid (HBX.out.below hb1)
  have HS1 : Hid (w.heap.size + 1 < w1.heap.size) := by
    show w.heap.size + 1 < w1.heap.size
    have h1 := hb1.size
    have h2 := HSZ.out
    omega
  clear hb1
  go_wp2_with fail
  refine (ruled_is (fun _ => False) _ (fun z h => h.elim)).mono ?_
  rintro e w2 ⟨p, rfl, hs2, hb2⟩
  have hB2 := HB1.out.trans (hb2.mono HB1.out.size)
  have HX2 := Lib.hid (HX1.out.below hb2)
  have HASK := Lib.hid (asked_is a g c w2 (HS.out.below hB2) HL.out HM.out)
  rw [HGL.out] at HASK
  have HS2 := Lib.hid hs2
  have HB2 := Lib.hid hB2
  clear hs2 hb2 hB2
  go_wp2_with fail
  refine HASK.out.mono ?_
  rintro e w3 ⟨A, n, ca, l, rfl, hn30, hrow, hb3⟩
  have HROW := Lib.hid hrow
  have HS3 := Lib.hid (HS2.out.below hb3)
  have HX3 := Lib.hid (HX2.out.below hb3)
  have HPW : Hid (p < w2.heap.size) := HS2.out.pw
  have HB3 := Lib.hid (HB2.out.trans (hb3.mono HB2.out.size))
  clear hrow hb3 HASK HS2
  go_wp2_with fail
  go_loopw [25] (fun i wr => ∃ (k : Nat) (X : SrvX), k ≤ n ∧ i = .int .i64 k ∧ Hid (LpS w1.heap.size p w3 X wr)) (fun i _ => n - (intOf i).toNat)
  case atStart => exact ⟨0, _, Nat.zero_le _, rfl, LpS.start HS3.out⟩
  case round =>
    obtain ⟨k, X, hk, rfl, HLP⟩ := hrel
    by_cases hlt : k < n
    · have hrow := HROW.out.kept HLP.out.kept (fun b hb => by have := HPW.out; omega)
      obtain ⟨y, b, off, hx, rfl, hat, hin, hok⟩ := hrow.at hlt
      obtain ⟨c0, c1, c2, c3, c4, c5, c6, c7, c8, c9, c10, c11⟩ := hat
      have hbx : Below wr.heap.size wr (wr.alloc (.cells #[.int .i64 y.o.kind, .int .i64 y.o.who.role, .int .i64 y.o.who.why, .int .i64 y.o.who.time, .slice y.P.ra y.o.n y.P.rc, .string y.o.r.id, .int .i64 y.o.r.cats, .slice y.P.p.fa y.o.r.fs.length y.P.p.fc, .slice y.P.p.ra y.o.r.rs.length y.P.p.rc, .string y.o.id, .string y.o.f.key, .string y.o.f.val] 39)) := (Below.refl _ _).alloc (Nat.le_refl _) _
      have HDO := Lib.hid ((HLP.out.below hbx).doing y.o y.P (hin.below hbx) rfl rfl)
      have i1 : (0 : Int) ≤ (k : Int) := by omega
      have i2 : (k : Int) < (n : Int) := by omega
      clear hrow hx hin hok hbx
      go_wp2_with fail
      refine HDO.out.mono ?_
      rintro e w4 ⟨P', rfl, _, hl4⟩
      have HL4 := Lib.hid hl4
      clear hl4 HDO c0 c1 c2 c3 c4 c5 c6 c7 c8 c9 c10 c11
      go_wp2_with fail
      go_roundw
      case rel => exact ⟨k + 1, _, by omega, by go_num, HL4.out⟩
      case measure => simp [intOf]; omega
    · obtain rfl : k = n := by omega
      obtain ⟨q, hs4, _, hk4⟩ := HLP.out
      have hpq : w1.heap.size ≤ p ∧ w1.heap.size ≤ q := ⟨hs4.sp, hs4.sq⟩
      have hx4 := HX3.out.kept hk4 (by have := HS1.out; omega) (by have := HS1.out; omega)
      have hb4 := HB3.out.trans (hk4.to (fun z hz => by have := HS1.out; omega) HB3.out.size)
      have hin4 : OpL.in_ ⟨2, x, 0, allR, r, ⟨#[]⟩, ⟨⟨#[]⟩, ⟨#[]⟩⟩⟩ ⟨none, 0, P⟩ wr := ⟨SlR.none _ _, Nat.le_refl _, Nat.zero_le _, HI.out.below hb4, HSH.out, str0_sh⟩
      have HX4 := Lib.hid hx4
      have HB4 := Lib.hid hb4
      have HPQ := Lib.hid hpq
      obtain ⟨x0, x1, x2, r0, r1, r2, r3⟩ := hx4
      by_cases h0 : putC X x r = 0
      · have HMA := Lib.hid (reads_math hs4.ok h0)
        have hT : doT X ⟨2, x, 0, allR, r, ⟨#[]⟩, ⟨⟨#[]⟩, ⟨#[]⟩⟩⟩ = ⟨0, [], [], []⟩ := by
          rw [doT_2 rfl]
          show (⟨putC X x r, [], [], []⟩ : ToldL) = _
          rw [h0]
        have HD := Lib.hid (do_to _ ⟨none, 0, P⟩ wr hs4 (fun z h => h.elim) hin4 hT HMA.out.x1)
        clear hs4 hk4 hpq hb4 hin4 h0 hT hlt
        go_wp2_with fail
        refine HD.out.mono ?_
        rintro e w5 ⟨P5, q5, rfl, _, hs5, _, hk5⟩
        have hx5 := HX4.out.kept hk5 (by have := HS1.out; have := HPQ.out; constructor <;> omega) (by have := HS1.out; have := HPQ.out; constructor <;> omega)
        have HB5 := Lib.hid (HB4.out.trans (hk5.to (fun z hz => by have := HS1.out; have := HPQ.out; constructor <;> omega) HB4.out.size))
        have HPQ5 : Hid (w1.heap.size ≤ p ∧ w1.heap.size ≤ q5 ∧ p < w5.heap.size ∧ q5 < w5.heap.size) := ⟨hs5.sp, hs5.sq, hs5.pw, hs5.qw⟩
        have HX5 := Lib.hid hx5
        have HS5 := Lib.hid hs5
        have HD2 := Lib.hid (do_read (⟨4, x, 0, allR, RecL.zero, r.id, ⟨⟨#[]⟩, ⟨#[]⟩⟩⟩ : OpL) ⟨none, 0, At.none⟩ w5 hs5 (fun z h => h.elim) ⟨SlR.none _ _, Nat.le_refl _, Nat.zero_le _, zero_ok _, zero_sh, str0_sh⟩ (by refine ⟨?_, ?_, ?_, ?_⟩ <;> (show (4 : Int) ≠ _; decide)) HMA.out.g)
        clear x0 x1 x2 r0 r1 r2 r3
        obtain ⟨x0, x1, x2, r0, r1, r2, r3⟩ := hx5
        clear hs5 hk5 HD
        go_wp2_with fail
        refine HD2.out.mono ?_
        rintro e w6 ⟨⟨va, vc, ia, ic, na, nc⟩, rfl, hn6, hb6⟩
        obtain ⟨lv, hl1, hl2, hl3⟩ := hn6.v.at_
        simp only at hl1 hl2 hl3
        match lv, hl1, hl2, hl3 with
        | [], hl1, _, _ => exact absurd hl1 (by simp)
        | _ :: _ :: _, hl1, _, _ => exact absurd hl1 (by simp)
        | [y], hl1, _, hl3 =>
          obtain ⟨yv, yp⟩ := y
          simp only [List.map_cons, List.map_nil, List.cons.injEq, and_true] at hl1
          subst hl1
          obtain ⟨hyi, bv, ov, rfl, v0, v1, v2, v3, v4⟩ := hl3 0 _ rfl
          simp only [Nat.zero_mul, Nat.add_zero] at v0 v1 v2 v3 v4 hyi
          obtain ⟨W6, hW6⟩ : ∃ W6, W6 = w6.alloc (.cells #[.int .i64 0, .slice (some ⟨bv, ov, none⟩) 1 vc, .slice ia 0 ic, .slice na 0 nc] 51) := ⟨_, rfl⟩
          have hA6 : Below w6.heap.size w6 W6 := by rw [hW6]; exact (Below.refl _ _).alloc (Nat.le_refl _) _
          have hg6 : GB W6 w6.heap.size (.int .i64 0) (.slice (some ⟨bv, ov, none⟩) 1 vc) (.slice ia 0 ic) (.slice na 0 nc) := by rw [hW6]; constructor <;> simp [go_sem]
          have hb56 : Below w5.heap.size w5 W6 := hb6.trans (hA6.mono hb6.size)
          have hx6 := HX5.out.below hb6
          have HX6 := Lib.hid (HX5.out.below hb56)
          have HB6 := Lib.hid (HB5.out.trans (hb56.mono HB5.out.size))
          have HS6 := Lib.hid (HS5.out.below hb56)
          have HG6 := Lib.hid hg6
          have HZ6 : Hid (w5.heap.size ≤ w6.heap.size ∧ w6.heap.size < W6.heap.size) := ⟨hb6.size, cell_lt hg6.c0⟩
          obtain ⟨H, hH⟩ := HMA.out.h
          obtain ⟨L, hL⟩ : ∃ L, H ++ [⟨r, false⟩] = L := ⟨_, rfl⟩
          obtain ⟨n7, hn7⟩ : ∃ n7, L.length = n7 := ⟨_, rfl⟩
          have HLH := Lib.hid hL
          have HN7 := Lib.hid hn7
          rw [hL] at hH
          have HD3 := Lib.hid (do_read (⟨6, x, 0, allR, RecL.zero, r.id, ⟨⟨#[]⟩, ⟨#[]⟩⟩⟩ : OpL) ⟨none, 0, At.none⟩ W6 HS6.out (fun z h => h.elim) ⟨SlR.none _ _, Nat.le_refl _, Nat.zero_le _, zero_ok _, zero_sh, str0_sh⟩ (by refine ⟨?_, ?_, ?_, ?_⟩ <;> (show (6 : Int) ≠ _; decide)) hH)
          have HYI := Lib.hid (hyi.below hA6)
          have d0 := (hA6.cell (p := ⟨bv, ov, none⟩) (cell_lt v0)).trans v0
          have d1 := (hA6.cell (p := ⟨bv, ov + 1, none⟩) (cell_lt v1)).trans v1
          have d2 := (hA6.cell (p := ⟨bv, ov + 2, none⟩) (cell_lt v2)).trans v2
          have d3 := (hA6.cell (p := ⟨bv, ov + 3, none⟩) (cell_lt v3)).trans v3
          have HDV := Lib.hid (And.intro d0 (And.intro d1 (And.intro d2 d3)))
          have HW6 := Lib.hid hW6
          rw [hW6] at HD3
          clear x0 x1 x2 r0 r1 r2 r3
          obtain ⟨x0, x1, x2, r0, r1, r2, r3⟩ := hx6
          have l0 := cell_lt x0
          have l1 := cell_lt r0
          clear hn6 hb6 hl1 hl2 hl3 hyi v0 v1 v2 v3 v4 hA6 hg6 hb56 hH hL hn7 d0 d1 d2 d3 hW6 HD2
          go_wp2_with fail
          refine HD3.out.mono ?_
          rintro e w7 ⟨⟨vb, vbc, ib, ibc, nb, nbc⟩, rfl, hn7, hb7⟩
          rw [← HW6.out] at hn7 hb7
          rw [show (ToldL.mk 0 L [] []).vs.length = n7 from HN7.out]
          obtain ⟨W8, hW8⟩ : ∃ W8, W8 = w7.alloc (.cells #[.int .i64 0, .slice vb n7 vbc, .slice ib 0 ibc, .slice nb 0 nbc] 51) := ⟨_, rfl⟩
          have hA8 : Below w7.heap.size w7 W8 := by rw [hW8]; exact (Below.refl _ _).alloc (Nat.le_refl _) _
          have hb78 : Below W6.heap.size W6 W8 := hb7.trans (hA8.mono hb7.size)
          have t0 : W8.cell? ⟨w7.heap.size, 0, none⟩ = some (.int .i64 0) := by rw [hW8]; simp [go_sem]
          have t1 : W8.cell? ⟨w7.heap.size, 1, none⟩ = some (.slice vb n7 vbc) := by rw [hW8]; simp [go_sem]
          obtain ⟨m, hmn⟩ : ∃ m, n7 = m + 1 := ⟨H.length, by rw [← HN7.out, ← HLH.out, List.length_append]; rfl⟩
          obtain ⟨lv, hl1, hl2, hl3⟩ := hn7.v.at_
          simp only at hl1 hl2 hl3
          have hlen : lv.length = m + 1 := by rw [← hmn, ← HN7.out, ← hl1, List.length_map]
          obtain ⟨⟨zv, zp⟩, hz⟩ : ∃ y, lv[m]? = some y := ⟨_, List.getElem?_eq_getElem (by omega)⟩
          have hzv : zv = ⟨r, false⟩ := by
            have e1 : L[m]? = some zv := by rw [← hl1, List.getElem?_map, hz]; rfl
            have e2 : H.length = m := by
              have := HN7.out
              rw [← HLH.out, List.length_append] at this
              simp at this
              omega
            rw [← HLH.out, List.getElem?_append_right (by omega), e2, Nat.sub_self] at e1
            exact (Option.some.inj e1).symm
          subst hzv
          obtain ⟨hzi, bu, ou, hvb, u0, u1, u2, u3, u4⟩ := hl3 m _ hz
          subst hvb
          have hn7c : n7 ≤ vbc ∧ vbc ≤ maxLen := by
            have h1 := hn7.v.cap
            have h2 : L.length = n7 := HN7.out
            simp only at h1
            omega
          have hx8 := HX6.out.below hb78
          have hg8 := HG6.out.below hb78
          obtain ⟨d0, d1, d2, d3⟩ := HDV.out
          have k0 := cell_regrown hg8.c0
          have k1 := cell_regrown hg8.c1
          have k2 := cell_regrown t0
          have k3 := cell_regrown t1
          have k4 := cell_regrown ((hb78.cell (p := ⟨bv, ov, none⟩) (cell_lt d0)).trans d0)
          have k5 := cell_regrown ((hb78.cell (p := ⟨bv, ov + 1, none⟩) (cell_lt d1)).trans d1)
          have k6 := cell_regrown ((hb78.cell (p := ⟨bv, ov + 2, none⟩) (cell_lt d2)).trans d2)
          have k7 := cell_regrown ((hb78.cell (p := ⟨bv, ov + 3, none⟩) (cell_lt d3)).trans d3)
          have k8 := cell_regrown hx8.r0
          have k9 := cell_regrown hx8.r1
          have k10 := cell_regrown hx8.r2
          have k11 := cell_regrown hx8.r3
          have k12 := cell_regrown ((hA8.cell (p := ⟨bu, ou + m * 5, none⟩) (cell_lt u0)).trans u0)
          have k13 := cell_regrown ((hA8.cell (p := ⟨bu, ou + m * 5 + 1, none⟩) (cell_lt u1)).trans u1)
          have k14 := cell_regrown ((hA8.cell (p := ⟨bu, ou + m * 5 + 2, none⟩) (cell_lt u2)).trans u2)
          have k15 := cell_regrown ((hA8.cell (p := ⟨bu, ou + m * 5 + 3, none⟩) (cell_lt u3)).trans u3)
          have HB8 := Lib.hid (HB6.out.trans (hb78.mono HB6.out.size))
          have hri1 : r.in_ yp W8 := HYI.out.below hb78
          have hri2 : r.in_ zp W8 := hzi.below hA8
          have hri3 : r.in_ P W8 := HI.out.below HB8.out
          have cS1 : ∀ d os, Calls Try.prog 22 #[r.v yp, r.v P] (grow (redrawn W8 d) os) fun e w'' => e = .returned (.bool true) ∧ ∃ p : Regrown, w'' = grow (redrawn W8 p.d) p.os := fun d os => Calls.regrown_of (same_is (b := true) r r yp P _ (hri1.below (below_regrown W8 d os)) (hri3.below (below_regrown W8 d os)) (by simp))
          have cS2 : ∀ d os, Calls Try.prog 22 #[r.v zp, r.v P] (grow (redrawn W8 d) os) fun e w'' => e = .returned (.bool true) ∧ ∃ p : Regrown, w'' = grow (redrawn W8 p.d) p.os := fun d os => Calls.regrown_of (same_is (b := true) r r zp P _ (hri2.below (below_regrown W8 d os)) (hri3.below (below_regrown W8 d os)) (by simp))
          have HX8 := Lib.hid hx8
          have HG8 := Lib.hid hg8
          have HS8 := Lib.hid (HS6.out.below hb78)
          have HW8 := Lib.hid hW8
          have e0 : ((n7 : Int) == 0) = false := by simp; omega
          have hwr : IntKind.i64.wrap ((n7 : Int) - 1) = (m : Int) := by
            have := hn7c.1
            have := hn7c.2
            unfold maxLen at this
            rw [IntKind.wrap_i64]
            omega
          have j0 : (0 : Int) ≤ (m : Int) := by omega
          have j1 : (m : Int) < (n7 : Int) := by omega
          have HWR := Lib.hid hwr
          clear hn7 hb7 hl1 hl2 hl3 hlen hz hzi u0 u1 u2 u3 u4 hn7c hx8 hg8 d0 d1 d2 d3 hri1 hri2 hri3 hA8 hb78 t0 t1 hW8 HD3 hmn hwr
          clear x0 x1 x2 r0 r1 r2 r3 l0 l1
          go_wp2_with fail
          rw [← HW8.out]
          have hwr := HWR.out
          refine region_below_lit (by kernel_rfl) (by kernel_rfl) ?_
          repeat (go_big_quiet_step (with_reducible first | exact cS1 _ _ | exact cS2 _ _))
          refine wpQuiet_nil ?_
          intro _ hw'
          obtain ⟨⟨dq, osq⟩, hw''⟩ := hw'
          subst hw''
          have hbq := below_regrown W8 dq osq
          have HB9 := Lib.hid (HB8.out.trans (hbq.mono HB8.out.size))
          have hx9 := HX8.out.below hbq
          have hg9 := HG8.out.below hbq
          have hs9 := HS8.out.below hbq
          have hz9 : w6.heap.size < W8.heap.size := cell_lt HG8.out.c0
          generalize grow (redrawn W8 dq) osq = w9 at HB9 hx9 hg9 hs9 ⊢
          clear k0 k1 k2 k3 k4 k5 k6 k7 k8 k9 k10 k11 k12 k13 k14 k15 cS1 cS2 hbq hwr j0 j1 e0
          obtain ⟨er, her, hTc, hC0⟩ := HMA.out.c
          have HX9 := Lib.hid hx9
          have HG9 := Lib.hid hg9
          have HD4 := Lib.hid (do_to _ ⟨none, 0, At.none⟩ w9 hs9 (fun z h => h.elim) ⟨SlR.none _ _, Nat.le_refl _, Nat.zero_le _, bare_in _ _ rfl rfl, cut_sh _, str0_sh⟩ hTc rfl)
          obtain ⟨x0, x1, x2, r0, r1, r2, r3⟩ := hx9
          have HC0 := Lib.hid hC0
          have HER := Lib.hid her
          clear hs9 hg9 hz9 hTc hC0 her

          go_wp2_with fail
          refine HD4.out.mono ?_
          rintro e w10 ⟨P10, q10, rfl, _, hs10, _, hk10⟩
          have hoff : ∀ z, z < w1.heap.size → Off p q5 z := fun z hz => by have := HPQ5.out; constructor <;> omega
          have hofg : Off p q5 w6.heap.size := by have := HPQ5.out; have := HZ6.out; constructor <;> omega
          have hx10 := HX9.out.kept hk10 (hoff _ (by have := HS1.out; omega)) (hoff _ (by have := HS1.out; omega))
          have hg10 := HG9.out.kept hk10 hofg
          have hb10 := HB9.out.trans (hk10.to (fun z hz => hoff z (by have := HS1.out; omega)) HB9.out.size)
          obtain ⟨W10, hW10⟩ : ∃ W10, W10 = w10.alloc (.cells #[.int .i64 er, .slice P10.va 0 P10.vc, .slice P10.ia 0 P10.ic, .slice P10.na 0 P10.nc] 51) := ⟨_, rfl⟩
          have hA10 : Below w10.heap.size w10 W10 := by rw [hW10]; exact (Below.refl _ _).alloc (Nat.le_refl _) _
          have HB10 := Lib.hid (hb10.trans (hA10.mono hb10.size))
          have HS10 := Lib.hid (hs10.below hA10)
          have HX10 := Lib.hid (hx10.below hA10)
          have HG10 := Lib.hid (hg10.below hA10)
          have HBW : Hid (w.heap.size ≤ w6.heap.size ∧ w6.heap.size < W10.heap.size) := ⟨by have := HB5.out.size; have := HZ6.out; omega, cell_lt HG10.out.c0⟩
          have HW10 := Lib.hid hW10
          clear x0 x1 x2 r0 r1 r2 r3
          obtain ⟨x0, x1, x2, r0, r1, r2, r3⟩ := hx10
          have l0 := cell_lt x0
          have l1 := cell_lt r0
          clear hs10 hk10 hoff hofg hg10 hb10 hA10 hW10 HD4
          rcases HER.out with rfl | rfl
          · obtain ⟨hXc, hget⟩ := HC0.out rfl
            have hs10 := HS10.out
            rw [hXc] at hs10
            have HSC := Lib.hid hs10
            clear hXc hs10
            rcases hget with hget | ⟨v, hvc, hget⟩
            · have HD5 := Lib.hid (do_read (⟨4, x, 0, allR, RecL.zero, r.id, ⟨⟨#[]⟩, ⟨#[]⟩⟩⟩ : OpL) ⟨none, 0, At.none⟩ W10 HSC.out (fun z h => h.elim) ⟨SlR.none _ _, Nat.le_refl _, Nat.zero_le _, zero_ok _, zero_sh, str0_sh⟩ (by refine ⟨?_, ?_, ?_, ?_⟩ <;> (show (4 : Int) ≠ _; decide)) hget)
              rw [HW10.out] at HD5
              clear hget
              go_wp2_with fail
              refine HD5.out.mono ?_
              rintro e w11 ⟨⟨vd, vdc, id', idc, nd, ndc⟩, rfl, _, hb11⟩
              rw [← HW10.out] at hb11
              have hg11 := HG10.out.below hb11
              obtain ⟨W12, hW12⟩ : ∃ W12, W12 = (((w11.setCell ⟨w6.heap.size, 0, none⟩ (.int .i64 4)).setCell ⟨w6.heap.size, 1, none⟩ (.slice vd 0 vdc)).setCell ⟨w6.heap.size, 2, none⟩ (.slice id' 0 idc)).setCell ⟨w6.heap.size, 3, none⟩ (.slice nd 0 ndc) := ⟨_, rfl⟩
              have hg12 := hg11.set (.int .i64 4) (.slice vd 0 vdc) (.slice id' 0 idc) (.slice nd 0 ndc)
              rw [← hW12] at hg12
              have hkS : Kept (fun z => z ≠ w6.heap.size) w11 W12 := by
                rw [hW12]
                exact (((Kept.setCell _ (fun k => k rfl) _).trans (Kept.setCell _ (fun k => k rfl) _)).trans (Kept.setCell _ (fun k => k rfl) _)).trans (Kept.setCell _ (fun k => k rfl) _)
              have hb11' := HB10.out.trans (hb11.mono HB10.out.size)
              have HB12 := Lib.hid (hb11'.trans ((hkS.to (fun z hz => by have := HBW.out; omega) hb11'.size)))
              have HW12 := Lib.hid hW12
              have HK0 := Lib.hid (cell_regrown hg12.c0)
              obtain ⟨c0, c1, c2, c3, z0, z1, z2, z3⟩ := hg11
              clear hg12 hkS hb11 hb11' hW12 HD5 x0 x1 x2 r0 r1 r2 r3 l0 l1
              go_wp2_with fail
              rw [← HW12.out]
              clear c0 c1 c2 c3 z0 z1 z2 z3
              have k0 := HK0.out
              refine region_below_lit (by kernel_rfl) (by kernel_rfl) ?_
              repeat (go_big_quiet_step (with_reducible fail))
              refine wpQuiet_nil ?_
              intro _ hw'
              obtain ⟨⟨dq, osq⟩, hw''⟩ := hw'
              subst hw''
              have HB13 := Lib.hid (HB12.out.trans ((below_regrown W12 dq osq).mono HB12.out.size))
              generalize grow (redrawn W12 dq) osq = w13 at HB13 ⊢
              clear k0
              go_wp2_with fail
              go_ret
              exact ⟨rfl, HB13.out⟩
            · have HD5 := Lib.hid (do_read (⟨4, x, 0, allR, RecL.zero, r.id, ⟨⟨#[]⟩, ⟨#[]⟩⟩⟩ : OpL) ⟨none, 0, At.none⟩ W10 HSC.out (fun z h => h.elim) ⟨SlR.none _ _, Nat.le_refl _, Nat.zero_le _, zero_ok _, zero_sh, str0_sh⟩ (by refine ⟨?_, ?_, ?_, ?_⟩ <;> (show (4 : Int) ≠ _; decide)) hget)
              rw [HW10.out] at HD5
              clear hget
              go_wp2_with fail
              refine HD5.out.mono ?_
              rintro e w11 ⟨⟨vd, vdc, id', idc, nd, ndc⟩, rfl, hn11, hb11⟩
              rw [← HW10.out] at hb11 hn11
              obtain ⟨lv, hl1, hl2, hl3⟩ := hn11.v.at_
              simp only at hl1 hl2 hl3
              match lv, hl1, hl2, hl3 with
              | [], hl1, _, _ => exact absurd hl1 (by simp)
              | _ :: _ :: _, hl1, _, _ => exact absurd hl1 (by simp)
              | [y], hl1, _, hl3 =>
                obtain ⟨yv, yp⟩ := y
                simp only [List.map_cons, List.map_nil, List.cons.injEq, and_true] at hl1
                subst hl1
                obtain ⟨_, bz, oz, rfl, _, v1, _, _, _⟩ := hl3 0 _ rfl
                simp only [Nat.zero_mul, Nat.add_zero] at v1
                have hbz : W10.heap.size ≤ bz := by
                  obtain ⟨_, _, _, ho, _⟩ := hn11.v
                  exact (World.ownsRow.lt ho bz rfl).1
                have hg11 := HG10.out.below hb11
                obtain ⟨W12, hW12⟩ : ∃ W12, W12 = (((w11.setCell ⟨w6.heap.size, 0, none⟩ (.int .i64 0)).setCell ⟨w6.heap.size, 1, none⟩ (.slice (some ⟨bz, oz, none⟩) 1 vdc)).setCell ⟨w6.heap.size, 2, none⟩ (.slice id' 0 idc)).setCell ⟨w6.heap.size, 3, none⟩ (.slice nd 0 ndc) := ⟨_, rfl⟩
                have hg12 := hg11.set (.int .i64 0) (.slice (some ⟨bz, oz, none⟩) 1 vdc) (.slice id' 0 idc) (.slice nd 0 ndc)
                rw [← hW12] at hg12
                have hkS : Kept (fun z => z ≠ w6.heap.size) w11 W12 := by
                  rw [hW12]
                  exact (((Kept.setCell _ (fun k => k rfl) _).trans (Kept.setCell _ (fun k => k rfl) _)).trans (Kept.setCell _ (fun k => k rfl) _)).trans (Kept.setCell _ (fun k => k rfl) _)
                have hb11' := HB10.out.trans (hb11.mono HB10.out.size)
                have HB12 := Lib.hid (hb11'.trans ((hkS.to (fun z hz => by have := HBW.out; omega) hb11'.size)))
                have hx12 := (HX10.out.below hb11).kept hkS (by have := HZ6.out; have := HB5.out.size; have := HPQ5.out; have := HS1.out; omega) (by have := HZ6.out; have := HPQ5.out; have := HS1.out; omega)
                have HW12 := Lib.hid hW12
                have HK0 := Lib.hid (cell_regrown hg12.c0)
                have HK1 := Lib.hid (cell_regrown hg12.c1)
                have HK2 := Lib.hid (cell_regrown hx12.r1)
                have HK3 := Lib.hid (cell_regrown (hkS.cell (by have := HBW.out; omega) v1))
                have e5 : (v.cats != r.cats) = true := by simpa using hvc
                obtain ⟨c0, c1, c2, c3, z0, z1, z2, z3⟩ := hg11
                clear hg12 hkS hb11 hb11' hW12 HD5 x0 x1 x2 r0 r1 r2 r3 l0 l1 hn11 hl2 hl3 v1 hx12 hbz hvc
                go_wp2_with fail
                rw [← HW12.out]
                clear c0 c1 c2 c3 z0 z1 z2 z3
                have k0 := HK0.out
                have k1 := HK1.out
                have k2 := HK2.out
                have k3 := HK3.out
                refine region_below_lit (by kernel_rfl) (by kernel_rfl) ?_
                repeat (go_big_quiet_step (with_reducible fail))
                refine wpQuiet_nil ?_
                intro _ hw'
                obtain ⟨⟨dq, osq⟩, hw''⟩ := hw'
                subst hw''
                have HB13 := Lib.hid (HB12.out.trans ((below_regrown W12 dq osq).mono HB12.out.size))
                generalize grow (redrawn W12 dq) osq = w13 at HB13 ⊢
                clear k0 k1 k2 k3
                go_wp2_with fail
                go_ret
                exact ⟨rfl, HB13.out⟩
          · go_wp2_with fail
            rw [← HW10.out]
            go_ret
            exact ⟨rfl, HB10.out⟩
      · obtain ⟨er, her⟩ : ∃ er, putC X x r = er := ⟨_, rfl⟩
        have hT : doT X ⟨2, x, 0, allR, r, ⟨#[]⟩, ⟨⟨#[]⟩, ⟨#[]⟩⟩⟩ = ⟨er, [], [], []⟩ := by
          rw [doT_2 rfl, ← her]
        rw [her] at h0
        have e1 : (er == 0) = false := by simpa using h0
        have e2 : (er != 0) = true := by simpa using h0
        have HD := Lib.hid (do_to _ ⟨none, 0, P⟩ wr hs4 (fun z h => h.elim) hin4 hT rfl)
        clear hs4 hk4 hpq hb4 hin4 h0 hT her hlt
        go_wp2_with fail
        refine HD.out.mono ?_
        rintro e w5 ⟨P5, q5, rfl, _, _, _, hk5⟩
        have HB5 := Lib.hid (HB4.out.trans (hk5.to (fun z hz => by have := HS1.out; have := HPQ.out; constructor <;> omega) HB4.out.size))
        clear hk5 HD
        go_wp2_with fail
        go_ret
        exact ⟨rfl, HB5.out⟩
end Go.Proofs.Yteimdhkajbldjaa
