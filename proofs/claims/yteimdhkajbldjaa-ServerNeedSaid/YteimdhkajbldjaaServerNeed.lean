/- ServerNeed's walk. -/
import Derived.Test.YteimdhkajbldjaaSrvB
import Derived.Test.YteimdhkajbldjaaVAsk
import Derived.Maps.AppendAt
import Derived.Deep.RegionHeld3
import Derived.Lib.QuietBelow
import Derived.BigQuiet
import Derived.Deep.QuietTactic
set_option linter.unusedVariables false
set_option linter.unusedSimpArgs false
set_option maxRecDepth 100000
namespace Go.Proofs.Yteimdhkajbldjaa
open Go.RowKit Go.Sort

theorem doX_mu (X : SrvX) (o : OpL) : (doX X o).m = X.m ∧ (doX X o).u = X.u := by
  unfold doX setS putS cutS needS
  split
  · split <;> exact ⟨rfl, rfl⟩
  · split
    · split <;> exact ⟨rfl, rfl⟩
    · split
      · split <;> exact ⟨rfl, rfl⟩
      · split
        · split <;> exact ⟨rfl, rfl⟩
        · exact ⟨rfl, rfl⟩
theorem getR_id {vs : List VerL} (hst : stErr vs = 0) {id : ByteArray} (h : getErr vs id = 0) : (getR vs id).id = id := by
  cases hv : getV vs id with
  | none =>
    rw [(get_none hst hv).1] at h
    cases h
  | some v =>
    rw [(get_some hst hv).2]
    exact (getV_some hv).2.1
/-- P41: whoever reads in need is noted, and nobody else -/
theorem notes_math {X : SrvX} {o : OpL} (hok : X.Ok) :
    (o.kind = 7 ∧ (doT X o).code = 0 ∧ (∃ r : RecL, (doT X o).vs = [⟨r, false⟩] ∧ r.id = o.id) ∧ (doX X o).ns = X.ns ++ [⟨o.who, o.id⟩]) ∨
    (¬ (o.kind = 7 ∧ (doT X o).code = 0) ∧ (doX X o).ns = X.ns ∧ (o.kind = 8 → (doT X o).code = 0 → (doT X o).ns = X.ns)) := by
  by_cases h7 : o.kind = 7
  · by_cases h0 : (doT X o).code = 0
    · rw [doT_7 h7] at h0
      have h0' : needC X o.who o.id = 0 := h0
      have hg : getErr X.vs o.id = 0 := by
        unfold needC at h0'
        split at h0'
        · contradiction
        · split at h0'
          · cases h0'
          · exact h0'
      refine .inl ⟨h7, by rw [doT_7 h7]; exact h0', ⟨getR X.vs o.id, ?_, getR_id hok.st hg⟩, ?_⟩
      · rw [doT_7 h7]
        show needT X o.who o.id = _
        unfold needT
        rw [if_pos h0']
      · rw [doX_7 h7, needS_yes h0']
    · exact .inr ⟨fun k => h0 k.2, by rw [(wrong_math h0).1], fun h8 _ => by omega⟩
  · refine .inr ⟨fun k => h7 k.1, ?_, fun h8 h0 => ?_⟩
    · unfold doX setS putS cutS
      rw [if_neg h7]
      split
      · split <;> rfl
      · split
        · split <;> rfl
        · split
          · split <;> rfl
          · rfl
    · rw [doT_8 h8] at h0 ⊢
      show auditT X o.who = _
      have h0' : chkE X o.who 255 = 0 := h0
      unfold auditT
      rw [if_pos h0']

/-- block p is a server that has X, the value v a list L of notes that is none of its own; since the world w3 nothing but that block, and what is new, has changed -/
structure NeedR (S p : Nat) (w3 : World) (X : SrvX) (L : List NoteL) (v : Value) (w : World) : Prop where
  s : ∃ q, Srv w S p q (fun z => v.ownBlock = some z) X ∧ (q = p ∨ w3.heap.size ≤ q)
  n : OwnN w3.heap.size w v L
  k : Kept (fun z => z ≠ p) w3 w
theorem NeedR.start {S p : Nat} {w3 : World} {X : SrvX} (h : Srv w3 S p p (fun _ => False) X) : NeedR S p w3 X [] (.slice none 0 0) w3 :=
  ⟨⟨p, h.sub (fun z _ e => by cases e), .inl rfl⟩, World.ownsRow_nil _ _ _ _, Kept.refl _ _⟩
theorem NeedR.ok {S p : Nat} {w3 w : World} {X : SrvX} {L : List NoteL} {v : Value} (h : NeedR S p w3 X L v w) : X.Ok := by
  obtain ⟨q, h1, _⟩ := h.s
  exact h1.ok
theorem NeedR.below {S p : Nat} {w3 w w' : World} {X : SrvX} {L : List NoteL} {v : Value} (h : NeedR S p w3 X L v w) (hb : Below w.heap.size w w') : NeedR S p w3 X L v w' := by
  obtain ⟨q, h1, h2⟩ := h.s
  exact ⟨⟨q, h1.below hb, h2⟩, own_below h.n hb, h.k.trans (Kept.of hb)⟩
theorem NeedR.far {S p : Nat} {w3 w : World} {X : SrvX} {L : List NoteL} {v : Value} (h : NeedR S p w3 X L v w) (hS : S ≤ w3.heap.size) : Below S w3 w := by
  obtain ⟨q, h1, h2⟩ := h.s
  exact h.k.to (fun z hz => by have := h1.sp; omega) hS
/-- what Do leaves -/
def NeedIs (S p : Nat) (w3 : World) (T : ToldL) (X' : SrvX) (L : List NoteL) (v : Value) (wb w : World) (e : Ending) (w' : World) : Prop :=
  ∃ P : ToldP, e = .returned (.agg #[.int .i64 T.code, .slice P.va T.vs.length P.vc, .slice P.ia T.ids.length P.ic, .slice P.na T.ns.length P.nc]) ∧ NewTold w.heap.size w' T P ∧ NeedR S p w3 X' L v w' ∧
    ∃ q, p < wb.heap.size ∧ q < wb.heap.size ∧ v.ownBlock ≠ some p ∧ v.ownBlock ≠ some q ∧ Kept (Off p q) w w'
theorem NeedR.doing {S p : Nat} {w3 wb w : World} {X X' : SrvX} {L : List NoteL} {v : Value} {T : ToldL} (h : NeedR S p w3 X L v wb) (hb : Below wb.heap.size wb w) (o : OpL) (P : OpP) (hi : o.in_ P w) (hT : doT X o = T) (hX : doX X o = X') :
    Calls Try.prog 16 #[ptr p, o.v P] w (NeedIs S p w3 T X' L v wb w) := by
  obtain ⟨q, h1, h2⟩ := h.s
  have hn := h.n
  have h3 := h.k.trans (Kept.of hb)
  have hlt : ∀ z, v.ownBlock = some z → z < wb.heap.size := fun z hz => (World.ownsRow.lt hn z hz).2
  refine (do_to o P w (h1.below hb) (fun z hz => Nat.lt_of_lt_of_le (hlt z hz) hb.size) hi hT hX).mono ?_
  rintro e w' ⟨P', q', rfl, hnt, hs, hq, hk⟩
  have hsz := h3.size
  have k3 : Kept (fun z => z ≠ p ∧ z < w3.heap.size) w3 w' := (h3.sub fun z _ hz => hz.1).trans (hk.sub fun z _ hz => ⟨hz.1, fun e => by
    rcases h2 with e2 | e2
    · exact hz.1 (e.trans e2)
    · omega⟩)
  refine ⟨P', rfl, hnt, ⟨⟨q', hs, ?_⟩, own_kept (own_below hn hb) hk (fun z hz => ⟨fun e => h1.fp (by rw [← e]; exact hz), fun e => h1.fq (by rw [← e]; exact hz)⟩), k3.sub fun z hl hz => ⟨hz, hl⟩⟩, q, h1.pw, h1.qw, fun e => h1.fp e, fun e => h1.fq e, hk⟩
  rcases hq with e | e
  · rw [e]; exact h2
  · exact .inr (by omega)
theorem NeedR.app {S p : Nat} {w3 w w' : World} {X : SrvX} {L L' : List NoteL} {v v' : Value} (h : NeedR S p w3 X L v w) (hg : w.grownBy w' v.ownBlock) (hn : OwnN w3.heap.size w' v' L') (ha : v'.ownBlock = v.ownBlock ∨ v'.ownBlock = some w.heap.size) : NeedR S p w3 X L' v' w' := by
  obtain ⟨q, h1, h2⟩ := h.s
  refine ⟨⟨q, h1.keep (Kept.grown hg fun z hz e => hz e.symm) (fun z hl hz => ?_), h2⟩, hn, ?_⟩
  · rcases ha with e | e
    · rw [← e]; exact hz
    · rw [e] at hz
      cases hz
      exact absurd hl (Nat.lt_irrefl _)
  · have k := h.k
    have k2 : Kept (fun z => z ≠ p ∧ z < w3.heap.size) w3 w' := (k.sub fun z _ hz => hz.1).trans (Kept.grown hg fun z hz e => by
      have := (World.ownsRow.lt h.n z e.symm).1
      omega)
    exact k2.sub fun z hl hz => ⟨hz, hl⟩
/-- the one rule that lets all be audited -/
def allW : Nat → RuleL := fun _ => ⟨-1, -1, 0, 1000, 255, true⟩
theorem allW_ok : rulesErr 1 allW = 0 := by decide
def opAllW : OpL := ⟨1, ⟨0, 0, 0⟩, 1, allW, RecL.zero, ⟨#[]⟩, ⟨⟨#[]⟩, ⟨#[]⟩⟩⟩
def opAud : OpL := ⟨8, ⟨0, 0, 0⟩, 0, allR, RecL.zero, ⟨#[]⟩, ⟨⟨#[]⟩, ⟨#[]⟩⟩⟩
def audX (vs : List VerL) (ns : List NoteL) : SrvX := ⟨3, fun k => k, 1, allW, vs, ns⟩
theorem aud_chk (vs : List VerL) (ns : List NoteL) : chkE (audX vs ns) ⟨0, 0, 0⟩ 255 = 0 := by
  show chkE (audX [] []) ⟨0, 0, 0⟩ 255 = 0
  decide +kernel
theorem cell_note0 (w : World) (x : NoteL) (t : TypeId) : ∀ j u, (cellsN [x])[j]? = some u → (w.alloc (.cells #[.int .i64 x.who.role, .int .i64 x.who.why, .int .i64 x.who.time, .string x.id] t)).cell? ((⟨w.heap.size, 0, none⟩ : Addr).add j) = some u := fun j u hj => by
  have hadd : (⟨w.heap.size, 0, none⟩ : Addr).add j = ⟨w.heap.size, j, none⟩ := by unfold Addr.add; split <;> simp_all
  rw [hadd]
  have e : cellsN [x] = [.int .i64 x.who.role, .int .i64 x.who.why, .int .i64 x.who.time, .string x.id] := rfl
  rw [e] at hj
  match j, hj with
  | 0, hj => cases hj; simp [go_sem]
  | 1, hj => cases hj; simp [go_sem]
  | 2, hj => cases hj; simp [go_sem]
  | 3, hj => cases hj; simp [go_sem]

set_option maxHeartbeats 8000000 in
theorem serverNeed_walk (a : Option Addr) (c : Nat) (g : List RowI) (w : World) (hs : SlG w a g) (hl : g.length ≤ c) (hm : c ≤ maxLen) :
    Calls Try.prog 4 #[.slice a g.length c] w fun e w' => e = .returned (.bool true) ∧ Below w.heap.size w w' := by
  obtain ⟨iN, hiN, hz0, hz1, hz2⟩ := info_parts Try.infoNote
  obtain ⟨gl, hgl⟩ : ∃ gl, g.length = gl := ⟨_, rfl⟩
  have hr0 := run_told0
  have HS := Lib.hid hs
  have HL := Lib.hid hl
  have HM := Lib.hid hm
  have HGL := Lib.hid hgl
  rw [hgl]
  clear hs hl hm hgl
  go_enter Try.func4, Try.ntmps4
  go_wp2_with fail
  refine (srvBegun_is _).mono ?_
  rintro e w1 ⟨rfl, hb1⟩
  have HB1 := Lib.hid hb1
  clear hb1
  go_wp2_with fail
  refine (ruled_is (fun _ => False) _ (fun z h => h.elim)).mono ?_
  rintro e w2 ⟨p, rfl, hs2, hb2⟩
  have hB2 := HB1.out.trans (hb2.mono HB1.out.size)
  have HASK := Lib.hid (asked_is a g c w2 (HS.out.below hB2) HL.out HM.out)
  rw [HGL.out] at HASK
  have HS2 := Lib.hid hs2
  have HB2 := Lib.hid hB2
  clear hs2 hb2 hB2
  go_wp2_with fail
  refine HASK.out.mono ?_
  rintro e w3 ⟨A, n, ca, l, rfl, hn30, hrow, hb3⟩
  have HROW := Lib.hid hrow
  have HS3 := Lib.hid (HS2.out.below hb3)
  have HPW : Hid (p < w2.heap.size) := HS2.out.pw
  have HB3 := Lib.hid (HB2.out.trans (hb3.mono HB2.out.size))
  have HNEW := Lib.hid hrow.own
  clear hrow hb3 HASK HS2
  go_wp2_with fail
  go_loopw [5, 22] (fun s i wr => ∃ (k : Nat) (X : SrvX) (v : Value), k ≤ n ∧ i = .int .i64 k ∧ v = s ∧ Hid (X.m = 3 ∧ X.u = fun k => k) ∧ Hid (NeedR w1.heap.size p w3 X X.ns v wr)) (fun _ i _ => n - (intOf i).toNat)
  case atStart => exact ⟨0, _, _, Nat.zero_le _, rfl, rfl, ⟨rfl, rfl⟩, NeedR.start HS3.out⟩
  case round =>
    obtain ⟨k, X, v, hk, rfl, rfl, HMU, HLP⟩ := hrel
    by_cases hlt : k < n
    · have hrow := HROW.out.kept HLP.out.k (fun b hb => by have := HPW.out; omega)
      obtain ⟨x, b, off, hx, rfl, hat, hin, hok⟩ := hrow.at hlt
      obtain ⟨c0, c1, c2, c3, c4, c5, c6, c7, c8, c9, c10, c11⟩ := hat
      obtain ⟨W1, hW1⟩ : ∃ W1, W1 = wr.alloc (.cells #[.int .i64 x.o.kind, .int .i64 x.o.who.role, .int .i64 x.o.who.why, .int .i64 x.o.who.time, .slice x.P.ra x.o.n x.P.rc, .string x.o.r.id, .int .i64 x.o.r.cats, .slice x.P.p.fa x.o.r.fs.length x.P.p.fc, .slice x.P.p.ra x.o.r.rs.length x.P.p.rc, .string x.o.id, .string x.o.f.key, .string x.o.f.val] 39) := ⟨_, rfl⟩
      have hA1 : Below wr.heap.size wr W1 := by rw [hW1]; exact (Below.refl _ _).alloc (Nat.le_refl _) _
      have hat1 : OpAt W1 wr.heap.size 0 x := by rw [hW1]; constructor <;> simp [go_sem]
      have HAT := Lib.hid hat1
      have HSZ1 : Hid (W1.heap.size = wr.heap.size + 1) := by show _ = _; rw [hW1]; simp
      obtain ⟨⟨er, tv, ti, tn⟩, hT⟩ : ∃ T, doT X x.o = T := ⟨_, rfl⟩
      obtain ⟨X', hX'⟩ : ∃ X', doX X x.o = X' := ⟨_, rfl⟩
      have hmath := notes_math (o := x.o) HLP.out.ok
      rw [hT, hX'] at hmath
      obtain ⟨tl, htl⟩ : ∃ tl, tv.length = tl := ⟨_, rfl⟩
      obtain ⟨nl, hnl⟩ : ∃ nl, tn.length = nl := ⟨_, rfl⟩
      have HTL := Lib.hid htl
      have HNN := Lib.hid hnl
      have HMU' : Hid (X'.m = 3 ∧ X'.u = fun k => k) := by
        show _ ∧ _
        rw [← hX']
        exact ⟨(doX_mu X x.o).1.trans HMU.out.1, (doX_mu X x.o).2.trans HMU.out.2⟩
      have HDO := Lib.hid (HLP.out.doing hA1 x.o x.P (hin.below hA1) hT hX')
      have HMATH := Lib.hid hmath
      have HNL := Lib.hid (HLP.out.n)
      have HW1 := Lib.hid hW1
      rw [hW1] at HDO
      have i1 : (0 : Int) ≤ (k : Int) := by omega
      have i2 : (k : Int) < (n : Int) := by omega
      clear hrow hx hin hok hA1 hat1 hW1 hT hX' hmath htl hnl
      go_wp2_with fail
      refine HDO.out.mono ?_
      rintro e w4 ⟨⟨va, vc, ia, ic, na, nc⟩, rfl, hnt, hl4, q, hpb, hqb, hvp, hvq, hk4⟩
      rw [← HW1.out] at hnt hk4
      rw [show (ToldL.mk er tv ti tn).vs.length = tl from HTL.out, show (ToldL.mk er tv ti tn).ns.length = nl from HNN.out]
      obtain ⟨W7, hW7⟩ : ∃ W7, W7 = w4.alloc (.cells #[.int .i64 er, .slice va tl vc, .slice ia ti.length ic, .slice na nl nc] 51) := ⟨_, rfl⟩
      have hA7 : Below w4.heap.size w4 W7 := by rw [hW7]; exact (Below.refl _ _).alloc (Nat.le_refl _) _
      have t0 : W7.cell? ⟨w4.heap.size, 0, none⟩ = some (.int .i64 er) := by rw [hW7]; simp [go_sem]
      have t1 : W7.cell? ⟨w4.heap.size, 1, none⟩ = some (.slice va tl vc) := by rw [hW7]; simp [go_sem]
      have t3 : W7.cell? ⟨w4.heap.size, 3, none⟩ = some (.slice na nl nc) := by rw [hW7]; simp [go_sem]
      have hoff : Off p q wr.heap.size := ⟨by omega, by omega⟩
      have hat4 := HAT.out.kept hk4 hoff
      have hat7 := hat4.below hA7
      have HAT4 := Lib.hid hat4
      have HS7 : Hid (W7.heap.size = w4.heap.size + 1) := by show _ = _; rw [hW7]; simp
      have HL7 := Lib.hid (hl4.below hA7)
      have HNT := Lib.hid (hnt.below hA7)
      have HAT7 := Lib.hid hat7
      have hvl : ∀ z, v.ownBlock = some z → z < wr.heap.size := fun z hz => (World.ownsRow.lt HNL.out z hz).2
      have HVL := Lib.hid hvl
      have hz14 : W1.heap.size ≤ w4.heap.size := hk4.size
      have hz47 : w4.heap.size < W7.heap.size := cell_lt t0
      have HZ := Lib.hid (show wr.heap.size < W1.heap.size ∧ W1.heap.size ≤ w4.heap.size ∧ w4.heap.size < W7.heap.size from ⟨by rw [HSZ1.out]; omega, hz14, hz47⟩)
      have HW7 := Lib.hid hW7
      have HT := Lib.hid (And.intro t0 (And.intro t1 t3))
      clear hnt hl4 hpb hqb hvp hvq hk4 hW7 hA7 t0 t1 t3 hoff hat7 hat4 hvl hz14 hz47 HDO c0 c1 c2 c3 c4 c5 c6 c7 c8 c9 c10 c11
      rcases HMATH.out with ⟨h7, he0, ⟨r, hr, hri⟩, hns⟩ | ⟨hno, hns, h8⟩
      · have e7 : (x.o.kind == 7) = true := by simp [h7]
        have e8 : (x.o.kind == 8) = false := by simp [h7]
        have he : er = 0 := he0
        have hv : tv = [⟨r, false⟩] := hr
        subst he
        subst hv
        have htl : 1 = tl := HTL.out
        subst htl
        obtain ⟨lv, hl1, hl2, hl3⟩ := HNT.out.v.at_
        simp only at hl1 hl2 hl3
        match lv, hl1, hl2, hl3 with
        | [], hl1, _, _ => exact absurd hl1 (by simp)
        | _ :: _ :: _, hl1, _, _ => exact absurd hl1 (by simp)
        | [y], hl1, _, hl3 =>
          obtain ⟨yv, yp⟩ := y
          simp only [List.map_cons, List.map_nil, List.cons.injEq, and_true] at hl1
          subst hl1
          obtain ⟨hyi, bv, ov, rfl, v0, v1, v2, v3, v4⟩ := hl3 0 _ rfl
          simp only [Nat.zero_mul, Nat.add_zero] at v0 v1 v2 v3 v4
          have hbv : W1.heap.size ≤ bv := by
            obtain ⟨_, _, _, ho, _⟩ := HNT.out.v
            exact (World.ownsRow.lt ho bv rfl).1
          obtain ⟨d0, d1, d2, d3, d4, d5, d6, d7, d8, d9, d10, d11⟩ := HAT7.out
          simp only [Nat.zero_add] at d0 d1 d2 d3 d4 d5 d6 d7 d8 d9 d10 d11
          obtain ⟨c0, c1, c2, c3, c4, c5, c6, c7, c8, c9, c10, c11⟩ := HAT4.out
          simp only [Nat.zero_add] at c0 c1 c2 c3 c4 c5 c6 c7 c8 c9 c10 c11
          have HD0 := Lib.hid d0
          have HD9 := Lib.hid d9
          clear d0 d1 d2 d3 d4 d5 d6 d7 d8 d9 d10 d11
          have g0 : wr.heap.size < w4.heap.size := by have := HZ.out; omega
          have HNS := Lib.hid hns
          have HRI := Lib.hid hri
          obtain ⟨V, hV⟩ : ∃ V, V = W7.alloc (.cells #[.int .i64 x.o.who.role, .int .i64 x.o.who.why, .int .i64 x.o.who.time, .string x.o.id] 60) := ⟨_, rfl⟩
          have hAV : Below W7.heap.size W7 V := by rw [hV]; exact (Below.refl _ _).alloc (Nat.le_refl _) _
          have HLV := Lib.hid (HL7.out.below hAV)
          have hnews := cell_note0 W7 ⟨x.o.who, x.o.id⟩ 60
          rw [← hV, HS7.out] at hnews
          have HNEWS := Lib.hid hnews
          have HAV := Lib.hid hAV
          have HV := Lib.hid hV
          have HBA : Hid (w3.heap.size ≤ V.heap.size) := HLV.out.k.size
          have hx60 : X.ns.length ≤ 60 := HLP.out.ok.few
          have hown : V.ownsRow w3.heap.size 60 4 v X.ns.length (cellsN X.ns) := HLV.out.n
          have HOWN := Lib.hid hown
          have hb : V.cell? ⟨bv, ov, none⟩ = some (.string r.id) := (hAV.cell (p := ⟨bv, ov, none⟩) (cell_lt v0)).trans v0
          have HY := Lib.hid hb
          have HVO : Hid (¬ v.ownBlock = some bv) := fun e => by
            have := HVL.out _ e
            have := HZ.out
            omega
          clear h7 he0 hr hri hns hV hAV hnews hown hb hyi v0 v1 v2 v3 v4 hl2 hl3 hbv
          go_wp2_with (at_builtin; (try rw [← HW7.out]); (try rw [← HV.out]); refine wpList_append_own_at _ rfl _ _ 49 rfl w3.heap.size 60 iN _ 4 40 Try.underlying49 hiN hz0 hz1 hz2 rfl (by decide) _ _ _ rfl HOWN.out ⟨w4.heap.size + 1, 0, none⟩ 1 1 (cellsN [⟨x.o.who, x.o.id⟩]) rfl rfl HNEWS.out (cellsN_one _) (by unfold maxLen; omega) (by omega) HBA.out ?_)
          intro v' w5 hown5 hgrow5 hnv5 hat5
          have ho5 : OwnN w3.heap.size w5 v' (X.ns ++ [⟨x.o.who, x.o.id⟩]) := by
            unfold OwnN
            rw [cellsN_append, List.length_append]
            exact hown5
          have hk5 : Kept (fun z => v.ownBlock ≠ some z) V w5 := Kept.grown hgrow5 fun z hz e => hz e.symm
          have hl5 : NeedR w1.heap.size p w3 X' X'.ns v' w5 := by
            rw [HNS.out]
            exact HLV.out.app hgrow5 ho5 hat5
          have hvw : ∀ z, wr.heap.size ≤ z → v.ownBlock ≠ some z := fun z hz e => by
            have := HVL.out z e
            omega
          have hc0 : w5.cell? ⟨wr.heap.size, 0, none⟩ = some (.int .i64 x.o.kind) := hk5.cell (hvw _ (Nat.le_refl _)) ((HAV.out.cell (p := ⟨wr.heap.size, 0, none⟩) (cell_lt HD0.out)).trans HD0.out)
          have hc9 : w5.cell? ⟨wr.heap.size, 9, none⟩ = some (.string x.o.id) := hk5.cell (hvw _ (Nat.le_refl _)) ((HAV.out.cell (p := ⟨wr.heap.size, 9, none⟩) (cell_lt HD9.out)).trans HD9.out)
          have ht0 : w5.cell? ⟨w4.heap.size, 0, none⟩ = some (.int .i64 0) := hk5.cell (hvw _ (by omega)) ((HAV.out.cell (p := ⟨w4.heap.size, 0, none⟩) (cell_lt HT.out.1)).trans HT.out.1)
          have ht1 : w5.cell? ⟨w4.heap.size, 1, none⟩ = some (.slice (some ⟨bv, ov, none⟩) 1 vc) := hk5.cell (hvw _ (by omega)) ((HAV.out.cell (p := ⟨w4.heap.size, 1, none⟩) (cell_lt HT.out.2.1)).trans HT.out.2.1)
          have hy0 : w5.cell? ⟨bv, ov, none⟩ = some (.string x.o.id) := by
            have := hk5.cell HVO.out HY.out
            rw [HRI.out] at this
            exact this
          have k0 := cell_regrown hc9
          have k1 := cell_regrown ht1
          have k2 := cell_regrown hy0
          have HL5 := Lib.hid hl5
          have HC0 := Lib.hid hc0
          have HT0 := Lib.hid ht0
          have s1 : (x.o.id.toList == x.o.id.toList) = true := by simp
          clear hown5 hgrow5 hnv5 hat5 ho5 hk5 hl5 hvw hc9 ht0 ht1 hy0 hc0 c0 c1 c2 c3 c4 c5 c6 c7 c8 c9 c10 c11
          go_wp2_with fail
          refine region_below_lit (by kernel_rfl) (by kernel_rfl) ?_
          repeat (go_big_quiet_step (with_reducible fail))
          refine wpQuiet_nil ?_
          intro _ hw'
          obtain ⟨⟨dq, osq⟩, hw''⟩ := hw'
          subst hw''
          have hbq := below_regrown w5 dq osq
          have HL9 := Lib.hid (HL5.out.below hbq)
          have hc0 := (hbq.cell (p := ⟨wr.heap.size, 0, none⟩) (cell_lt HC0.out)).trans HC0.out
          have ht0 := (hbq.cell (p := ⟨w4.heap.size, 0, none⟩) (cell_lt HT0.out)).trans HT0.out
          generalize grow (redrawn w5 dq) osq = w9 at HL9 hc0 ht0 ⊢
          clear k0 k1 k2 hbq
          go_wp2_with fail
          go_roundw
          case rel => exact ⟨k + 1, _, _, by omega, by go_num, rfl, HMU'.out, HL9.out⟩
          case measure => simp [intOf]; omega
      · obtain ⟨c0, c1, c2, c3, c4, c5, c6, c7, c8, c9, c10, c11⟩ := HAT4.out
        simp only [Nat.zero_add] at c0 c1 c2 c3 c4 c5 c6 c7 c8 c9 c10 c11
        have g0 : wr.heap.size < w4.heap.size := by have := HZ.out; omega
        have HNS := Lib.hid hns
        have hL7 := HL7.out
        rw [← hns] at hL7
        have HL7' := Lib.hid hL7
        by_cases hE : x.o.kind = 8 ∧ er = 0
        · obtain ⟨hk8, he0⟩ := hE
          have htn : tn = X.ns := h8 hk8 he0
          subst he0
          subst htn
          have hnl : X.ns.length = nl := HNN.out
          subst hnl
          obtain ⟨A5, c5', hv⟩ := HNL.out.form
          have hn7 := HL7.out.n
          rw [hv] at hn7
          have HEQ := Lib.hid (eqN_yes na A5 nc c5' X.ns W7 (OwnN.sl HNT.out.n).1 (OwnN.sl hn7).1 (by have h := (OwnN.sl hn7).2.2; omega))
          have e7 : (x.o.kind == 7) = false := by simp [hk8]
          have e8 : (x.o.kind == 8) = true := by simp [hk8]
          subst hv
          have hNS' : X'.ns = X.ns := hns
          clear h8 hno hk8 hns hL7 hn7
          go_wp2_with fail
          rw [← HW7.out]
          refine HEQ.out.mono ?_
          rintro e w9 ⟨rfl, hb9⟩
          have HL9 := Lib.hid (HL7'.out.below hb9)
          clear hb9 HEQ
          go_wp2_with fail
          go_roundw
          case rel => exact ⟨k + 1, _, _, by omega, by go_num, rfl, HMU'.out, HL9.out⟩
          case measure => simp [intOf]; omega
        · have hcs : ((x.o.kind == 7) = false ∧ (x.o.kind == 8) = false) ∨ ((x.o.kind == 7) = false ∧ (x.o.kind == 8) = true ∧ (er == 0) = false) ∨ ((x.o.kind == 7) = true ∧ (er == 0) = false ∧ (x.o.kind == 8) = false) := by
            by_cases h7 : x.o.kind = 7
            · have h0 : ¬ er = 0 := fun e => hno ⟨h7, e⟩
              exact .inr (.inr ⟨by simp [h7], by simpa using h0, by simp [h7]⟩)
            · by_cases h8 : x.o.kind = 8
              · have h0 : ¬ er = 0 := fun e => hE ⟨h8, e⟩
                exact .inr (.inl ⟨by simp [h8], by simp [h8], by simpa using h0⟩)
              · exact .inl ⟨by simpa using h7, by simpa using h8⟩
          clear h8 hno hns hL7 hE
          rcases hcs with ⟨e1, e2⟩ | ⟨e1, e2, e3⟩ | ⟨e1, e2, e3⟩
          all_goals
            go_wp2_with fail
            rw [← HW7.out]
            go_roundw
            case rel => exact ⟨k + 1, _, _, by omega, by go_num, rfl, HMU'.out, HL7'.out⟩
            case measure => simp [intOf]; omega
    · obtain rfl : k = n := by omega
      obtain ⟨W, hW⟩ : ∃ W, W = (wr.alloc (.cells #[.int .i64 (-1), .int .i64 (-1), .int .i64 0, .int .i64 1000, .int .i64 255, .bool true] 63)).alloc (.cells #[.int .i64 1, .int .i64 0, .int .i64 0, .int .i64 0, .slice (some ⟨wr.heap.size, 0, none⟩) 1 1, .string ⟨#[]⟩, .int .i64 0, .slice none 0 0, .slice none 0 0, .string ⟨#[]⟩, .string ⟨#[]⟩, .string ⟨#[]⟩] 39) := ⟨_, rfl⟩
      have hA0 : Below wr.heap.size wr (wr.alloc (.cells #[.int .i64 (-1), .int .i64 (-1), .int .i64 0, .int .i64 1000, .int .i64 255, .bool true] 63)) := (Below.refl _ _).alloc (Nat.le_refl _) _
      have hA : Below wr.heap.size wr W := by rw [hW]; exact hA0.alloc hA0.size _
      have hr5 : SlR W (some ⟨wr.heap.size, 0, none⟩) 1 allW := by
        have ho := World.ownsRow_lit (e := 63) (base := 0) (size := 6) wr #[.int .i64 (-1), .int .i64 (-1), .int .i64 0, .int .i64 1000, .int .i64 255, .bool true] 1 (Nat.zero_le _) (by decide) rfl
        have h := (OwnR.slr (rs := allW) ho).1
        rw [hW]
        exact h.below ((Below.refl _ _).alloc (Nat.le_refl _) _)
      have hY : doX X opAllW = audX X.vs X.ns := by
        rw [doX_1 rfl]
        show setS X 1 allW = _
        unfold setS
        rw [if_pos allW_ok]
        unfold audX
        rw [HMU.out.1, HMU.out.2]
      have hT : doT X opAllW = ⟨0, [], [], []⟩ := by
        rw [doT_1 rfl]
        show (⟨rulesErr 1 allW, [], [], []⟩ : ToldL) = _
        rw [allW_ok]
      have HD := Lib.hid (HLP.out.doing hA opAllW ⟨some ⟨wr.heap.size, 0, none⟩, 1, At.none⟩ ⟨hr5, Nat.le_refl _, by show 1 ≤ maxLen; unfold maxLen; omega, zero_ok _, zero_sh, str0_sh⟩ hT hY)
      have HBR := Lib.hid HB3
      rw [hW] at HD
      clear hA hA0 hr5 hY hT hW hlt
      go_wp2_with fail
      refine HD.out.mono ?_
      rintro e w5 ⟨P5, rfl, _, hl5, _, _, _, _, _, _⟩
      have hT2 : doT (audX X.vs X.ns) opAud = ⟨0, [], [], X.ns⟩ := by
        rw [doT_8 rfl]
        show (⟨chkE (audX X.vs X.ns) ⟨0, 0, 0⟩ 255, [], [], auditT (audX X.vs X.ns) ⟨0, 0, 0⟩⟩ : ToldL) = _
        unfold auditT
        rw [aud_chk, if_pos rfl]
        rfl
      have HD2 := Lib.hid (hl5.doing (Below.refl _ _) opAud ⟨none, 0, At.none⟩ ⟨SlR.none _ _, Nat.le_refl _, Nat.zero_le _, zero_ok _, zero_sh, str0_sh⟩ hT2 (doX_8 rfl))
      clear hl5 hT2 HD
      go_wp2_with fail
      refine HD2.out.mono ?_
      rintro e w6 ⟨⟨va, vc, ia, ic, na, nc⟩, rfl, hnt, hl6, _, _, _, _, _, _⟩
      obtain ⟨W7, hW7⟩ : ∃ W7, W7 = w6.alloc (.cells #[.int .i64 0, .slice va 0 vc, .slice ia 0 ic, .slice na X.ns.length nc] 51) := ⟨_, rfl⟩
      have hA7 : Below w6.heap.size w6 W7 := by rw [hW7]; exact (Below.refl _ _).alloc (Nat.le_refl _) _
      have hl7 := hl6.below hA7
      obtain ⟨A5, c5', hv⟩ := HLP.out.n.form
      have hn7 := hl7.n
      rw [hv] at hn7
      have HEQ := Lib.hid (eqN_yes na A5 nc c5' X.ns W7 (OwnN.sl (hnt.below hA7).n).1 (OwnN.sl hn7).1 (by have h := (OwnN.sl hn7).2.2; omega))
      have HBR := Lib.hid (HB3.out.trans ((hl7.far (by have := HS3.out.sp; have := HS3.out.pw; omega)).mono HB1.out.size))
      have HW7 := Lib.hid hW7
      subst hv
      clear hnt hl6 hW7 hA7 hl7 hn7 HD2
      go_wp2_with fail
      rw [← HW7.out]
      refine HEQ.out.mono ?_
      rintro e w9 ⟨rfl, hb9⟩
      have HBE := Lib.hid (HBR.out.trans (hb9.mono HBR.out.size))
      clear hb9
      go_wp2_with fail
      go_ret
      exact ⟨rfl, HBE.out⟩
end Go.Proofs.Yteimdhkajbldjaa
