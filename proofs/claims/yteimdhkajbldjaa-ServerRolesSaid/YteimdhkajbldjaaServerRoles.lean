/- ServerRoles' walk. -/
import Derived.Test.YteimdhkajbldjaaSrvB
import Derived.Test.YteimdhkajbldjaaVAsk
set_option linter.unusedVariables false
set_option linter.unusedSimpArgs false
set_option maxRecDepth 100000
namespace Go.Proofs.Yteimdhkajbldjaa
open Go.RowKit Go.Sort

theorem doX_mu (X : SrvX) (o : OpL) : (doX X o).m = X.m ∧ (doX X o).u = X.u := by
  unfold doX setS putS cutS needS
  split
  · split <;> exact ⟨rfl, rfl⟩
  · split
    · split <;> exact ⟨rfl, rfl⟩
    · split
      · split <;> exact ⟨rfl, rfl⟩
      · split
        · split <;> exact ⟨rfl, rfl⟩
        · exact ⟨rfl, rfl⟩
/-- the three rules -/
def rolR : Nat → RuleL
  | 0 => ⟨0, -1, 0, 9, 1, true⟩
  | 1 => ⟨1, -1, 0, 9, 2, true⟩
  | _ => ⟨2, -1, 0, 9, 4, true⟩
theorem rolR_ok : rulesErr 3 rolR = 0 := by decide
def rolX (vs : List VerL) (ns : List NoteL) : SrvX := ⟨3, fun k => k, 3, rolR, vs, ns⟩
def rolV : Nat → Nat
  | 0 => 1
  | 1 => 3
  | _ => 7
theorem rol_seE (vs : List VerL) (ns : List NoteL) {i : Nat} (h : i < 3) : seE (rolX vs ns) ⟨i, 0, 0⟩ = 0 := by
  show seesE 3 (rolX [] []).zi 3 rolR ⟨i, 0, 0⟩ = 0
  match i, h with
  | 0, _ => decide +kernel
  | 1, _ => decide +kernel
  | 2, _ => decide +kernel
theorem rol_seV (vs : List VerL) (ns : List NoteL) {i : Nat} (h : i < 3) : seV (rolX vs ns) ⟨i, 0, 0⟩ = rolV i := by
  show seesV 3 (rolX [] []).zi 3 rolR ⟨i, 0, 0⟩ = rolV i
  match i, h with
  | 0, _ => decide +kernel
  | 1, _ => decide +kernel
  | 2, _ => decide +kernel
theorem rolV_mono {i : Nat} (h : i < 2) (b : Nat) (hb : (rolV i).testBit b = true) : (rolV (i + 1)).testBit b = true := by
  match i, h with
  | 0, _ =>
    have : (1 : Nat) &&& 3 = 1 := by decide
    have e : (1 : Nat).testBit b = true := hb
    rw [← this, Nat.testBit_and] at e
    simp at e
    show (3 : Nat).testBit b = true
    exact e.2
  | 1, _ =>
    have : (3 : Nat) &&& 7 = 3 := by decide
    have e : (3 : Nat).testBit b = true := hb
    rw [← this, Nat.testBit_and] at e
    simp at e
    show (7 : Nat).testBit b = true
    exact e.2
theorem rolV_le (i : Nat) : rolV i ≤ 255 := by
  match i with
  | 0 => decide
  | 1 => decide
  | n + 2 => show 7 ≤ 255; decide
theorem get_more {vs : List VerL} (hst : stErr vs = 0) {a b : Nat} (ha : a ≤ 255) (hb : b ≤ 255) (h : ∀ i, a.testBit i = true → b.testBit i = true) (id : ByteArray) (h0 : getErr (prt vs a) id = 0) : getErr (prt vs b) id = 0 := by
  have hsa := prt_st hst a
  have hsb := prt_st hst b
  cases hv : getV (prt vs a) id with
  | none =>
    rw [(get_none hsa hv).1] at h0
    cases h0
  | some v =>
    obtain ⟨_, _, hl⟩ := getV_some hv
    rw [lives_prt, Bool.and_eq_true] at hl
    obtain ⟨u, hu, _, huc, _⟩ := lives_mem _ hl.2
    have hc : v.r.cats ≤ 255 := by rw [← huc]; exact ((stErr_ok.1 hst).2.cats hu).2
    have hab : among v.r.cats (b : Int) = true := by
      have h1 := (among_iff hc (by omega)).1 hl.1
      refine (among_iff hc (by omega)).2 fun i hi => ?_
      have := h1 i hi
      rw [Int.toNat_natCast] at this ⊢
      exact h i this
    cases hv2 : getV (prt vs b) id with
    | some v2 => exact (get_some hsb hv2).1
    | none =>
      have := getV_none.1 hv2 v.r.cats
      rw [lives_prt, hab, hl.2] at this
      cases this
theorem rol_two {vs : List VerL} (hst : stErr vs = 0) (ns : List NoteL) (id : ByteArray) {i : Nat} (h : i < 3) : getC (rolX vs ns) ⟨i, 0, 0⟩ id = getErr (prt vs (rolV i)) id := by
  unfold getC
  rw [if_neg (fun k => k (rol_seE vs ns h))]
  unfold seenL
  rw [rol_seV vs ns h]
  rfl

/-- block p is a server that has X, and has had its notes in block q0; since the world w6 nothing but these blocks, and what is new, has changed -/
def LpQ (S p q0 : Nat) (w6 : World) (X : SrvX) (w : World) : Prop := ∃ q, Srv w S p q (fun _ => False) X ∧ (q = q0 ∨ w6.heap.size ≤ q) ∧ Kept (Off p q0) w6 w
theorem LpQ.start {S p q : Nat} {w6 : World} {X : SrvX} (h : Srv w6 S p q (fun _ => False) X) : LpQ S p q w6 X w6 := ⟨q, h, .inl rfl, Kept.refl _ _⟩
theorem LpQ.below {S p q0 : Nat} {w6 w w' : World} {X : SrvX} (h : LpQ S p q0 w6 X w) (hb : Below w.heap.size w w') : LpQ S p q0 w6 X w' := by
  obtain ⟨q, h1, h2, h3⟩ := h
  exact ⟨q, h1.below hb, h2, h3.trans (Kept.of hb)⟩
theorem LpQ.kept {S p q0 : Nat} {w6 w : World} {X : SrvX} (h : LpQ S p q0 w6 X w) : Kept (Off p q0) w6 w := by
  obtain ⟨q, h1, h2, h3⟩ := h
  exact h3
theorem LpQ.ok {S p q0 : Nat} {w6 w : World} {X : SrvX} (h : LpQ S p q0 w6 X w) : X.Ok := by
  obtain ⟨q, h1, _⟩ := h
  exact h1.ok
def LpQs (S p q0 : Nat) (w6 : World) (T : ToldL) (X' : SrvX) (w : World) (e : Ending) (w' : World) : Prop :=
  ∃ P : ToldP, e = .returned (.agg #[.int .i64 T.code, .slice P.va T.vs.length P.vc, .slice P.ia T.ids.length P.ic, .slice P.na T.ns.length P.nc]) ∧ NewTold w.heap.size w' T P ∧ LpQ S p q0 w6 X' w'
theorem LpQ.doing {S p q0 : Nat} {w6 w : World} {X X' : SrvX} {T : ToldL} (h : LpQ S p q0 w6 X w) (o : OpL) (P : OpP) (hi : o.in_ P w) (hT : doT X o = T) (hX : doX X o = X') :
    Calls Try.prog 16 #[ptr p, o.v P] w (LpQs S p q0 w6 T X' w) := by
  obtain ⟨q, h1, h2, h3⟩ := h
  refine (do_to o P w h1 (fun z hz => hz.elim) hi hT hX).mono ?_
  rintro e w' ⟨P', q', rfl, hn, hs, hq, hk⟩
  have hsz := h3.size
  have k3 : Kept (fun z => Off p q0 z ∧ z < w6.heap.size) w6 w' := (h3.sub fun z _ hz => hz.1).trans (hk.sub fun z _ hz => ⟨hz.1.1, fun e => by
    rcases h2 with e2 | e2
    · exact hz.1.2 (e.trans e2)
    · omega⟩)
  refine ⟨P', rfl, hn, q', hs, ?_, k3.sub fun z hl hz => ⟨hz, hl⟩⟩
  rcases hq with e | e
  · rw [e]; exact h2
  · exact .inr (by omega)
noncomputable def lastE (vs : List VerL) (id : ByteArray) : Nat → Int
  | 0 => 4
  | k + 1 => getErr (prt vs (rolV k)) id
theorem lastE_cases {vs : List VerL} (hst : stErr vs = 0) (id : ByteArray) {k : Nat} (hk : k < 3) : (lastE vs id k = 4 ∧ lastE vs id (k + 1) = 4) ∨ (lastE vs id k = 4 ∧ lastE vs id (k + 1) = 0) ∨ (lastE vs id k = 0 ∧ lastE vs id (k + 1) = 0) := by
  have h2 : ∀ j, lastE vs id (j + 1) = 0 ∨ lastE vs id (j + 1) = 4 := fun j => getErr_cases (prt_st hst _) id
  match k, hk with
  | 0, _ =>
    rcases h2 0 with h | h
    · exact .inr (.inl ⟨rfl, h⟩)
    · exact .inl ⟨rfl, h⟩
  | k + 1, hk =>
    rcases h2 k with h | h
    · exact .inr (.inr ⟨h, get_more hst (rolV_le k) (rolV_le (k + 1)) (rolV_mono (by omega)) id h⟩)
    · rcases h2 (k + 1) with h3 | h3
      · exact .inr (.inl ⟨h, h3⟩)
      · exact .inl ⟨h, h3⟩

/-- what is got by role i -/
def opRol (i : Nat) (id : ByteArray) : OpL := ⟨4, ⟨i, 0, 0⟩, 0, allR, RecL.zero, id, ⟨⟨#[]⟩, ⟨#[]⟩⟩⟩
def opRules : OpL := ⟨1, ⟨0, 0, 0⟩, 3, rolR, RecL.zero, ⟨#[]⟩, ⟨⟨#[]⟩, ⟨#[]⟩⟩⟩
theorem abS_list2 {i : Nat} (h : i < [Value.string ⟨#[97]⟩, .string ⟨#[98]⟩].length) : [Value.string ⟨#[97]⟩, .string ⟨#[98]⟩][i] = .string (abS i) := abS_list h

set_option maxHeartbeats 8000000 in
theorem serverRoles_walk (a : Option Addr) (c : Nat) (g : List RowI) (w : World) (hs : SlG w a g) (hl : g.length ≤ c) (hm : c ≤ maxLen) :
    Calls Try.prog 7 #[.slice a g.length c] w fun e w' => e = .returned (.bool true) ∧ Below w.heap.size w w' := by
  obtain ⟨gl, hgl⟩ : ∃ gl, g.length = gl := ⟨_, rfl⟩
  have hr0 := run_told0
  have HS := Lib.hid hs
  have HL := Lib.hid hl
  have HM := Lib.hid hm
  have HGL := Lib.hid hgl
  rw [hgl]
  clear hs hl hm hgl
  go_enter Try.func7, Try.ntmps7
  go_wp2_with fail
  refine (srvBegun_is _).mono ?_
  rintro e w1 ⟨rfl, hb1⟩
  have HB1 := Lib.hid hb1
  clear hb1
  go_wp2_with fail
  refine (ruled_is (fun _ => False) _ (fun z h => h.elim)).mono ?_
  rintro e w2 ⟨p, rfl, hs2, hb2⟩
  have hB2 := HB1.out.trans (hb2.mono HB1.out.size)
  have HASK := Lib.hid (asked_is a g c w2 (HS.out.below hB2) HL.out HM.out)
  rw [HGL.out] at HASK
  have HS2 := Lib.hid hs2
  have HB2 := Lib.hid hB2
  clear hs2 hb2 hB2
  go_wp2_with fail
  refine HASK.out.mono ?_
  rintro e w3 ⟨A, n, ca, l, rfl, hn30, hrow, hb3⟩
  have HROW := Lib.hid hrow
  have HS3 := Lib.hid (HS2.out.below hb3)
  have HPW : Hid (p < w2.heap.size) := HS2.out.pw
  have HB3 := Lib.hid (HB2.out.trans (hb3.mono HB2.out.size))
  clear hrow hb3 HASK HS2
  go_wp2_with fail
  go_loopw [24] (fun i wr => ∃ (k : Nat) (X : SrvX), k ≤ n ∧ i = .int .i64 k ∧ Hid (X.m = 3 ∧ X.u = fun k => k) ∧ Hid (LpS w1.heap.size p w3 X wr)) (fun i _ => n - (intOf i).toNat)
  case atStart => exact ⟨0, _, Nat.zero_le _, rfl, ⟨rfl, rfl⟩, LpS.start HS3.out⟩
  case round =>
    obtain ⟨k, X, hk, rfl, HMU, HLP⟩ := hrel
    by_cases hlt : k < n
    · have hrow := HROW.out.kept HLP.out.kept (fun b hb => by have := HPW.out; omega)
      obtain ⟨x, b, off, hx, rfl, hat, hin, hok⟩ := hrow.at hlt
      obtain ⟨c0, c1, c2, c3, c4, c5, c6, c7, c8, c9, c10, c11⟩ := hat
      have hbx : Below wr.heap.size wr (wr.alloc (.cells #[.int .i64 x.o.kind, .int .i64 x.o.who.role, .int .i64 x.o.who.why, .int .i64 x.o.who.time, .slice x.P.ra x.o.n x.P.rc, .string x.o.r.id, .int .i64 x.o.r.cats, .slice x.P.p.fa x.o.r.fs.length x.P.p.fc, .slice x.P.p.ra x.o.r.rs.length x.P.p.rc, .string x.o.id, .string x.o.f.key, .string x.o.f.val] 39)) := (Below.refl _ _).alloc (Nat.le_refl _) _
      have HDO := Lib.hid ((HLP.out.below hbx).doing x.o x.P (hin.below hbx) rfl rfl)
      have i1 : (0 : Int) ≤ (k : Int) := by omega
      have i2 : (k : Int) < (n : Int) := by omega
      clear hrow hx hin hok hbx
      go_wp2_with fail
      refine HDO.out.mono ?_
      rintro e w4 ⟨P', rfl, _, hl4⟩
      have HL4 := Lib.hid hl4
      clear hl4 HDO c0 c1 c2 c3 c4 c5 c6 c7 c8 c9 c10 c11
      go_wp2_with fail
      go_roundw
      case rel => exact ⟨k + 1, _, by omega, by go_num, ⟨(doX_mu X x.o).1.trans HMU.out.1, (doX_mu X x.o).2.trans HMU.out.2⟩, HL4.out⟩
      case measure => simp [intOf]; omega
    · obtain rfl : k = n := by omega
      have HBR := Lib.hid (HB3.out.trans ((HLP.out.far (by have := HS3.out.sp; have := HS3.out.pw; omega)).mono HB1.out.size))
      obtain ⟨W, hW⟩ : ∃ W, W = wr.alloc (.cells #[.int .i64 0, .int .i64 (-1), .int .i64 0, .int .i64 9, .int .i64 1, .bool true, .int .i64 1, .int .i64 (-1), .int .i64 0, .int .i64 9, .int .i64 2, .bool true, .int .i64 2, .int .i64 (-1), .int .i64 0, .int .i64 9, .int .i64 4, .bool true] 63) := ⟨_, rfl⟩
      have hA : Below wr.heap.size wr W := by rw [hW]; exact (Below.refl _ _).alloc (Nat.le_refl _) _
      have hr5 : SlR W (some ⟨wr.heap.size, 0, none⟩) 3 rolR := by
        have ho := World.ownsRow_lit (e := 63) (base := 0) (size := 6) wr #[.int .i64 0, .int .i64 (-1), .int .i64 0, .int .i64 9, .int .i64 1, .bool true, .int .i64 1, .int .i64 (-1), .int .i64 0, .int .i64 9, .int .i64 2, .bool true, .int .i64 2, .int .i64 (-1), .int .i64 0, .int .i64 9, .int .i64 4, .bool true] 3 (Nat.zero_le _) (by decide) rfl
        rw [← hW] at ho
        exact (OwnR.slr (rs := rolR) ho).1
      have hY : doX X opRules = rolX X.vs X.ns := by
        rw [doX_1 rfl]
        show setS X 3 rolR = _
        unfold setS
        rw [if_pos rolR_ok]
        unfold rolX
        rw [HMU.out.1, HMU.out.2]
      have hT : doT X opRules = ⟨0, [], [], []⟩ := by
        rw [doT_1 rfl]
        show (⟨rulesErr 3 rolR, [], [], []⟩ : ToldL) = _
        rw [rolR_ok]
      have HD := Lib.hid ((HLP.out.below hA).doing opRules ⟨some ⟨wr.heap.size, 0, none⟩, 3, At.none⟩ ⟨hr5, Nat.le_refl _, by show 3 ≤ maxLen; unfold maxLen; omega, zero_ok _, zero_sh, str0_sh⟩ hT hY)
      have HST := Lib.hid HLP.out.ok.st
      have HAW := Lib.hid hA
      have HW := Lib.hid hW
      rw [hW] at HD
      clear hA hr5 hY hT hW hlt
      go_wp2_with fail
      refine HD.out.mono ?_
      rintro e w5 ⟨P5, rfl, _, hl5⟩
      have HB5 : Hid (Below w.heap.size w w5) := HB3.out.trans ((hl5.far (by have := HS3.out.sp; have := HS3.out.pw; omega)).mono HB1.out.size)
      obtain ⟨q0, hs5, hq5, hk5⟩ := hl5
      obtain ⟨W6, hW6⟩ : ∃ W6, W6 = w5.alloc (.cells #[.string ⟨#[97]⟩, .string ⟨#[98]⟩] 9) := ⟨_, rfl⟩
      have hA6 : Below w5.heap.size w5 W6 := by rw [hW6]; exact (Below.refl _ _).alloc (Nat.le_refl _) _
      have hab : ∀ i, i < 2 → W6.cell? ⟨w5.heap.size, i, none⟩ = some (.string (abS i)) := fun i hi => by
        rw [hW6]
        match i, hi with
        | 0, _ => simp [go_sem, abS]
        | 1, _ => simp [go_sem, abS]
      have HAB := Lib.hid hab
      have HL6 := Lib.hid (LpQ.start (hs5.below hA6))
      have HOF : Hid (Off p q0 w5.heap.size) := ⟨by have := hs5.pw; omega, by have := hs5.qw; omega⟩
      have HB6 := Lib.hid (HB5.out.trans (hA6.mono HB5.out.size))
      have HSP : Hid (w.heap.size ≤ p ∧ w.heap.size ≤ q0) := ⟨by have := hs5.sp; have := HB1.out.size; omega, by have := hs5.sq; have := HB1.out.size; omega⟩
      have HW6 := Lib.hid hW6
      clear hs5 hq5 hk5 hA6 hab hW6 HD
      go_wp2_with fail
      rw [← HW6.out]
      go_loopw [44] (fun i wr => ∃ k2 : Nat, k2 ≤ 2 ∧ i = .int .i64 k2 ∧ Hid (LpQ w1.heap.size p q0 W6 (rolX X.vs X.ns) wr)) (fun i _ => 2 - (intOf i).toNat)
      case atStart => exact ⟨0, by omega, rfl, HL6.out⟩
      case round =>
        obtain ⟨k2, hk2, rfl, HL2⟩ := hrel
        by_cases hlt2 : k2 < 2
        · obtain ⟨id, hid⟩ : ∃ id, abS k2 = id := ⟨_, rfl⟩
          have hcell := HL2.out.kept.cell HOF.out (HAB.out k2 hlt2)
          rw [hid] at hcell
          have j1 : (0 : Int) ≤ (k2 : Int) := by omega
          have j2 : (k2 : Int) < 2 := by omega
          have hz : w5.heap.size < wr.heap.size := cell_lt hcell
          clear hid
          go_wp2_with fail
          go_loopw [10, 48] (fun s i wr => ∃ k3 : Nat, k3 ≤ 3 ∧ i = .int .i64 k3 ∧ s = .int .i64 (lastE X.vs id k3) ∧ Hid (LpQ w1.heap.size p q0 W6 (rolX X.vs X.ns) wr)) (fun _ i _ => 3 - (intOf i).toNat)
          case atStart => exact ⟨0, by omega, rfl, rfl, HL2.out⟩
          case round =>
            obtain ⟨k3, hk3, rfl, rfl, HL3⟩ := hrel
            by_cases hlt3 : k3 < 3
            · have hT : doT (rolX X.vs X.ns) (opRol k3 id) = ⟨lastE X.vs id (k3 + 1), getT (rolX X.vs X.ns) ⟨k3, 0, 0⟩ id, [], []⟩ := by
                rw [doT_4 rfl]
                show (⟨getC (rolX X.vs X.ns) ⟨k3, 0, 0⟩ id, getT (rolX X.vs X.ns) ⟨k3, 0, 0⟩ id, [], []⟩ : ToldL) = _
                rw [rol_two HST.out X.ns id hlt3]
                rfl
              have HD := Lib.hid (HL3.out.doing (opRol k3 id) ⟨none, 0, At.none⟩ ⟨SlR.none _ _, Nat.le_refl _, Nat.zero_le _, zero_ok _, zero_sh, str0_sh⟩ hT (doX_4 rfl))
              have m1 : (k3 : Int) < 3 := by omega
              have hcs := lastE_cases HST.out id hlt3
              obtain ⟨le, hle⟩ : ∃ le, lastE X.vs id k3 = le := ⟨_, rfl⟩
              obtain ⟨ne, hne⟩ : ∃ ne, lastE X.vs id (k3 + 1) = ne := ⟨_, rfl⟩
              rw [hle, hne] at hcs
              rw [hne] at HD
              rw [hle]
              have HNE := Lib.hid hne
              clear hT hle hne
              rcases hcs with ⟨rfl, rfl⟩ | ⟨rfl, rfl⟩ | ⟨rfl, rfl⟩
              all_goals
                go_wp2_with fail
                refine HD.out.mono ?_
                rintro e w7 ⟨P7, rfl, _, hl7⟩
                have HL7 := Lib.hid hl7
                clear hl7 HD
                go_wp2_with fail
                go_roundw
                case rel => exact ⟨k3 + 1, by omega, by go_num, by rw [HNE.out], HL7.out⟩
                case measure => simp [intOf]; omega
            · obtain rfl : k3 = 3 := by omega
              go_wp2_with fail
              go_roundw
              case rel => exact ⟨k2 + 1, by omega, by go_num, HL3.out⟩
              case measure => simp [intOf]; omega
        · obtain rfl : k2 = 2 := by omega
          have HE := Lib.hid (HB6.out.trans (HL2.out.kept.to (fun z hz => by have := HSP.out; constructor <;> omega) HB6.out.size))
          go_wp2_with fail
          go_ret
          exact ⟨rfl, HE.out⟩
end Go.Proofs.Yteimdhkajbldjaa
