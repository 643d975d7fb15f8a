/- LogReads: whatever is handed in, Read and All answer what the document says: the walk. -/
import Derived.Test.YtepenlciaanoeaaGreatDoorLEntry
import Derived.Test.YtepenlciaanoeaaGreatDoorLAll
import Derived.Test.YtepenlciaanoeaaGreatDoorLLit
import Derived.Test.YtepenlciaanoeaaGreatDoorLSame
set_option linter.unusedVariables false
set_option linter.unusedSimpArgs false
set_option maxRecDepth 100000
namespace Go.Proofs.YtepenlciaanoeaaGreatDoor
open Go.RowKit Go.Sort

theorem AllRes.form {x : Except Int (List OpL × Nat)} {w w' : World} {e : Ending} (h : AllRes x w e w') : ∃ (A : Option Addr) (n c k : Nat) (f : Int), e = .returned (.tuple #[.slice A n c, .int .i64 (k : Nat), .int .i64 f]) ∧ Below w.heap.size w w' ∧ (∀ g, x = .error g → n = 0 ∧ k = 0 ∧ f = g) ∧ (∀ p, x = .ok p → f = 0 ∧ k = p.2 ∧ ∃ L : List OO, L.map (·.o) = p.1 ∧ L.length = n ∧ OpsR w.heap.size (.slice A n c) L w') := by
  obtain ⟨hb, h2⟩ := h
  cases x with
  | error g => exact ⟨none, 0, 0, 0, g, h2, hb, fun g' hg => ⟨rfl, rfl, (by injection hg)⟩, fun p hp => (by cases hp)⟩
  | ok p =>
    obtain ⟨L, n, A, c, he, h3, h4, h5⟩ := h2
    exact ⟨A, n, c, p.2, 0, he, hb, fun g' hg => (by cases hg), fun p' hp => (by
      injection hp with hp
      subst hp
      exact ⟨rfl, rfl, L, h3, h4, h5⟩)⟩
theorem logRead_err {s : ByteArray} {er : Int} (w : World) (hE : Env w) (hs : s.size < 4294967281) (h : rdOp s.data.toList = .error er) :
    Calls Tryz.prog 19 #[.string s] w fun e w' => ∃ P : OpP, e = .returned (.tuple #[OpL.zero.v P, .int .i64 0, .int .i64 er]) ∧ OpL.zero.in_ P w' ∧ Below w.heap.size w w' := by
  refine (logRead_any s w hE hs).mono ?_
  rw [h]
  rintro e w' ⟨P, he, hi, hb, _⟩
  exact ⟨P, he, hi, hb⟩
theorem logAll_both (s : ByteArray) (w : World) (hE : Env w) : ∃ x, Calls Tryz.prog 20 #[.string s] w (AllRes x w) ∧ ((s.size ≤ 20000 ∧ AllTo s.data.toList x) ∨ (20000 < s.size ∧ x = .error 2)) := by
  by_cases h : s.size ≤ 20000
  · obtain ⟨x, hx⟩ := AllTo.ex s.data.toList
    exact ⟨x, logAll_short s x w hE h hx, .inl ⟨h, hx⟩⟩
  · exact ⟨.error 2, logAll_long s w (by omega), .inr ⟨by omega, rfl⟩⟩

set_option maxHeartbeats 8000000 in
theorem logReads_walk (s : ByteArray) (w : World) (hE : Env w) (hs : s.size ≤ 1048576) :
    Calls Tryz.prog 4 #[.string s] w fun e w' => e = .returned (.bool true) ∧ Below w.heap.size w w' := by
  obtain ⟨i0, hi0, hz0, hz1, hz2⟩ := info_parts Tryz.infoOp
  have HE := Lib.hid hE
  have HSS := Lib.hid hs
  have HLEN := Lib.hid (Lib.size_eq s)
  obtain ⟨X, hX⟩ : ∃ X, rdOp s.data.toList = X := ⟨_, rfl⟩
  have HRD := Lib.hid (fun W (hW : Env W) => hX ▸ logRead_any s W hW (by omega))
  have HRE := Lib.hid (fun W (hW : Env W) => hX ▸ refEntry_any s W hW (by omega))
  obtain ⟨o1, ho1⟩ : ∃ o, opO X = o := ⟨_, rfl⟩
  obtain ⟨m1, hm1⟩ : ∃ m, opN X = m := ⟨_, rfl⟩
  obtain ⟨er1, her1⟩ : ∃ er, opE X = er := ⟨_, rfl⟩
  unfold LReadTo at HRD
  unfold EntryTo at HRE
  rw [ho1, hm1, her1] at HRD HRE
  have HLIT := Lib.hid (fun W (hW : Env W) => logRead_err (s := ⟨#[114, 117, 108, 101, 115, 32, 61, 49, 50, 51, 52, 10]⟩) W hW (show 12 < 4294967281 by omega) ru_1234)
  obtain ⟨o3, ho3⟩ : ∃ o, OpL.zero = o := ⟨_, rfl⟩
  rw [ho3] at HLIT
  have HSZ := Lib.hid (fun P W (hi : o3.in_ P W) => show Calls Tryz.prog 21 #[o3.v P, .agg #[.int .i64 0, .int .i64 0, .int .i64 0, .int .i64 0, .slice none 0 0, .string ⟨#[]⟩, .int .i64 0, .slice none 0 0, .slice none 0 0, .string ⟨#[]⟩, .string ⟨#[]⟩, .string ⟨#[]⟩]] W fun e w' => e = .returned (.bool true) ∧ Below W.heap.size W w' from by
    subst ho3
    exact sameOp_yes OpL.zero P ⟨none, 0, At.none⟩ W hi (opZero_in W))
  clear hX ho1 hm1 her1 ho3 hE hs
  go_enter Tryz.func4, Tryz.ntmps4
  go_wp2_with fail
  refine (HRD.out w HE.out).mono ?_
  rintro e w1 ⟨P1, rfl, hi1, hb1, hpf1⟩
  have HB1 := Lib.hid hb1
  have HI1 := Lib.hid hi1
  clear hb1 hi1 hpf1 HRD
  obtain ⟨w2, hw2⟩ : ∃ w2, w1.alloc (.cells #[.int .i64 o1.kind, .int .i64 o1.who.role, .int .i64 o1.who.why, .int .i64 o1.who.time, .slice P1.ra o1.n P1.rc, .string o1.r.id, .int .i64 o1.r.cats, .slice P1.p.fa o1.r.fs.length P1.p.fc, .slice P1.p.ra o1.r.rs.length P1.p.rc, .string o1.id, .string o1.f.key, .string o1.f.val] 43) = w2 := ⟨_, rfl⟩
  have hbw2 : Below w1.heap.size w1 w2 := hw2 ▸ (Below.refl _ _).alloc (Nat.le_refl _) _
  have HX2 := Lib.hid (show OpAt w2 w1.heap.size 0 ⟨o1, P1⟩ from by rw [← hw2]; constructor <;> simp [go_sem])
  have HW2 := Lib.hid hw2
  have HG2 := Lib.hid hbw2
  clear hw2 hbw2
  have HB2 := Lib.hid (HB1.out.trans (HG2.out.mono HB1.out.size))
  have HI2 := Lib.hid (HI1.out.below HG2.out)
  have HE2 := Lib.hid (HE.out.below HB2.out)
  obtain ⟨x, hall, hxx⟩ := logAll_both s w2 HE2.out
  have HALL := Lib.hid hall
  have HXX := Lib.hid hxx
  clear hall hxx
  go_upto_region 2 with (fail)
  rw [HW2.out]
  go_wp2_with fail
  refine HALL.out.mono ?_
  intro e w3 hres
  obtain ⟨A1, n1, c1, k1, f1, rfl, hb3, hr1, hr2⟩ := hres.form
  have HB3 := Lib.hid (HB2.out.trans (hb3.mono HB2.out.size))
  have HX3 := Lib.hid (HX2.out.below hb3)
  have HI3 := Lib.hid (HI2.out.below hb3)
  have HE3 := Lib.hid (HE2.out.below hb3)
  have HR1 := Lib.hid hr1
  have HR2 := Lib.hid hr2
  clear hb3 hr1 hr2 hres HALL
  go_wp2_with fail
  refine (HLIT.out w3 HE3.out).mono ?_
  rintro e w4 ⟨P3, rfl, hi4, hb4⟩
  have HB4 := Lib.hid (HB3.out.trans (hb4.mono HB3.out.size))
  have HX4 := Lib.hid (HX3.out.below hb4)
  have HI4 := Lib.hid (HI3.out.below hb4)
  have HV4 := Lib.hid hb4
  have HZ4 := Lib.hid hi4
  clear hb4 hi4 HLIT
  obtain ⟨w5, hw5⟩ : ∃ w5, w4.alloc (.cells #[.int .i64 o3.kind, .int .i64 o3.who.role, .int .i64 o3.who.why, .int .i64 o3.who.time, .slice P3.ra o3.n P3.rc, .string o3.r.id, .int .i64 o3.r.cats, .slice P3.p.fa o3.r.fs.length P3.p.fc, .slice P3.p.ra o3.r.rs.length P3.p.rc, .string o3.id, .string o3.f.key, .string o3.f.val] 43) = w5 := ⟨_, rfl⟩
  have hbw5 : Below w4.heap.size w4 w5 := hw5 ▸ (Below.refl _ _).alloc (Nat.le_refl _) _
  have HX5 := Lib.hid (show OpAt w5 w4.heap.size 0 ⟨o3, P3⟩ from by rw [← hw5]; constructor <;> simp [go_sem])
  have HW5 := Lib.hid hw5
  have HG5 := Lib.hid hbw5
  clear hw5 hbw5
  have HB5 := Lib.hid (HB4.out.trans (HG5.out.mono HB4.out.size))
  have HI5 := Lib.hid (HI4.out.below HG5.out)
  have HXX5 := Lib.hid (HX4.out.below HG5.out)
  have HV5 := Lib.hid (HV4.out.trans (HG5.out.mono HV4.out.size))
  have HZ5 := Lib.hid (HZ4.out.below HG5.out)
  obtain ⟨x0, x1, x2, x3, x4, x5, x6, x7, x8, x9, x10, x11⟩ := HX5.out
  simp only [Nat.zero_add] at x0 x1 x2 x3 x4 x5 x6 x7 x8 x9 x10 x11
  go_upto_region 4 with (fail)
  rw [HW5.out]
  go_wp2_with fail
  refine (HSZ.out P3 w5 HZ5.out).mono ?_
  rintro e w6 ⟨rfl, hb6⟩
  have HB6 := Lib.hid (HB5.out.trans (hb6.mono HB5.out.size))
  have HX6 := Lib.hid (HXX5.out.below hb6)
  have HI6 := Lib.hid (HI5.out.below hb6)
  have HE6 := Lib.hid (HE.out.below HB6.out)
  have HV6 := Lib.hid (HV5.out.trans (hb6.mono HV5.out.size))
  clear hb6 x0 x1 x2 x3 x4 x5 x6 x7 x8 x9 x10 x11
  go_wp2_with fail
  refine (HRE.out w6 HE6.out).mono ?_
  rintro e w7 ⟨P2, rfl, hi7, hb7, hpf7⟩
  have HB7 := Lib.hid (HB6.out.trans (hb7.mono HB6.out.size))
  have HX7 := Lib.hid (HX6.out.below hb7)
  have HI7 := Lib.hid (HI6.out.below hb7)
  have HJ7 := Lib.hid hi7
  have HV7 := Lib.hid (HV6.out.trans (hb7.mono HV6.out.size))
  clear hb7 hi7 hpf7 HRE
  obtain ⟨w8, hw8⟩ : ∃ w8, w7.alloc (.cells #[.int .i64 o1.kind, .int .i64 o1.who.role, .int .i64 o1.who.why, .int .i64 o1.who.time, .slice P2.ra o1.n P2.rc, .string o1.r.id, .int .i64 o1.r.cats, .slice P2.p.fa o1.r.fs.length P2.p.fc, .slice P2.p.ra o1.r.rs.length P2.p.rc, .string o1.id, .string o1.f.key, .string o1.f.val] 43) = w8 := ⟨_, rfl⟩
  have hbw8 : Below w7.heap.size w7 w8 := hw8 ▸ (Below.refl _ _).alloc (Nat.le_refl _) _
  have HX8 := Lib.hid (show OpAt w8 w7.heap.size 0 ⟨o1, P2⟩ from by rw [← hw8]; constructor <;> simp [go_sem])
  have HW8 := Lib.hid hw8
  have HG8 := Lib.hid hbw8
  clear hw8 hbw8
  have HB8 := Lib.hid (HB7.out.trans (HG8.out.mono HB7.out.size))
  have HY8 := Lib.hid (HX7.out.below HG8.out)
  have HI8 := Lib.hid (HI7.out.below HG8.out)
  have HJ8 := Lib.hid (HJ7.out.below HG8.out)
  have HV8 := Lib.hid (HV7.out.trans (HG8.out.mono HV7.out.size))
  obtain ⟨x0, x1, x2, x3, x4, x5, x6, x7, x8, x9, x10, x11⟩ := HX8.out
  simp only [Nat.zero_add] at x0 x1 x2 x3 x4 x5 x6 x7 x8 x9 x10 x11
  obtain ⟨y0, y1, y2, y3, y4, y5, y6, y7, y8, y9, y10, y11⟩ := HY8.out
  simp only [Nat.zero_add] at y0 y1 y2 y3 y4 y5 y6 y7 y8 y9 y10 y11
  go_upto_region 7 with (fail)
  rw [HW8.out]
  go_wp2_with fail
  refine (sameOp_yes o1 P1 P2 w8 HI8.out HJ8.out).mono ?_
  rintro e w9 ⟨rfl, hb9⟩
  have HB9 := Lib.hid (HB8.out.trans (hb9.mono HB8.out.size))
  have HE9 := Lib.hid (HE.out.below HB9.out)
  have HV9 := Lib.hid (HV8.out.trans (hb9.mono HV8.out.size))
  clear hb9 x0 x1 x2 x3 x4 x5 x6 x7 x8 x9 x10 x11 y0 y1 y2 y3 y4 y5 y6 y7 y8 y9 y10 y11
  rcases HXX.out with ⟨hsm, hx⟩ | ⟨hsm, hx⟩
  case inr =>
    obtain ⟨rfl, rfl, rfl⟩ := HR1.out _ hx
    have hg : (20000 : Int) < (s.size : Int) := by omega
    clear hx hsm
    go_wp2_with fail
    go_ret
    exact ⟨rfl, HB9.out⟩
  case inl =>
    have HX0 := Lib.hid hx
    have HSM := Lib.hid hsm
    have hg : ¬ (20000 : Int) < (s.size : Int) := by omega
    clear hx hsm
    go_wp2_with fail
    go_loopw [15, 16] (fun v i wr => ∃ (N n : Nat) (L : List OO) (A : Option Addr) (c : Nat), N ≤ s.size ∧ i = .int .i64 N ∧ v = .slice A n c ∧ Hid (L.length = n ∧ n ≤ N) ∧ Hid (OpsR w9.heap.size (.slice A n c) L wr) ∧ Hid (∃ y, AllTo (s.data.toList.drop N) y ∧ x = preL (L.map (·.o)) N y) ∧ Hid (Below w9.heap.size w9 wr)) (fun _ i _ => s.size - (intOf i).toNat)
    case atStart => exact ⟨0, 0, [], none, 0, Nat.zero_le _, rfl, rfl, ⟨rfl, Nat.le_refl _⟩, OpsR.nil _ _, ⟨x, HX0.out, (preL_nil x).symm⟩, Below.refl _ _⟩
    case round =>
      clear HX0 hg
      obtain ⟨N, n, L, A, c, hN, rfl, rfl, HL, HO, HY, HB⟩ := hrel
      obtain ⟨S2, hS2⟩ : ∃ S2, s.extract N s.size = S2 := ⟨_, rfl⟩
      have hsl : S2.data.toList = s.data.toList.drop N := by
        rw [← hS2, ext_data]
        exact List.take_of_length_le (by rw [List.length_drop, ← HLEN.out]; exact Nat.le_refl _)
      obtain ⟨X, hX⟩ : ∃ X, rdOp (s.data.toList.drop N) = X := ⟨_, rfl⟩
      have hrd := refEntry_any S2 wr (HE9.out.below HB.out) (by
        rw [Lib.size_eq, hsl, List.length_drop, ← HLEN.out]
        have := HSM.out
        omega)
      rw [hsl, hX] at hrd
      have HRD := Lib.hid hrd
      have HXX := Lib.hid hX
      have i1 : (0 : Int) ≤ (N : Int) := by omega
      have i2 : (N : Int) ≤ (s.size : Int) := by omega
      clear hsl hX hrd
      go_wp2_with fail
      refine HRD.out.mono ?_
      rintro e v1 ⟨P, rfl, hi, hb, hpf⟩
      have LHB1 := Lib.hid (HB.out.trans (hb.mono HB.out.size))
      have LHO1 := Lib.hid (HO.out.below hb)
      have hown : ∀ z, (Value.slice A n c).ownBlock = some z → w9.heap.size ≤ z ∧ z < wr.heap.size := fun z hz => World.ownsRow.lt HO.out.own z hz
      obtain ⟨o, ho⟩ : ∃ o, opO X = o := ⟨_, rfl⟩
      obtain ⟨m, hm⟩ : ∃ m, opN X = m := ⟨_, rfl⟩
      obtain ⟨er, her⟩ : ∃ er, opE X = er := ⟨_, rfl⟩
      rw [ho] at hi ⊢
      rw [hm, her]
      have HON := Lib.hid (on_new (v := .slice A n c) hi hpf (fun z hz => (hown z hz).2))
      have HOW := Lib.hid hown
      obtain ⟨v2, hw2⟩ : ∃ v2, v1.alloc (.cells #[.int .i64 o.kind, .int .i64 o.who.role, .int .i64 o.who.why, .int .i64 o.who.time, .slice P.ra o.n P.rc, .string o.r.id, .int .i64 o.r.cats, .slice P.p.fa o.r.fs.length P.p.fc, .slice P.p.ra o.r.rs.length P.p.rc, .string o.id, .string o.f.key, .string o.f.val] 43) = v2 := ⟨_, rfl⟩
      have h12 : Below v1.heap.size v1 v2 := hw2 ▸ (Below.refl _ _).alloc (Nat.le_refl _) _
      have LHX2 := Lib.hid (show OpAt v2 v1.heap.size 0 ⟨o, P⟩ from by rw [← hw2]; constructor <;> simp [go_sem])
      have LHSZ2 := Lib.hid (show v2.heap.size = v1.heap.size + 1 from by rw [← hw2]; simp)
      have LHW2 := Lib.hid hw2
      have LH12 := Lib.hid h12
      have LHB2 := Lib.hid (LHB1.out.trans (h12.mono LHB1.out.size))
      have HEO := Lib.hid ho
      have HEM := Lib.hid hm
      have HER := Lib.hid her
      clear hi hb hpf hown ho hm her hw2 h12 HRD
      by_cases h7 : er = 7
      · subst h7
        have hXe : X = .error 7 := by
          have h := HER.out
          cases hXX : X with
          | error e =>
            rw [hXX] at h
            exact congrArg Except.error h
          | ok p =>
            rw [hXX] at h
            exact absurd (show (0 : Int) = 7 from h) (by decide)
        have HFIN : Hid (x = .ok (L.map (·.o), N)) := by
          obtain ⟨y, hy1, hy2⟩ := HY.out
          show x = _
          rw [hy2, hy1.error7 (HXX.out.trans hXe)]
          show Except.ok (L.map (·.o) ++ [], N + 0) = _
          rw [List.append_nil, Nat.add_zero]
        clear hXe
        obtain ⟨rfl, hk, L1, hl1, hl2, hl3⟩ := HR2.out _ HFIN.out
        replace hk : k1 = N := hk
        replace hl1 : L1.map (·.o) = L.map (·.o) := hl1
        have HF2 := Lib.hid (LHO1.out.below LH12.out)
        have HF3 := Lib.hid (hl3.below (HV9.out.trans (LHB2.out.mono HV9.out.size)))
        have HEQ := Lib.hid (eqOps_yes A1 A L1 L n1 n c1 c v2 HF3.out.slo.1 HF2.out.slo.1 hl2 HL.out.1 (by have := HF3.out.slo; omega) hl1)
        subst hk
        clear hl1 hl2 hl3
        go_upto_region 14 with (fail)
        rw [LHW2.out]
        go_wp2_with fail
        refine HEQ.out.mono ?_
        rintro e v5 ⟨rfl, hb5⟩
        have HBF := Lib.hid (HB9.out.trans ((LHB2.out.trans (hb5.mono LHB2.out.size)).mono HB9.out.size))
        clear hb5
        go_wp2_with fail
        go_ret
        exact ⟨rfl, HBF.out⟩
      · have h7f : (er == 7) = false := by simpa using h7
        by_cases h0 : er = 0
        · subst h0
          obtain ⟨hXo, hm1⟩ : X = .ok (o, m) ∧ 1 ≤ m ∧ N + m ≤ s.size := by
            have h := HER.out
            cases hXX : X with
            | error e =>
              rw [hXX] at h
              exact absurd h (rd_error (HXX.out.trans hXX))
            | ok p =>
              have h1 := HEO.out
              have h2 := HEM.out
              rw [hXX] at h1 h2
              have h3 : p.1 = o := h1
              have h4 : p.2 = m := h2
              have hs2 := rd_size (o := p.1) (n := p.2) (HXX.out.trans hXX)
              rw [List.length_drop, ← HLEN.out, h4] at hs2
              exact ⟨by rw [← h3, ← h4], hs2.1, by omega⟩
          have HNX := Lib.hid (show ∃ y, AllTo (s.data.toList.drop (N + m)) y ∧ x = preL ((L ++ [(⟨o, P⟩ : OO)]).map (·.o)) (N + m) y from by
            obtain ⟨y, hy1, hy2⟩ := HY.out
            obtain ⟨z, hz1, hz2⟩ := hy1.next (HXX.out.trans hXo)
            rw [List.drop_drop] at hz1
            refine ⟨z, hz1, ?_⟩
            rw [hy2, hz2, preL_preL, List.map_append]
            rfl)
          clear hXo
          have hw1 : wrap64 ((N : Int) + (m : Int)) = ((N + m : Nat) : Int) := by
            have := hm1.2
            have := HSM.out
            unfold wrap64
            omega
          have HNEW := Lib.hid (OwnO.one v2 o P 43)
          obtain ⟨v3, hw3⟩ : ∃ v3, v2.alloc (.cells #[.int .i64 o.kind, .int .i64 o.who.role, .int .i64 o.who.why, .int .i64 o.who.time, .slice P.ra o.n P.rc, .string o.r.id, .int .i64 o.r.cats, .slice P.p.fa o.r.fs.length P.p.fc, .slice P.p.ra o.r.rs.length P.p.rc, .string o.id, .string o.f.key, .string o.f.val] 43) = v3 := ⟨_, rfl⟩
          rw [hw3] at HNEW
          have h23 : Below v2.heap.size v2 v3 := hw3 ▸ (Below.refl _ _).alloc (Nat.le_refl _) _
          have HO3 := Lib.hid ((LHO1.out.below LH12.out).below h23)
          have HON3 := Lib.hid ((HON.out.step (Kept.of (Z := fun _ => True) LH12.out) (fun _ _ _ => trivial) (fun _ _ k => k)).step (Kept.of (Z := fun _ => True) h23) (fun _ _ _ => trivial) (fun _ _ k => k))
          have LHW3 := Lib.hid hw3
          have LHB3 := Lib.hid (LHB2.out.trans (h23.mono LHB2.out.size))
          have hbw : w9.heap.size ≤ v3.heap.size := LHB3.out.size
          have hnb : n ≤ 20000 := Nat.le_trans HL.out.2 (Nat.le_trans hN HSM.out)
          have hm2 := hm1.2
          have hm3 := hm1.1
          obtain ⟨x0, x1, x2, x3, x4, x5, x6, x7, x8, x9, x10, x11⟩ := LHX2.out
          simp only [Nat.zero_add] at x0 x1 x2 x3 x4 x5 x6 x7 x8 x9 x10 x11
          clear hw3 h23 hm1 h7 HOW HON LHO1 HO
          go_upto_region 14 with (fail)
          rw [LHW2.out]
          go_upto_region 17 with (fail)
          go_wp2_with (at_builtin; rw [LHW3.out]; refine wpList_append_own_at _ rfl _ _ 23 rfl w9.heap.size 43 i0 _ 12 176 Tryz.underlying23 hi0 hz0 hz1 hz2 rfl (by decide) (.slice A n c) n (cellsO L) rfl (HL.out.1 ▸ HO3.out.own) ⟨v2.heap.size, 0, none⟩ 1 1 (cellsO [⟨o, P⟩]) rfl rfl HNEW.out (cellsO_one _) (by unfold maxLen; omega) (by omega) hbw ?_; intro v' v4 hown' hgrow hnv hat)
          have ho4 : OwnO w9.heap.size v4 v' (L ++ [⟨o, P⟩]) := by
            unfold OwnO
            rw [cellsO_append, List.length_append, HL.out.1]
            exact hown'
          obtain ⟨A', c', hv⟩ := OwnO.form ho4
          rw [List.length_append, HL.out.1] at hv
          have hv' : v' = .slice A' (n + 1) c' := hv
          subst hv'
          have HAPP := Lib.hid (HO3.out.app HON3.out hgrow ho4 hat)
          have LHB4 := Lib.hid (show Below w9.heap.size w9 v4 from LHB3.out.trans ((Kept.grown (Z := fun z => z < w9.heap.size) hgrow fun z hz e => by
            have := (World.ownsRow.lt HO3.out.own z e.symm).1
            omega).to (fun z hz => hz) hbw))
          clear hown' hgrow hnv hat ho4 hv
          go_wp2_with fail
          go_roundw
          case rel => exact ⟨N + m, n + 1, L ++ [(⟨o, P⟩ : OO)], A', c', hm2, by go_num, rfl, ⟨by rw [List.length_append, HL.out.1]; rfl, by have := HL.out.2; omega⟩, HAPP.out, HNX.out, LHB4.out⟩
          case measure => simp [intOf]; omega
        · have h0f : (er == 0) = false := by simpa using h0
          have hXe : X = .error er := by
            have h := HER.out
            cases hXX : X with
            | error e =>
              rw [hXX] at h
              exact congrArg Except.error h
            | ok p =>
              rw [hXX] at h
              exact absurd h.symm h0
          have HFIN : Hid (x = .error er) := by
            obtain ⟨y, hy1, hy2⟩ := HY.out
            show x = _
            rw [hy2, hy1.error_of (HXX.out.trans hXe) h7]
            rfl
          clear hXe
          obtain ⟨rfl, rfl, rfl⟩ := HR1.out _ HFIN.out
          have HBF := Lib.hid (HB9.out.trans (LHB2.out.mono HB9.out.size))
          go_upto_region 14 with (fail)
          rw [LHW2.out]
          go_wp2_with fail
          go_ret
          exact ⟨rfl, HBF.out⟩
end Go.Proofs.YtepenlciaanoeaaGreatDoor
