/- LogByte: of a line, one byte of which is another one, it is told that it is wrong: the walk. -/
import Derived.Test.YtbchfodmdgogjaaGreatDoorLWrite
import Derived.Test.YtbchfodmdgogjaaGreatDoorLRead
import Derived.Test.YtbchfodmdgogjaaGreatDoorLSame
import Derived.Test.YtbchfodmdgogjaaGreatDoorLLit
import Derived.Test.YtbchfodmdgogjaaGreatDoorSWithin
import Derived.Laws.IdiomStrings
import Derived.Deep.RegionHeld3
set_option linter.unusedVariables false
set_option linter.unusedSimpArgs false
set_option maxRecDepth 100000
namespace Go.Proofs.YtbchfodmdgogjaaGreatDoor
open Go.RowKit Go.Sort

theorem wrap_u8 {n : Nat} (h : n < 256) : IntKind.u8.wrap (n : Int) = (n : Int) := by
  simp [IntKind.wrap, IntKind.signed, IntKind.bits]
  omega
theorem xor_u8 (x c : UInt8) : bits .xor .u8 (x.toNat : Int) (c.toNat : Int) = ((x ^^^ c).toNat : Int) := by
  have e : ∀ z : UInt8, BitVec.ofInt 8 (z.toNat : Int) = z.toBitVec := fun z => by
    apply BitVec.eq_of_toNat_eq
    have := z.toNat_lt
    rw [BitVec.toNat_ofInt]
    show ((z.toNat : Int) % ((2 ^ 8 : Nat) : Int)).toNat = z.toNat
    omega
  have h := (x ^^^ c).toNat_lt
  show IntKind.u8.wrap (((BitVec.ofInt 8 (x.toNat : Int)) ^^^ (BitVec.ofInt 8 (c.toNat : Int))).toNat : Int) = _
  rw [e, e]
  show IntKind.u8.wrap ((x ^^^ c).toNat : Int) = _
  exact wrap_u8 h
theorem xor_ne {x c : UInt8} (h : c ≠ 0) : x ^^^ c ≠ x := fun e => h (by
  have := congrArg (x ^^^ ·) e
  simpa [← UInt8.xor_assoc] using this)
theorem below_via {w W w5 : World} (h : Below w.heap.size w W) (k : Below W.heap.size W w5) : Below w.heap.size w w5 := h.trans (k.mono h.size)
theorem below_al {w W : World} (h : Below w.heap.size w W) (o : Obj) : Below w.heap.size w (W.alloc o) := h.alloc h.size o
theorem zero_any {P : OpP} {w : World} (h : OpL.zero.in_ P w) (w' : World) : OpL.zero.in_ P w' := ⟨fun k hk => absurd hk (Nat.not_lt_zero k), h.rl, h.rm, ⟨SlF.nil _ _, SlS.nil _ _, h.r.fl, h.r.rl, h.r.fm, h.r.rm⟩, h.sh, h.fsh⟩
theorem ab_sum : sumL (⟨#[97, 98]⟩ : ByteArray).data.toList = 293 := by decide
theorem logRead_err {er : Int} (s : ByteArray) (w : World) (hE : Env w) (hs : s.size < 4294967281) (h : rdOp s.data.toList = .error er) :
    Calls Tryz.prog 9 #[.string s] w fun e w' => ∃ ra rc fa fc sa sc, e = .returned (.tuple #[.agg #[.int .i64 0, .int .i64 0, .int .i64 0, .int .i64 0, .slice ra 0 rc, .string ⟨#[]⟩, .int .i64 0, .slice fa 0 fc, .slice sa 0 sc, .string ⟨#[]⟩, .string ⟨#[]⟩, .string ⟨#[]⟩], .int .i64 0, .int .i64 er]) ∧ OpL.zero.in_ ⟨ra, rc, ⟨fa, fc, sa, sc⟩⟩ w' ∧ Below w.heap.size w w' := by
  have := logRead_any s w hE hs
  rw [h] at this
  exact this.mono fun e w' ⟨⟨ra, rc, ⟨fa, fc, sa, sc⟩⟩, h1, h2, h3, _⟩ => ⟨ra, rc, fa, fc, sa, sc, h1, h2, h3⟩

set_option maxHeartbeats 8000000 in
theorem logByte_walk (o : OpL) (P : OpP) (i n : Int) (w : World) (hE : Env w) (hi : o.in_ P w) (hn : 0 ≤ n ∧ n < 256) :
    Calls Tryz.prog 5 #[o.v P, .int .i64 i, .int .u8 n] w fun e w' => e = .returned (.bool true) ∧ Below w.heap.size w w' := by
  have hA := o.box_below P w
  have HI := Lib.hid (hi.below hA)
  have HE := Lib.hid (hE.below hA)
  have HA := Lib.hid hA
  have HX := Lib.hid (show OpAt (o.box P w) w.heap.size 0 ⟨o, P⟩ from by constructor <;> simp [go_sem])
  obtain ⟨W, hW⟩ : ∃ W, o.box P w = W := ⟨_, rfl⟩
  have HW := Lib.hid hW
  rw [hW] at HI HE HA HX
  have HNN := Lib.hid hn
  clear hi hE hA hW hn
  go_enter Tryz.func5, Tryz.ntmps5
  go_upto_region 1 with (fail)
  rw [show w.alloc _ = W from HW.out]
  go_wp2_with fail
  refine (logSum_is (n := 293) ⟨#[97, 98]⟩ W (show 2 < 4294967296 by decide) ab_sum).mono ?_
  rintro e w1 ⟨rfl, hb1⟩
  have HB1 := Lib.hid (HA.out.trans (hb1.mono HA.out.size))
  have HX1 := Lib.hid (HX.out.below hb1)
  have HI1 := Lib.hid (HI.out.below hb1)
  have HE1 := Lib.hid (HE.out.below hb1)
  clear hb1 HX HI HE
  obtain ⟨x0, x1, x2, x3, x4, x5, x6, x7, x8, x9, x10, x11⟩ := HX1.out
  simp only [Nat.zero_add] at x0 x1 x2 x3 x4 x5 x6 x7 x8 x9 x10 x11
  obtain ⟨T, hT⟩ : ∃ T, wrLine o = T := ⟨_, rfl⟩
  obtain ⟨er, her⟩ : ∃ er, logErr o = er := ⟨_, rfl⟩
  have HT := Lib.hid hT
  have HER := Lib.hid her
  clear hT her
  go_wp2_with fail
  refine (logWrite_is o P w1 HE1.out HI1.out HT.out HER.out).mono ?_
  rintro e w2 ⟨rfl, hb2⟩
  have HB2 := Lib.hid (HB1.out.trans (hb2.mono HB1.out.size))
  have HE2 := Lib.hid (HE1.out.below hb2)
  clear hb2 HX1 HI1 HE1 x0 x1 x2 x3 x4 x5 x6 x7 x8 x9 x10 x11
  by_cases h0 : er = 0
  · subst h0
    by_cases hc0 : n = 0
    · subst hc0
      go_wp2_with fail
      go_ret
      exact ⟨rfl, HB2.out⟩
    · have hc0f : (n == 0) = false := by simpa using hc0
      have hTb : T = bs o.line := by rw [← HT.out]; unfold wrLine; rw [if_pos HER.out]
      have hll := line_len HER.out
      have hTz : T.size = o.line.length := by rw [hTb, bs_size]
      obtain ⟨K, hK⟩ : ∃ K : Nat, K = T.size - 1 := ⟨_, rfl⟩
      have hK8 : 8 ≤ K ∧ K ≤ 64506 := by omega
      have HTS := Lib.hid (show T.size = K + 1 by omega)
      have ht9 : ¬ (T.size : Int) < 9 := by omega
      have hwr : wrap64 ((T.size : Int) - 1) = (K : Int) := by
        have h1 := HTS.out
        unfold wrap64
        omega
      obtain ⟨I, hI⟩ : ∃ I, wit i K = I := ⟨_, rfl⟩
      have hIK : I < K := by
        have := wit_lt i K (by omega)
        omega
      have HII := Lib.hid hI
      have HK8 := Lib.hid (show (0 : Int) < (K : Int) ∧ (K : Int) ≤ 1000000 by omega)
      have HKB := Lib.hid hK8.2
      have HIK := Lib.hid hIK
      have HTB := Lib.hid hTb
      clear hll hTz hK hK8 hI hIK hTb
      go_wp2_with fail
      refine (wit_to HII.out w2 HK8.out.1 HK8.out.2).mono ?_
      rintro e w' ⟨rfl, rfl⟩
      clear hwr ht9
      -- the line, one byte of which is another one
      have hIK := HIK.out
      have hTS := HTS.out
      obtain ⟨A, x, B, hsp, hAl⟩ : ∃ A x B, o.said ++ 32 :: 61 :: Lib.itoa (sumL o.said) = A ++ x :: B ∧ A.length = I := by
        have hl : (o.said ++ 32 :: 61 :: Lib.itoa (sumL o.said)).length = K := by
          have h := HTB.out
          rw [line_eq] at h
          have h2 := congrArg ByteArray.size h
          rw [bs_size, List.length_append, List.length_singleton] at h2
          omega
        refine ⟨_, _, _, (List.take_append_drop I _).symm.trans (congrArg _ (List.drop_eq_getElem_cons (by omega))), ?_⟩
        rw [List.length_take]
        omega
      obtain ⟨c, hc⟩ : ∃ c : UInt8, n = (c.toNat : Int) := ⟨UInt8.ofNat n.toNat, by
        have h1 := HNN.out
        have h2 : (UInt8.ofNat n.toNat).toNat = n.toNat := by
          rw [UInt8.toNat_ofNat']
          exact Nat.mod_eq_of_lt (by omega)
        rw [h2]
        omega⟩
      have hcn : c ≠ 0 := fun e => hc0 (by rw [hc, e]; rfl)
      obtain ⟨y, hy⟩ : ∃ y, x ^^^ c = y := ⟨_, rfl⟩
      have hyx : y ≠ x := hy ▸ xor_ne hcn
      obtain ⟨er5, her5⟩ := byte_bad HER.out hsp hyx
      have hTd : T.data.toList = A ++ x :: B ++ [10] := by rw [HTB.out, data_bs, line_eq, hsp]
      have hxI : ∀ h : I < T.size, T[I]'h = x := fun h => by
        have h2 : T.data.toList[I]? = some x := by
          rw [hTd, List.append_assoc, List.getElem?_append_right (by omega), hAl, Nat.sub_self]
          rfl
        show T.data[I] = x
        rw [← Array.getElem_toList]
        exact (List.getElem?_eq_some_iff.1 h2).2
      obtain ⟨X0, hX0⟩ : ∃ X0 : Int, X0 = (x.toNat : Int) := ⟨_, rfl⟩
      obtain ⟨Y0, hY0⟩ : ∃ Y0 : Int, Y0 = (y.toNat : Int) := ⟨_, rfl⟩
      obtain ⟨B1, hB1⟩ : ∃ B1 : ByteArray, B1 = ⟨#[y]⟩ := ⟨_, rfl⟩
      obtain ⟨A1, hA1⟩ : ∃ A1, T.extract 0 I ++ B1 = A1 := ⟨_, rfl⟩
      obtain ⟨J, hJ⟩ : ∃ J, J = I + 1 := ⟨_, rfl⟩
      obtain ⟨Z, hZ⟩ : ∃ Z, A1 ++ T.extract J T.size = Z := ⟨_, rfl⟩
      have hidx : ∀ W, (Instr.index 9 (.string T) (.int .i64 (I : Int))).run Tryz.prog W = .ok (.int .u8 X0) W := fun W => by
        rw [run_index_string W _ T .i64 _ Tryz.underlying9, dif_pos ⟨by omega, by omega⟩]
        simp only [Int.toNat_natCast]
        rw [hxI, hX0]
      have HIDX := Lib.hid hidx
      have hxor : bits .xor .u8 X0 n = Y0 := by rw [hX0, hY0, hc, xor_u8, hy]
      have hconv : ∀ (g : Nat) (W : World), W.cell? ⟨g, 0, none⟩ = some (.int .u8 Y0) → (convert 49 9 (.slice (some ⟨g, 0, none⟩) 1 1)).run Tryz.prog W = .ok (.string B1) W := fun g W h => by
        have := run_convert_bytes_back (P := Tryz.prog) W 49 9 5 ⟨g, 0, none⟩ 1 [y] Tryz.underlying49 Tryz.underlying5 Tryz.underlying9 (fun j hj => by
          have hj0 : j = 0 := by simpa using hj
          subst hj0
          simpa [Addr.add, hY0] using h)
        rw [hB1]
        exact this
      have e0 : (T.extract 0 I).data.toList = A := by
        rw [ext_data, hTd, List.drop_zero, Nat.sub_zero, List.append_assoc, List.take_append_of_le_length (by omega), ← hAl, List.take_length]
      have e1 : (T.extract J T.size).data.toList = B ++ [10] := by
        rw [ext_data, hTd, hJ, List.append_assoc, List.drop_append, List.drop_eq_nil_of_le (by omega), show I + 1 - A.length = 1 by omega]
        show List.take _ (B ++ [10]) = _
        refine List.take_of_length_le ?_
        have h := congrArg List.length hTd
        rw [← Lib.size_eq, List.length_append, List.length_append, List.length_cons] at h
        rw [List.length_append]
        omega
      have s0 : (T.extract 0 I).size ≤ 70000 := by rw [Lib.size_eq, e0]; have := HKB.out; omega
      have s1 : (T.extract J T.size).size ≤ 70000 := by
        have h := congrArg List.length hTd
        rw [← Lib.size_eq, List.length_append, List.length_append, List.length_cons] at h
        rw [Lib.size_eq, e1, List.length_append, List.length_singleton]
        rw [List.length_singleton] at h
        have := HKB.out
        omega
      have sB : B1.size = 1 := by rw [hB1]; rfl
      have sA : A1.size ≤ 70001 := by
        rw [Lib.size_eq, ← hA1, data_append, List.length_append, ← Lib.size_eq, ← Lib.size_eq]
        omega
      have hZd : Z.data.toList = A ++ y :: B ++ [10] := by
        rw [← hZ, data_append, e1, ← hA1, data_append, e0, hB1]
        simp
      have hZz : Z.size < 4294967281 := by
        rw [Lib.size_eq, ← hZ, data_append, List.length_append, ← Lib.size_eq, ← Lib.size_eq]
        omega
      have a1 : ∀ W, (Op.stringOp .add (T.extract 0 I) B1).run Tryz.prog W = .ok (.string A1) W := fun W => by
        rw [run_string_add_sum W _ _ (by omega), hA1]
      have a2 : ∀ W, (Op.stringOp .add A1 (T.extract J T.size)).run Tryz.prog W = .ok (.string Z) W := fun W => by
        rw [run_string_add_sum W _ _ (by omega), hZ]
      have i1 : (0 : Int) ≤ (I : Int) := by omega
      have i2 : (I : Int) ≤ (T.size : Int) := by omega
      have i3 : (0 : Int) ≤ (J : Int) := by omega
      have i4 : (J : Int) ≤ (T.size : Int) := by omega
      have her0 : (er5 == 0) = false := by simpa using rd_error her5
      have HRD := Lib.hid (fun W (hW : Env W) => logRead_err Z W hW hZz (by rw [hZd]; exact her5))
      have HSM := Lib.hid (fun P5 W (h5 : OpL.zero.in_ P5 W) => sameOp_yes OpL.zero P5 ⟨none, 0, At.none⟩ W h5 (opZero_in W))
      have hw2 : IntKind.i64.wrap ((I : Int) + 1) = (J : Int) := by
        rw [show (I : Int) + 1 = (J : Int) by omega]
        exact wrap_small J (by have := HKB.out; omega)
      have hw1 : wrap64 ((I : Int) + 1) = (J : Int) := by
        have h1 : (I : Int) + 1 = (J : Int) := by omega
        have h2 : (J : Int) < 100000 := by have := HKB.out; omega
        rw [h1]
        unfold wrap64
        omega
      clear hsp hAl hc hcn hy hyx hTd hxI hX0 hY0 hB1 hA1 hJ hZ e0 e1 s0 s1 sB sA hZd hZz her5 hIK hTS HTB HT HER HII HK8 HKB HNN
      go_upto_region 10 with (fail)
      go_cut [9, 10, 11] from 40 to 60 (fun s9 s10 s11 wc => ∃ (b : Nat) (P5 : OpP), s9 = .int .i64 er5 ∧ s10 = .pointer (some ⟨b, 0, none⟩) ∧ s11 = .int .i64 0 ∧ Hid (OpAt wc b 0 ⟨OpL.zero, P5⟩) ∧ Hid (OpL.zero.in_ P5 wc) ∧ Hid (Below w2.heap.size w2 wc))
      case first =>
        go_region_with (go_at_call 9; refine (HRD.out _ (HE2.out.below (by first | exact ((Below.refl _ _).alloc (Nat.le_refl _) _) | exact ((Below.refl _ _).alloc (Nat.le_refl _) _).drew | go_grown))).mono ?_; rintro e w5 ⟨ra5, rc5, fa5, fc5, sa5, sc5, rfl, hi5, hb5⟩; obtain ⟨hc5, hf5⟩ := bcell hb5)
        all_goals (go_wp2_with fail; go_meet)
        all_goals
          case rel =>
            refine ⟨_, ⟨ra5, rc5, ⟨fa5, fc5, sa5, sc5⟩⟩, rfl, rfl, rfl, ?_, zero_any hi5 _, ?_⟩
            · have q := fun k => hc5 w2.heap.size k (by simp [go_sem] <;> omega)
              constructor <;> simp [go_sem, hc5, q, OpL.zero, RecL.zero, who0, fld0]
            · show Below _ _ _
              have hS5 := below_via (w := w2) (by go_grown) hb5
              have hS6 := hS5.size
              go_grown
      case rest =>
        obtain ⟨b, P5, rfl, rfl, rfl, HX9, HI9, HB9⟩ := hcut
        obtain ⟨w9, hw9⟩ : ∃ w9, w9 = wc := ⟨_, rfl⟩
        subst hw9
        have HSM9 := Lib.hid (HSM.out P5 w9 HI9.out)
        have her1 : (er5 != 0) = true := by simp [bne, her0]
        have her2 : ¬ er5 = 0 := by simpa using her0
        obtain ⟨x0, x1, x2, x3, x4, x5, x6, x7, x8, x9, x10, x11⟩ := HX9.out
        simp only [Nat.zero_add] at x0 x1 x2 x3 x4 x5 x6 x7 x8 x9 x10 x11
        have HBB := Lib.hid (HB2.out.trans (HB9.out.mono HB2.out.size))
        clear HSM hidx hconv a1 a2 HRD
        have hidx : ∀ W, (Instr.index 9 (.string T) (.int .i64 (I : Int))).run Tryz.prog W = .ok (.int .u8 X0) W := HIDX.out
        by_cases hy10 : Y0 = 10
        · have hy10f : (Y0 == 10) = true := by simpa using hy10
          clear hy10
          go_wp2_with fail
          go_ret
          exact ⟨rfl, HBB.out⟩
        · have hy10f : (Y0 == 10) = false := by simpa using hy10
          clear hy10
          go_wp2_with fail
          refine HSM9.out.mono ?_
          rintro e w10 ⟨rfl, hb10⟩
          have HB10 := Lib.hid (HBB.out.trans (hb10.mono HBB.out.size))
          go_wp2_with fail
          go_ret
          exact ⟨rfl, HB10.out⟩
  · have h0f : (er == 0) = false := by simpa using h0
    have hse : T = ⟨#[]⟩ := by
      rw [← HT.out]
      unfold wrLine
      rw [if_neg (fun k => h0 (HER.out.symm.trans k))]
    subst hse
    go_wp2_with fail
    go_ret
    exact ⟨rfl, HB2.out⟩
end Go.Proofs.YtbchfodmdgogjaaGreatDoor
