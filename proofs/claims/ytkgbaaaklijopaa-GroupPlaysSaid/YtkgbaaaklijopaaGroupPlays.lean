/- GroupPlays: whatever is asked of a Group, all is as the document says: the walk. -/
import Derived.Test.YtkgbaaaklijopaaGPlayM
set_option linter.unusedVariables false
set_option linter.unusedSimpArgs false
set_option maxRecDepth 100000
namespace Go.Proofs.Ytkgbaaaklijopaa
open Go.RowKit Go.Sort

set_option maxHeartbeats 16000000 in
theorem groupPlays_walk (n0 : Int) (a : Option Addr) (c : Nat) (g : List RowI) (a2 : Option Addr) (c2 : Nat) (l : List ByteArray) (w : World) (hs : SlG w a g) (hl : g.length ≤ c) (hm : c ≤ maxLen) (hs2 : SlS w a2 l) (hl2 : l.length ≤ c2) (hm2 : c2 ≤ maxLen) :
    Calls Try.prog 3 #[.int .i64 n0, .slice a g.length c, .slice a2 l.length c2] w fun e w' => e = .returned (.bool true) ∧ Below w.heap.size w w' := by
  have HN1 := Lib.hid (new_yes (m := 1) 0 w rfl (by omega))
  obtain ⟨n, hn⟩ : ∃ n, g.length = n := ⟨_, rfl⟩
  obtain ⟨n2, hn2⟩ : ∃ n2, l.length = n2 := ⟨_, rfl⟩
  rw [hn] at hl ⊢
  rw [hn2] at hl2 ⊢
  have hmx : n ≤ 9223372036854775807 := by unfold maxLen at hm; omega
  have hmx2 : n2 ≤ 9223372036854775807 := by unfold maxLen at hm2; omega
  have HS := Lib.hid hs
  have HN := Lib.hid hn
  have HS2 := Lib.hid hs2
  have HNN2 := Lib.hid hn2
  have HL2 := Lib.hid hl2
  have HMX2 := Lib.hid hmx2
  have j1 : (n : Int) ≤ 9223372036854775807 := by omega
  clear hs hl hm hs2 hl2 hm2 hn hn2 hmx hmx2
  go_enter Try.func3, Try.ntmps3
  go_wp2_with fail
  refine HN1.out.mono ?_
  rintro e w1 ⟨p0, q0, O0, rfl, hg0, hO0, hb1⟩
  have HAN := Lib.hid (ack_none (i := 1) (m := 0) hg0 (.inr (by decide)))
  have HB1 := Lib.hid hb1
  clear hg0 hO0 hb1 HN1
  go_wp2_with fail
  refine HAN.out.mono ?_
  rintro e w' ⟨rfl, rfl⟩
  by_cases hbad : n0 < 1 ∨ 5 < n0
  · have HNO := Lib.hid (new_no n0 w' hbad)
    have i1 : decide (n0 < 1) = true ∨ (decide (n0 < 1) = false ∧ decide (5 < n0) = true) := by
      by_cases h : n0 < 1
      · exact .inl (decide_eq_true h)
      · exact .inr ⟨decide_eq_false h, decide_eq_true (by omega)⟩
    clear hbad
    rcases i1 with i1 | ⟨i1, i2⟩
    · have i1' : n0 < 1 := of_decide_eq_true i1
      go_wp2_with fail
      refine HNO.out.mono ?_
      rintro e w' ⟨rfl, rfl⟩
      go_wp2_with fail
      go_ret
      exact ⟨rfl, HB1.out⟩
    · have i1' : ¬ n0 < 1 := of_decide_eq_false i1
      have i2' : 5 < n0 := of_decide_eq_true i2
      go_wp2_with fail
      refine HNO.out.mono ?_
      rintro e w' ⟨rfl, rfl⟩
      go_wp2_with fail
      go_ret
      exact ⟨rfl, HB1.out⟩
  obtain ⟨m, rfl⟩ : ∃ m : Nat, n0 = m := ⟨n0.toNat, by omega⟩
  obtain ⟨f, hf⟩ : ∃ f, m = f + 1 := ⟨m - 1, by omega⟩
  have i1 : ¬ (m : Int) < 1 := by omega
  have i2 : ¬ 5 < (m : Int) := by omega
  have HF := Lib.hid hf
  have HF4 := Lib.hid (show f ≤ 4 by omega)
  clear hbad hf
  go_wp2_with fail
  refine (LpG.start HF.out HF4.out (Nat.le_refl _) HB1.out []).mono ?_
  rintro e w2 ⟨p, q, rfl, h2⟩
  rw [← grpK_zero] at h2
  obtain ⟨ii, hi, hz0, hz1, hz2⟩ := info_parts Try.infoInt
  obtain ⟨is, hi', hy0, hy1, hy2⟩ := info_parts Try.infoStrsT
  have hmk1 : ∀ W : World, (Instr.makeSlice 31 (.int .i64 (m : Int)) (.int .i64 (m : Int))).run Try.prog W = .ok (.slice (some ⟨W.heap.size, 0, none⟩) m m) (W.alloc (.cells (madeCells #[.int .i64 0] m) 3)) := fun W => run_make_row (P := Try.prog) 31 3 ii (.int .i64 0) Try.underlying31 hi hz0 hz1 rfl .i64 .i64 m (by rw [hz2]; omega) (by omega) W
  have hmk2 : ∀ W : World, (Instr.makeSlice 30 (.int .i64 (m : Int)) (.int .i64 (m : Int))).run Try.prog W = .ok (.slice (some ⟨W.heap.size, 0, none⟩) m m) (W.alloc (.cells (madeCells #[.slice none 0 0] m) 23)) := fun W => run_make_row (P := Try.prog) 30 23 is (.slice none 0 0) Try.underlying30 hi' hy0 hy1 rfl .i64 .i64 m (by rw [hy2]; omega) (by omega) W
  have HBS := Lib.hid (both_start HF.out h2 (Nat.le_refl _))
  generalize hcs1 : madeCells #[.int .i64 0] m = cs1 at hmk1 HBS
  generalize hcs2 : madeCells #[.slice none 0 0] m = cs2 at hmk2 HBS
  clear h2 HB1 hi hz0 hz1 hz2 hi' hy0 hy1 hy2 hcs1 hcs2
  go_upto_region 9 with fail
  go_cut [11] (fun s wc => ∃ pm h k, s = ptr pm ∧ Hid (Both w.heap.size p q pm h k w (GrpX.new f) (GrpX.new f) wc))
  case first =>
    go_region
    all_goals
      go_wp2_with fail
      go_meet
      first
        | exact ⟨_, _, _, rfl, HBS.out.1⟩
        | exact ⟨_, _, _, rfl, HBS.out.2⟩
  case rest =>
    obtain ⟨pm, h, k, rfl, HB⟩ := hcut
    clear HBS hmk1 hmk2
    go_wp2_with fail
    go_loopw [74] (fun i wr => ∃ t : Nat, t ≤ n ∧ i = .int .i64 (t : Int) ∧ Hid (∃ X, Both w.heap.size p q pm h k w X X wr ∧ X.n = f)) (fun i _ => n - (intOf i).toNat)
    case atStart => exact ⟨0, Nat.zero_le _, rfl, _, HB.out, rfl⟩
    case round =>
      obtain ⟨t, ht, rfl, HT⟩ := hrel
      obtain ⟨X, hX, hXn⟩ := HT.out
      by_cases htn : t < n
      · have i3 : (0 : Int) ≤ (t : Int) := by omega
        have i4 : (t : Int) < (n : Int) := by omega
        obtain ⟨r, hr⟩ : ∃ r, g[t]? = some r := ⟨_, List.getElem?_eq_getElem (by rw [HN.out]; exact htn)⟩
        obtain ⟨hri, b, off, rfl, hc⟩ := (HS.out.below hX.base) t r hr
        obtain ⟨rn, hrn⟩ : ∃ rn, r.z.length = rn := ⟨_, rfl⟩
        rw [hrn] at hc
        have HAT := Lib.hid (fun (j : Nat) (hj : j < 10) => at_any hri hrn j hj)
        obtain ⟨x0, hx0⟩ : ∃ x, r.z.getD 0 0 = x := ⟨_, rfl⟩
        obtain ⟨x1, hx1⟩ : ∃ x, r.z.getD 1 0 = x := ⟨_, rfl⟩
        obtain ⟨x2, hx2⟩ : ∃ x, r.z.getD 2 0 = x := ⟨_, rfl⟩
        obtain ⟨x3, hx3⟩ : ∃ x, r.z.getD 3 0 = x := ⟨_, rfl⟩
        obtain ⟨s, HPK⟩ := pick_any (c := c2) wr (HS2.out.below hX.base) HNN2.out HMX2.out x2
        have HA0 := Lib.hid (HAT.out 0 (by omega))
        have HA1 := Lib.hid (HAT.out 1 (by omega))
        have HA2 := Lib.hid (HAT.out 2 (by omega))
        have HA3 := Lib.hid (HAT.out 3 (by omega))
        rw [hx0] at HA0
        rw [hx1] at HA1
        rw [hx2] at HA2
        rw [hx3] at HA3
        obtain ⟨rc, hrc⟩ : ∃ rc, r.c = rc := ⟨_, rfl⟩
        obtain ⟨ra, hra⟩ : ∃ ra, r.a = ra := ⟨_, rfl⟩
        rw [hrc, hra] at hc HA0 HA1 HA2 HA3
        have HX := Lib.hid hX
        have HXN := Lib.hid hXn
        clear HAT hx0 hx1 hx2 hx3 hri hr hrn hX hXn HT hrc hra
        go_wp2_with fail
        refine HA1.out.mono ?_
        rintro e w' ⟨rfl, rfl⟩
        go_wp2_with fail
        refine HA2.out.mono ?_
        rintro e w' ⟨rfl, rfl⟩
        go_wp2_with fail
        refine HPK.out.mono ?_
        rintro e w' ⟨rfl, rfl⟩
        go_wp2_with fail
        refine HA0.out.mono ?_
        rintro e w' ⟨rfl, rfl⟩
        go_upto_block 2 with fail
        go_cut [17, 18, 19, 20] (fun s17 s18 s19 s20 wc => ∃ (x e : Int) (X' : GrpX), s17 = .int .i64 x ∧ s18 = .int .i64 x ∧ s19 = .int .i64 e ∧ s20 = .int .i64 e ∧ Hid (Both w.heap.size p q pm h k w X' X' wc ∧ X'.n = f))
        case first =>
          as_aux_lemma =>
            by_cases h1 : x0 = 1
            · subst h1
              obtain ⟨xx, er, X2, hn2, HAD⟩ := HX.out.adding (Nat.le_refl _) s
              go_wp2_with fail
              refine HAD.out.mono ?_
              rintro e w3 ⟨rfl, HAD2⟩
              clear HAD
              go_wp2_with fail
              refine HAD2.out.mono ?_
              rintro e w4 ⟨rfl, hb⟩
              have HB := Lib.hid hb
              clear hb HAD2
              go_wp2_with fail
              go_meet
              case rel => exact ⟨_, _, X2, rfl, rfl, rfl, rfl, HB.out, hn2.trans HXN.out⟩
            have f1 : (x0 == 1) = false := by rw [beq_eq_false_iff_ne]; exact h1
            by_cases h2 : x0 = 2
            · subst h2
              obtain ⟨sn, er, sl, hsl, hsn, HAD⟩ := HX.out.sending (Nat.le_refl _) x1 x2
              have HSN := Lib.hid (And.intro hsl hsn)
              clear hsl hsn
              go_wp2_with fail
              refine HAD.out.mono ?_
              rintro e w3 ⟨sa, sc, rfl, HAD2⟩
              clear HAD
              go_wp2_with fail
              refine HAD2.out.mono ?_
              rintro e w4 ⟨sa2, sc2, rfl, hs1, hs2, _, hb⟩
              have HEQ := Lib.hid (eqN_is sa sa2 sl sc sc2 w4 hs1 hs2 HSN.out.1 (by have := HSN.out.2; omega))
              have HB0 := Lib.hid hb
              clear hb HAD2 hs1 hs2
              go_wp2_with fail
              refine HEQ.out.mono ?_
              rintro e w5 ⟨rfl, hb5⟩
              have HB := Lib.hid (HB0.out.below (Nat.le_refl _) hb5)
              clear hb5
              go_wp2_with fail
              go_meet
              case rel => exact ⟨_, _, X, rfl, rfl, rfl, rfl, HB.out, HXN.out⟩
            have f2 : (x0 == 2) = false := by rw [beq_eq_false_iff_ne]; exact h2
            by_cases h3 : x0 = 3
            · subst h3
              obtain ⟨sn, er0, HRS⟩ := HX.out.refSending (Nat.le_refl _) x1 x2
              have HTO := Lib.hid (HX.out.takingOld (n := n2) (c := c2) (Nat.le_refl _) x1 x2 (fun V hV => HS2.out.below hV) HNN2.out HL2.out)
              by_cases he0 : er0 = 0
              · subst he0
                by_cases h31 : x3 = 1
                · subst h31
                  go_wp2_with fail
                  refine HRS.out.mono ?_
                  rintro e w3 ⟨sa, sc, rfl, _, rfl⟩
                  go_wp2_with fail
                  refine HA3.out.mono ?_
                  rintro e w3 ⟨rfl, rfl⟩
                  have HTB := HTO.out
                  obtain ⟨xx, er, X2, hn2, HAD⟩ := HTB
                  go_wp2_with fail
                  refine HAD.out.mono ?_
                  rintro e w3 ⟨rfl, HAD2⟩
                  clear HAD
                  go_wp2_with fail
                  refine HAD2.out.mono ?_
                  rintro e w4 ⟨rfl, hb⟩
                  have HB := Lib.hid hb
                  clear hb HAD2
                  go_wp2_with fail
                  go_meet
                  case rel => exact ⟨_, _, X2, rfl, rfl, rfl, rfl, HB.out, hn2.trans HXN.out⟩
                · have f31 : (x3 == 1) = false := by rw [beq_eq_false_iff_ne]; exact h31
                  go_wp2_with fail
                  refine HRS.out.mono ?_
                  rintro e w3 ⟨sa, sc, rfl, HTB, rfl⟩
                  go_wp2_with fail
                  refine HA3.out.mono ?_
                  rintro e w3 ⟨rfl, rfl⟩
                  obtain ⟨xx, er, X2, hn2, HAD⟩ := HTB
                  go_wp2_with fail
                  refine HAD.out.mono ?_
                  rintro e w3 ⟨rfl, HAD2⟩
                  clear HAD
                  go_wp2_with fail
                  refine HAD2.out.mono ?_
                  rintro e w4 ⟨rfl, hb⟩
                  have HB := Lib.hid hb
                  clear hb HAD2
                  go_wp2_with fail
                  go_meet
                  case rel => exact ⟨_, _, X2, rfl, rfl, rfl, rfl, HB.out, hn2.trans HXN.out⟩
              · have fe : (er0 != 0) = true := by simpa using he0
                have fe' : (er0 == 0) = false := by simpa using he0
                go_wp2_with fail
                refine HRS.out.mono ?_
                rintro e w3 ⟨sa, sc, rfl, _, rfl⟩
                have HTB := HTO.out
                obtain ⟨xx, er, X2, hn2, HAD⟩ := HTB
                go_wp2_with fail
                refine HAD.out.mono ?_
                rintro e w3 ⟨rfl, HAD2⟩
                clear HAD
                go_wp2_with fail
                refine HAD2.out.mono ?_
                rintro e w4 ⟨rfl, hb⟩
                have HB := Lib.hid hb
                clear hb HAD2
                go_wp2_with fail
                go_meet
                case rel => exact ⟨_, _, X2, rfl, rfl, rfl, rfl, HB.out, hn2.trans HXN.out⟩
            have f3 : (x0 == 3) = false := by rw [beq_eq_false_iff_ne]; exact h3
            by_cases h4 : x0 = 4
            · subst h4
              obtain ⟨er, X2, hn2, HAD⟩ := HX.out.telling (Nat.le_refl _) x1 x2
              go_wp2_with fail
              refine HAD.out.mono ?_
              rintro e w3 ⟨rfl, HAD2⟩
              clear HAD
              go_wp2_with fail
              refine HAD2.out.mono ?_
              rintro e w4 ⟨rfl, hb⟩
              have HB := Lib.hid hb
              clear hb HAD2
              go_wp2_with fail
              go_meet
              case rel => exact ⟨_, _, X2, rfl, rfl, rfl, rfl, HB.out, hn2.trans HXN.out⟩
            have f4 : (x0 == 4) = false := by rw [beq_eq_false_iff_ne]; exact h4
            by_cases h5 : x0 = 5
            · subst h5
              obtain ⟨er, X2, hn2, HAD⟩ := HX.out.losing (Nat.le_refl _) x1 x2
              go_wp2_with fail
              refine HAD.out.mono ?_
              rintro e w3 ⟨rfl, HAD2⟩
              clear HAD
              go_wp2_with fail
              refine HAD2.out.mono ?_
              rintro e w4 ⟨rfl, hb⟩
              have HB := Lib.hid hb
              clear hb HAD2
              go_wp2_with fail
              go_meet
              case rel => exact ⟨_, _, X2, rfl, rfl, rfl, rfl, HB.out, hn2.trans HXN.out⟩
            have f5 : (x0 == 5) = false := by rw [beq_eq_false_iff_ne]; exact h5
            go_wp2_with fail
            go_meet
            case rel => exact ⟨_, _, X, rfl, rfl, rfl, rfl, HX.out, HXN.out⟩
        case rest =>
          as_aux_lemma =>
            obtain ⟨x, e, X', rfl, rfl, rfl, rfl, HX'⟩ := hcut
            obtain ⟨s1, HSU⟩ := HX'.out.1.sure (Nat.le_refl _)
            have e1 : (x != x) = false := bne_self_eq_false x
            have e2 : (e != e) = false := bne_self_eq_false e
            have HXN' := Lib.hid HX'.out.2
            clear HX' HX HXN HA0 HA1 HA2 HA3 HPK hc
            go_wp2_with fail
            refine HSU.out.mono ?_
            rintro e' w4 ⟨rfl, HSU2⟩
            clear HSU
            go_wp2_with fail
            refine HSU2.out.mono ?_
            rintro e' w5 ⟨rfl, hb5⟩
            have HB5 := Lib.hid hb5
            clear hb5 HSU2
            go_wp2_with fail
            go_loopw [189] (fun i wr => ∃ y : Nat, y ≤ 6 ∧ i = .int .i64 (y : Int) ∧ Hid (Both w.heap.size p q pm h k w X' X' wr)) (fun i _ => 6 - (intOf i).toNat)
            case atStart => exact ⟨0, Nat.zero_le _, rfl, HB5.out⟩
            case round =>
              obtain ⟨y, hy, rfl, HY⟩ := hrel
              by_cases hy6 : y < 6
              · have i5 : (0 : Int) ≤ (y : Int) := by omega
                have i6 : (y : Int) < 6 := by omega
                by_cases hym : y < m
                · have i7 : ¬ (m : Int) ≤ (y : Int) := by omega
                  have i8 : (y : Int) < (m : Int) := by omega
                  have hyn : y ≤ X'.n := by have := HF.out; have := HXN'.out; omega
                  obtain ⟨ly, hly⟩ : ∃ ly, (X'.L y).length = ly := ⟨_, rfl⟩
                  have HLOG := Lib.hid (HY.out.logging (Nat.le_refl _) hyn hly)
                  have HLY := Lib.hid hly
                  have HYN := Lib.hid hyn
                  clear hly hyn HY
                  go_wp2_with fail
                  refine HLOG.out.mono ?_
                  rintro e' w6 ⟨A6, c6, rfl, hs6, hb6⟩
                  obtain ⟨aj, cj, d0, d1, hs7, h60⟩ := hb6.peek (m := m) HYN.out HLY.out (by rw [HXN'.out]; exact HF.out.symm)
                  have HEQ := Lib.hid (eqN_is A6 aj (X'.L y) c6 cj w6 hs6 hs7 HLY.out (by omega))
                  have HB6 := Lib.hid hb6
                  clear hs6 hb6 hs7 h60 HLOG
                  go_wp2_with fail
                  refine HEQ.out.mono ?_
                  rintro e' w7 ⟨rfl, hb7⟩
                  have HB7 := Lib.hid (HB6.out.below (Nat.le_refl _) hb7)
                  clear hb7
                  go_wp2_with fail
                  go_roundw
                  case rel => exact ⟨y + 1, by omega, by go_num, HB7.out⟩
                  case measure => simp [intOf]; omega
                · have i7 : (m : Int) ≤ (y : Int) := by omega
                  have HLOG := Lib.hid (HY.out.loggingNo (i := (y : Int)) (by have := HF.out; have := HXN'.out; omega))
                  go_wp2_with fail
                  refine HLOG.out.mono ?_
                  rintro e' w6 ⟨rfl, rfl⟩
                  go_wp2_with fail
                  go_roundw
                  case rel => exact ⟨y + 1, by omega, by go_num, HY.out⟩
                  case measure => simp [intOf]; omega
              · obtain rfl : y = 6 := by omega
                have HYY := Lib.hid HY.out
                clear HY
                go_wp2_with fail
                go_roundw
                case rel => exact ⟨t + 1, by omega, by go_num, X', HYY.out, HXN'.out⟩
                case measure => simp [intOf]; omega
      · obtain rfl : t = n := by omega
        have HBB := Lib.hid hX.base
        clear hX hXn HT
        go_wp2_with fail
        go_ret
        exact ⟨rfl, HBB.out⟩
end Go.Proofs.Ytkgbaaaklijopaa
