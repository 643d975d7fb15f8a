/- GroupSure: of what is sure more than half of all nodes have all, whatever was lost; it never becomes less: the walk. -/
import Derived.Test.YtkgbaaaklijopaaGShipW
import Derived.Test.YtkgbaaaklijopaaGSureP
set_option linter.unusedVariables false
set_option linter.unusedSimpArgs false
set_option maxRecDepth 100000
namespace Go.Proofs.Ytkgbaaaklijopaa
open Go.RowKit Go.Sort

theorem LpG.logLen {S p q i m : Nat} {w3 w : World} {X : GrpX} (h : LpG S p q w3 X w) (hS : S ≤ w3.heap.size) (hi : i ≤ X.n) (hm : (X.L i).length = m) :
    Calls Try.prog 26 #[ptr p, .int .i64 (i : Int)] w fun e w' => ∃ A c, e = .returned (.tuple #[.slice A m c, .int .i64 0]) ∧ LpG S p q w3 X w' := by
  have h' := h
  obtain ⟨O, h1, _⟩ := h
  subst hm
  refine (log_len h1 hi).mono ?_
  rintro e w' ⟨A, c, rfl, hb⟩
  exact ⟨A, c, rfl, h'.below hS hb⟩

set_option maxHeartbeats 8000000 in
theorem groupSure_walk (n0 : Int) (a : Option Addr) (c : Nat) (g : List RowI) (w : World) (hs : SlG w a g) (hl : g.length ≤ c) (hm : c ≤ maxLen) :
    Calls Try.prog 5 #[.int .i64 n0, .slice a g.length c] w fun e w' => e = .returned (.bool true) ∧ Below w.heap.size w w' := by
  obtain ⟨n, hn⟩ : ∃ n, g.length = n := ⟨_, rfl⟩
  obtain ⟨N, hN⟩ : ∃ N, min n 60 = N := ⟨_, rfl⟩
  have e1 : min (n : Int) 60 = (N : Int) := by omega
  rw [hn] at hl ⊢
  obtain ⟨a', hrun, _⟩ := sg_to (a := a) (n := n) (c := c) (m := N) .i64 (by omega) hl
  rw [← e1] at hrun
  have E1 := Lib.hid e1
  have HS := Lib.hid hs
  have HN := Lib.hid hn
  have HL := Lib.hid hl
  have HNn := Lib.hid (show N ≤ n by omega)
  have HN60 := Lib.hid (show N ≤ 60 by omega)
  obtain ⟨f, hf⟩ : ∃ f, wit n0 5 = f := ⟨_, rfl⟩
  have f4 : (f : Int) < 5 := by rw [← hf]; exact wit_lt n0 5 (by omega)
  obtain ⟨m, hm1⟩ : ∃ m, m = f + 1 := ⟨_, rfl⟩
  have e2 : (1 : Int) + (f : Int) = (m : Int) := by omega
  have HW := Lib.hid hf
  have HM := Lib.hid hm1
  have HF4 := Lib.hid (show f ≤ 4 by omega)
  have E2 := Lib.hid e2
  clear hs hl hm hn hf hm1 e2 e1 hN
  go_enter Try.func5, Try.ntmps5
  go_wp2_with fail
  refine (begun_is _).mono ?_
  rintro e w1 ⟨rfl, hb1⟩
  have HB1 := Lib.hid hb1
  clear hb1
  go_wp2_with fail
  refine (within_to HW.out _ (by omega) (by omega)).mono ?_
  rintro e w' ⟨rfl, rfl⟩
  go_wp2_with fail
  rw [E2.out]
  refine (LpG.start HM.out HF4.out (Nat.le_refl _) HB1.out []).mono ?_
  rintro e w2 ⟨p, q, rfl, h2⟩
  rw [← grpK_zero] at h2
  have H2 := Lib.hid h2
  clear h2 HB1 f4
  go_wp2_with fail
  go_loopw [7, 34] (fun v i wr => ∃ k s : Nat, k ≤ N ∧ i = .int .i64 (k : Int) ∧ v = .int .i64 (s : Int) ∧ Hid (∃ X, LpG w.heap.size p q w X wr ∧ Begins X ∧ X.n = f ∧ (X.L 0).length ≤ k ∧ ∀ t, IsSure X.tolds t → s ≤ t)) (fun _ i _ => N - (intOf i).toNat)
  case atStart => exact ⟨0, 0, Nat.zero_le _, rfl, rfl, GrpX.new f, H2.out, begins_new f, rfl, Nat.le_refl _, fun t _ => Nat.zero_le t⟩
  case round =>
    obtain ⟨k, s, hk, rfl, rfl, HT⟩ := hrel
    obtain ⟨X, hX1, hX2, hX3, hX4, hX5⟩ := HT.out
    have i3 : (N : Int) ≤ 60 := by have := HN60.out; omega
    by_cases hlt : k < N
    · have i1 : (0 : Int) ≤ (k : Int) := by omega
      have i2 : (k : Int) < (N : Int) := by omega
      have hkn : k + 1 ≤ n := by have := HNn.out; omega
      obtain ⟨a2, hrun2, hsl2⟩ := sg_mid (a := a) (n := n) (c := c) (i := k) (j := k + 1) .i64 .i64 (by omega) hkn HL.out
      rw [show k + 1 - k = 1 by omega, show ((k + 1 : Nat) : Int) = (k : Int) + 1 from rfl] at hrun2
      rw [show k + 1 - k = 1 by omega] at hsl2
      have hgl : ((g.drop k).take 1).length = 1 := by rw [List.length_take, List.length_drop, HN.out]; omega
      have HSH := Lib.hid (shipped_any (nn := m) (n0 := 1) (N := 1) (c := c - k) hX1 (hsl2 _ _ HS.out HN.out) hgl (by have := HL.out; omega) (by rw [hX3]; exact HM.out) hX2 rfl (.inr (by have := HN60.out; omega)))
      have HX3 := Lib.hid hX3
      have HX4 := Lib.hid hX4
      have HX5 := Lib.hid hX5
      clear hX1 hX2 hX3 hX4 hX5 HT hsl2 hgl hkn
      go_wp2_with fail
      refine HSH.out.mono ?_
      rintro e w3 ⟨va, vc, log, X', rfl, h3, hvc, hmore, hbeg, hlg⟩
      have hXn : X'.n = f := hmore.n.trans HX3.out
      have hL0 : (X'.L 0).length ≤ k + 1 := by rw [hmore.l0, List.length_append]; have := HX4.out; omega
      obtain ⟨t, ht⟩ := sure_ex (tolds_ne X')
      obtain ⟨t0, ht0⟩ := sure_ex (tolds_ne X)
      have hst : s ≤ t := Nat.le_trans (HX5.out t0 ht0) (sure_more hmore ht0 ht)
      have hmost := haveN_most h3.grp.ok ht
      rw [hXn, ← HM.out] at hmost
      have HSU := Lib.hid (LpG.sure h3.grp (Nat.le_refl _) ht)
      have HXN := Lib.hid hXn
      have HL0 := Lib.hid hL0
      have HTT := Lib.hid ht
      have HBG := Lib.hid hbeg
      have HMO := Lib.hid hmost
      have i4 : ¬ (t : Int) < (s : Int) := by omega
      have i4n : decide (t < s) = false := by rw [decide_eq_false_iff_not]; omega
      clear h3 hvc hmore hbeg hlg hXn hL0 ht ht0 hst hmost HSH HX3 HX4 HX5
      generalize List.length log = lg
      go_wp2_with fail
      refine HSU.out.mono ?_
      rintro e w4 ⟨rfl, h4, _⟩
      have H4 := Lib.hid h4
      clear h4 HSU
      go_wp2_with fail
      go_loopw [12, 57] (fun v i wr => ∃ j : Nat, j ≤ m ∧ i = .int .i64 (j : Int) ∧ v = .int .i64 (haveN X' t j : Int) ∧ Hid (LpG w.heap.size p q w X' wr)) (fun _ i _ => m - (intOf i).toNat)
      case atStart => exact ⟨0, Nat.zero_le _, rfl, rfl, H4.out⟩
      case round =>
        obtain ⟨j, hj, rfl, rfl, HT⟩ := hrel
        have i5 : (m : Int) ≤ 5 := by have := HM.out; have := HF4.out; omega
        have hh := haveN_le X' t j
        obtain ⟨hv, hhv⟩ : ∃ hv, haveN X' t j = hv := ⟨_, rfl⟩
        rw [hhv] at hh ⊢
        by_cases hjm : j < m
        · have i6 : (0 : Int) ≤ (j : Int) := by omega
          have i7 : (j : Int) < (m : Int) := by omega
          have i8 : (hv : Int) ≤ (j : Int) := by omega
          have i9 : (0 : Int) ≤ (hv : Int) := by omega
          obtain ⟨lj, hlj⟩ : ∃ lj, (X'.L j).length = lj := ⟨_, rfl⟩
          have HLOG := Lib.hid (LpG.logLen HT.out (Nat.le_refl _) (by have := HM.out; have := HXN.out; omega) hlj)
          have hsucc := haveN_succ X' t j
          rw [hhv, hlj] at hsucc
          have HSC := Lib.hid hsucc
          clear hsucc hlj hhv HT hh
          by_cases hjt : t ≤ lj
          · have i10 : (t : Int) ≤ (lj : Int) := by omega
            have hs1 := HSC.out
            rw [if_pos hjt] at hs1
            have HS1 := Lib.hid hs1
            clear hs1 hjt
            go_wp2_with fail
            refine HLOG.out.mono ?_
            rintro e w5 ⟨A', c', rfl, h5⟩
            have H5 := Lib.hid h5
            clear h5 HLOG
            go_wp2_with fail
            go_roundw
            case rel => exact ⟨j + 1, by omega, by go_num, by rw [HS1.out]; rfl, H5.out⟩
            case measure => simp [intOf]; omega
          · have i10 : ¬ (t : Int) ≤ (lj : Int) := by omega
            have hs1 := HSC.out
            rw [if_neg hjt, Nat.add_zero] at hs1
            have HS1 := Lib.hid hs1
            clear hs1 hjt
            go_wp2_with fail
            refine HLOG.out.mono ?_
            rintro e w5 ⟨A', c', rfl, h5⟩
            have H5 := Lib.hid h5
            clear h5 HLOG
            go_wp2_with fail
            go_roundw
            case rel => exact ⟨j + 1, by omega, by go_num, by rw [HS1.out]; rfl, H5.out⟩
            case measure => simp [intOf]; omega
        · obtain rfl : j = m := by omega
          have i8 : ¬ 2 * (hv : Int) ≤ (j : Int) := by have := HMO.out; rw [hhv] at this; omega
          have i9 : (0 : Int) ≤ (hv : Int) := by omega
          have i10 : (hv : Int) ≤ (j : Int) := by omega
          have HTX := Lib.hid HT.out
          clear hh hhv HT
          go_wp2_with fail
          go_roundw
          case rel => exact ⟨k + 1, t, by omega, by go_num, rfl, X', HTX.out, HBG.out, HXN.out, HL0.out, fun t' ht' => by rw [HTT.out.eq ht']; exact Nat.le_refl _⟩
          case measure => simp [intOf]; omega
    · obtain rfl : k = N := by omega
      have HB := Lib.hid hX1.base
      clear hX1 hX2 hX3 hX4 hX5 HT
      go_wp2_with fail
      go_ret
      exact ⟨rfl, HB.out⟩
end Go.Proofs.Ytkgbaaaklijopaa
