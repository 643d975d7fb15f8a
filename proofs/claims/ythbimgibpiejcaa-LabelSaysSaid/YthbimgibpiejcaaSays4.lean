/- The walk of LabelSays at two labels that may be. -/
import Derived.Test.YthbimgibpiejcaaSays2
import Derived.Deep.QuietTactic
import Derived.BigQuiet
import Derived.BigRegion
import Derived.Deep.Cut
set_option linter.unusedVariables false
set_option linter.unusedSimpArgs false
namespace Go.Proofs.Ythbimgibpiejcaa
open Go.RowKit

theorem addr_ne {n o n' o' : Nat} (h : n ≠ n' ∨ o ≠ o') : (⟨n, o, none⟩ : Addr) ≠ ⟨n', o', none⟩ := fun e => by
  have h1 := congrArg Addr.block e
  have h2 := congrArg Addr.off e
  simp at h1 h2
  omega

theorem OrAnd.drewN {O o0 o1 n0 n1 : Nat} {w : World} (h : OrAnd O o0 o1 n0 n1 w) (n : Nat) : OrAnd O o0 o1 n0 n1 (w.drewN n) := ⟨h.po0, h.po1, h.pn0, h.pn1, h.fo0, h.fo1, h.fn0, h.fn1⟩
theorem OrAnd.drew {O o0 o1 n0 n1 : Nat} {w : World} (h : OrAnd O o0 o1 n0 n1 w) : OrAnd O o0 o1 n0 n1 w.drew := ⟨h.po0, h.po1, h.pn0, h.pn1, h.fo0, h.fo1, h.fn0, h.fn1⟩
theorem OrAnd.setO0 {O o0 o1 n0 n1 v : Nat} {w : World} (h : OrAnd O o0 o1 n0 n1 w) : OrAnd O v o1 n0 n1 (w.setCell ⟨O, 0, none⟩ (.int .i64 (v : Int))) :=
  ⟨World.cell?_setCell_same _ _ _ h.po0, by rw [World.cell?_setCell_other _ _ _ _ (addr_ne (by omega))]; exact h.po1, by rw [World.cell?_setCell_other _ _ _ _ (addr_ne (by omega))]; exact h.pn0, by rw [World.cell?_setCell_other _ _ _ _ (addr_ne (by omega))]; exact h.pn1,
    by rw [World.frozen?_setCell]; exact h.fo0, by rw [World.frozen?_setCell]; exact h.fo1, by rw [World.frozen?_setCell]; exact h.fn0, by rw [World.frozen?_setCell]; exact h.fn1⟩
theorem OrAnd.setO1 {O o0 o1 n0 n1 v : Nat} {w : World} (h : OrAnd O o0 o1 n0 n1 w) : OrAnd O o0 v n0 n1 (w.setCell ⟨O, 1, none⟩ (.int .i64 (v : Int))) :=
  ⟨by rw [World.cell?_setCell_other _ _ _ _ (addr_ne (by omega))]; exact h.po0, World.cell?_setCell_same _ _ _ h.po1, by rw [World.cell?_setCell_other _ _ _ _ (addr_ne (by omega))]; exact h.pn0, by rw [World.cell?_setCell_other _ _ _ _ (addr_ne (by omega))]; exact h.pn1,
    by rw [World.frozen?_setCell]; exact h.fo0, by rw [World.frozen?_setCell]; exact h.fo1, by rw [World.frozen?_setCell]; exact h.fn0, by rw [World.frozen?_setCell]; exact h.fn1⟩
theorem OrAnd.setN0 {O o0 o1 n0 n1 v : Nat} {w : World} (h : OrAnd O o0 o1 n0 n1 w) : OrAnd O o0 o1 v n1 (w.setCell ⟨O + 1, 0, none⟩ (.int .i64 (v : Int))) :=
  ⟨by rw [World.cell?_setCell_other _ _ _ _ (addr_ne (by omega))]; exact h.po0, by rw [World.cell?_setCell_other _ _ _ _ (addr_ne (by omega))]; exact h.po1, World.cell?_setCell_same _ _ _ h.pn0, by rw [World.cell?_setCell_other _ _ _ _ (addr_ne (by omega))]; exact h.pn1,
    by rw [World.frozen?_setCell]; exact h.fo0, by rw [World.frozen?_setCell]; exact h.fo1, by rw [World.frozen?_setCell]; exact h.fn0, by rw [World.frozen?_setCell]; exact h.fn1⟩
theorem OrAnd.setN1 {O o0 o1 n0 n1 v : Nat} {w : World} (h : OrAnd O o0 o1 n0 n1 w) : OrAnd O o0 o1 n0 v (w.setCell ⟨O + 1, 1, none⟩ (.int .i64 (v : Int))) :=
  ⟨by rw [World.cell?_setCell_other _ _ _ _ (addr_ne (by omega))]; exact h.po0, by rw [World.cell?_setCell_other _ _ _ _ (addr_ne (by omega))]; exact h.po1, by rw [World.cell?_setCell_other _ _ _ _ (addr_ne (by omega))]; exact h.pn0, World.cell?_setCell_same _ _ _ h.pn1,
    by rw [World.frozen?_setCell]; exact h.fo0, by rw [World.frozen?_setCell]; exact h.fo1, by rw [World.frozen?_setCell]; exact h.fn0, by rw [World.frozen?_setCell]; exact h.fn1⟩
theorem OrAnd.setO0z {O o0 o1 n0 n1 v : Nat} {w : World} {z : Value} (h : OrAnd O o0 o1 n0 n1 w) (hz : z = .int .i64 (v : Int)) : OrAnd O v o1 n0 n1 (w.setCell ⟨O, 0, none⟩ z) := by subst hz; exact h.setO0
theorem OrAnd.setO1z {O o0 o1 n0 n1 v : Nat} {w : World} {z : Value} (h : OrAnd O o0 o1 n0 n1 w) (hz : z = .int .i64 (v : Int)) : OrAnd O o0 v n0 n1 (w.setCell ⟨O, 1, none⟩ z) := by subst hz; exact h.setO1
theorem OrAnd.setN0z {O o0 o1 n0 n1 v : Nat} {w : World} {z : Value} (h : OrAnd O o0 o1 n0 n1 w) (hz : z = .int .i64 (v : Int)) : OrAnd O o0 o1 v n1 (w.setCell ⟨O + 1, 0, none⟩ z) := by subst hz; exact h.setN0
theorem OrAnd.setN1z {O o0 o1 n0 n1 v : Nat} {w : World} {z : Value} (h : OrAnd O o0 o1 n0 n1 w) (hz : z = .int .i64 (v : Int)) : OrAnd O o0 o1 n0 v (w.setCell ⟨O + 1, 1, none⟩ z) := by subst hz; exact h.setN1
theorem OrAnd.below {O o0 o1 n0 n1 : Nat} {w w' : World} (h : OrAnd O o0 o1 n0 n1 w) (hb : Below w.heap.size w w') : OrAnd O o0 o1 n0 n1 w' := by
  have h1 : O < w.heap.size := World.block_lt_of_cell? w ⟨O, 0, none⟩ h.po0
  have h2 : O + 1 < w.heap.size := World.block_lt_of_cell? w ⟨O + 1, 0, none⟩ h.pn0
  exact ⟨(hb.cell (p := ⟨O, 0, none⟩) h1).trans h.po0, (hb.cell (p := ⟨O, 1, none⟩) h1).trans h.po1, (hb.cell (p := ⟨O + 1, 0, none⟩) h2).trans h.pn0, (hb.cell (p := ⟨O + 1, 1, none⟩) h2).trans h.pn1,
    (hb.frozen (p := ⟨O, 0, none⟩) h1).trans h.fo0, (hb.frozen (p := ⟨O, 1, none⟩) h1).trans h.fo1, (hb.frozen (p := ⟨O + 1, 0, none⟩) h2).trans h.fn0, (hb.frozen (p := ⟨O + 1, 1, none⟩) h2).trans h.fn1⟩
theorem BX.set {B n o : Nat} {a0 a1 b0 b1 j0 j1 m0 m1 : Int} {w : World} (h : BX B a0 a1 b0 b1 j0 j1 m0 m1 w) (hn : B + 23 < n) (v : Value) : BX B a0 a1 b0 b1 j0 j1 m0 m1 (w.setCell ⟨n, o, none⟩ v) :=
  h.same (by simp) fun n' o' hn' => World.cell?_setCell_other _ _ _ _ (addr_ne (by omega))
theorem BX.drewN {B : Nat} {a0 a1 b0 b1 j0 j1 m0 m1 : Int} {w : World} (h : BX B a0 a1 b0 b1 j0 j1 m0 m1 w) (n : Nat) : BX B a0 a1 b0 b1 j0 j1 m0 m1 (w.drewN n) := h.same (Nat.le_refl _) fun _ _ _ => rfl
theorem BX.drew {B : Nat} {a0 a1 b0 b1 j0 j1 m0 m1 : Int} {w : World} (h : BX B a0 a1 b0 b1 j0 j1 m0 m1 w) : BX B a0 a1 b0 b1 j0 j1 m0 m1 w.drew := h.same (Nat.le_refl _) fun _ _ _ => rfl

theorem orand_made (w : World) : OrAnd w.heap.size 0 0 0 0 ((w.alloc (.cells #[.int .i64 0, .int .i64 0] 23)).alloc (.cells #[.int .i64 0, .int .i64 0] 23)) := by
  refine ⟨?_, ?_, ?_, ?_, ?_, ?_, ?_, ?_⟩
  all_goals simp

theorem join_ct (x y : Lab) : (x.ct ||| y.ct) % 2 ^ 8 = (x.join y).ct := Nat.mod_eq_of_lt (by have := (x.join y).hc; show (x.join y).ct < 2 ^ 8; omega)
theorem meet_ct (x y : Lab) : (x.ct &&& y.ct) % 2 ^ 8 = (x.meet y).ct := Nat.mod_eq_of_lt (by have := (x.meet y).hc; show (x.meet y).ct < 2 ^ 8; omega)

set_option maxRecDepth 100000 in
set_option maxHeartbeats 4000000 in
theorem says_both (x y : Lab) (w : World) :
    Calls Try.prog 3 #[.agg #[.int .i64 (x.lv : Int), .int .i64 (x.ct : Int)], .agg #[.int .i64 (y.lv : Int), .int .i64 (y.ct : Int)]] w fun e w' => e = .returned (.bool true) ∧ Below w.heap.size w w' := by
  have hxl := x.hl
  have hxc := x.hc
  have hyl := y.hl
  have hyc := y.hc
  go_enter Try.func3, Try.ntmps3
  go_wp2_with fail
  refine (belowL x y _).mono ?_
  rintro e w1 ⟨rfl, hb1, hz1⟩
  obtain ⟨hc1, hf1⟩ := bcell hb1
  have hB1 : Below w.heap.size w w1 := by
    refine Below.trans ?_ (hb1.mono ?_)
    · go_grown
    · simp [] <;> omega
  try simp [Nat.add_assoc] at hz1
  go_wp2_with fail
  refine (joinL x y _).mono ?_
  rintro e w2 ⟨rfl, hb2, hz2⟩
  obtain ⟨hc2, hf2⟩ := bcell hb2
  have hB2 : Below w.heap.size w w2 := by
    refine Below.trans ?_ (hb2.mono ?_)
    · go_grown
    · simp [hz1] <;> omega
  try simp [hz1, Nat.add_assoc] at hz2
  go_wp2_with fail
  refine (meetL x y _).mono ?_
  rintro e w3 ⟨rfl, hb3, hz3⟩
  obtain ⟨hc3, hf3⟩ := bcell hb3
  have hB3 : Below w.heap.size w w3 := by
    refine Below.trans ?_ (hb3.mono ?_)
    · go_grown
    · simp [hz2] <;> omega
  try simp [hz2, Nat.add_assoc] at hz3
  go_wp2_with fail
  refine (countL x _).mono ?_
  rintro e w4 ⟨rfl, hb4, hz4⟩
  obtain ⟨hc4, hf4⟩ := bcell hb4
  have hB4 : Below w.heap.size w w4 := by
    refine Below.trans ?_ (hb4.mono ?_)
    · go_grown
    · simp [hz3] <;> omega
  try simp [hz3, Nat.add_assoc] at hz4
  go_wp2_with fail
  refine (rankL x _).mono ?_
  rintro e w5 ⟨rfl, hb5, hz5⟩
  obtain ⟨hc5, hf5⟩ := bcell hb5
  have hB5 : Below w.heap.size w w5 := by
    refine Below.trans ?_ (hb5.mono ?_)
    · go_grown
    · simp [hz4] <;> omega
  try simp [hz4, Nat.add_assoc] at hz5
  go_upto_region 6 with (fail)
  go_cut [15, 16] from 55 to 58 (fun s15 s16 wc => TwoCalls 28 0 w w5 s15 s16 wc)
  case first =>
    go_region_with (go_at_call 19; refine (refLabel_ok (x.lv : Int) (x.ct : Int) _ (by omega) (by omega) (by omega) (by omega)).mono ?_; rintro e wp ⟨rfl, hbp, hzp⟩; obtain ⟨hcp, hfp⟩ := bcell hbp)
    all_goals (go_wp2_with fail; go_meet)
    all_goals
      case rel =>
        refine twoCalls_of (w1 := w5.drew) hz5 hB5 ?_ rfl ⟨rfl, rfl, rfl⟩ ?_ hbp rfl ⟨rfl, rfl, rfl⟩ hzp
        · assumption
        · assumption
  case rest =>
    obtain ⟨rfl, rfl, hcc, hfc, hzc, hBc⟩ := hcut
    go_wp2_with fail
    refine ((fun w => check_ok (x.lv : Int) (x.ct : Int) w (by omega) (by omega) (by omega) (by omega)) _).mono ?_
    rintro e w6 ⟨rfl, hb6, hz6⟩
    obtain ⟨hc6, hf6⟩ := bcell hb6
    have hB6 : Below w.heap.size w w6 := by
      refine Below.trans ?_ (hb6.mono ?_)
      · go_grown
      · simp [hzc] <;> omega
    try simp [hzc, Nat.add_assoc] at hz6
    go_wp2_with fail
    refine ((fun w => check_bad 4 0 w (by omega)) _).mono ?_
    rintro e w7 ⟨rfl, hb7, hz7⟩
    obtain ⟨hc7, hf7⟩ := bcell hb7
    have hB7 : Below w.heap.size w w7 := by
      refine Below.trans ?_ (hb7.mono ?_)
      · go_grown
      · simp [hz6] <;> omega
    try simp [hz6, Nat.add_assoc] at hz7
    go_wp2_with fail
    refine ((fun w => refLabel_ok (y.lv : Int) (y.ct : Int) w (by omega) (by omega) (by omega) (by omega)) _).mono ?_
    rintro e w8 ⟨rfl, hb8, hz8⟩
    obtain ⟨hc8, hf8⟩ := bcell hb8
    have hB8 : Below w.heap.size w w8 := by
      refine Below.trans ?_ (hb8.mono ?_)
      · go_grown
      · simp [hz7] <;> omega
    try simp [hz7, Nat.add_assoc] at hz8
    have hbx : BX w.heap.size x.lv x.ct (y.lv : Int) (y.ct : Int) ((x.join y).lv : Int) ((x.join y).ct : Int) ((x.meet y).lv : Int) ((x.meet y).ct : Int) w8 := by
      refine ⟨?_, ?_, ?_, ?_, ?_, ?_, ?_, ?_, by omega⟩
      all_goals go_simp
    have HX := Lib.hid hbx
    clear hbx hc1 hf1 hc2 hf2 hc3 hf3 hc4 hf4 hc5 hf5 hcc hfc hc6 hf6 hc7 hf7 hc8 hf8 hb1 hb2 hb3 hb4 hb5 hb6 hb7 hb8 hB1 hB2 hB3 hB4 hB5 hB6 hB7 hz1 hz2 hz3 hz4 hz5 hz6 hz7 hz8 hzc hBc
    have hca0 := HX.out.pa0
    have hca1 := HX.out.pa1
    go_wp2_with fail
    go_quiet (fail)
    go_wp2_with fail
    have HXA := Lib.hid (HX.out.same (w' := w8.drewN nq) (Nat.le_refl _) fun _ _ _ => rfl)
    have hBA : Below w.heap.size w (w8.drewN nq) := below_drewN hB8 _
    clear HX hca0 hca1 hB8
    go_loopw [17, 121] (fun n s wr => ∃ k N : Nat, k ≤ 256 ∧ s = .int .i64 k ∧ n = .int .i64 N ∧ Hid (N = (x.lv + 1) * cntN x.ct k) ∧ N ≤ 4 * k ∧ Hid (BX w.heap.size x.lv x.ct (y.lv : Int) (y.ct : Int) ((x.join y).lv : Int) ((x.join y).ct : Int) ((x.meet y).lv : Int) ((x.meet y).ct : Int) wr) ∧ Below w.heap.size w wr) (fun _ s _ => 256 - (intOf s).toNat)
    case atStart => exact ⟨0, 0, by omega, rfl, rfl, (Nat.mul_zero _).symm, by omega, HXA, hBA⟩
    case round =>
      obtain ⟨k, N, hk, rfl, rfl, hN, hN4, HXr, hBr⟩ := hrel
      have hca0 := HXr.out.pa0
      have hca1 := HXr.out.pa1
      by_cases hlt : k < 256
      · have hlt' : (k : Int) < 256 := by omega
        by_cases hs : sub k x.ct = 0
        · have HS := Lib.hid hs
          go_wp2_with fail
          refine (part_any k x.ct _ hlt (by omega)).mono ?_
          rintro e wp ⟨rfl, hbp⟩
          have HXp := Lib.hid (HXr.out.below hbp)
          have hBp : Below w.heap.size w wp := hBr.trans (hbp.mono hBr.size)
          have hca0p := HXp.out.pa0
          clear hca0 hca1 hbp
          go_wp2_with fail
          go_roundw
          case rel =>
            refine ⟨k + 1, N + (x.lv + 1), by omega, by go_num, by go_num, ?_, by omega, HXp, hBp⟩
            show N + (x.lv + 1) = (x.lv + 1) * cntN x.ct (k + 1)
            rw [hN.out, cntN, if_pos HS.out, Nat.mul_add, Nat.mul_one]
          case measure => simp [intOf]; omega
        · have HS := Lib.hid hs
          go_wp2_with fail
          refine (part_any k x.ct _ hlt (by omega)).mono ?_
          rintro e wp ⟨rfl, hbp⟩
          have HXp := Lib.hid (HXr.out.below hbp)
          have hBp : Below w.heap.size w wp := hBr.trans (hbp.mono hBr.size)
          clear hca0 hca1 hbp
          go_wp2_with fail
          go_roundw
          case rel =>
            refine ⟨k + 1, N, by omega, by go_num, rfl, ?_, by omega, HXp, hBp⟩
            show N = (x.lv + 1) * cntN x.ct (k + 1)
            rw [hN.out, cntN, if_neg HS.out]
            rfl
          case measure => simp [intOf]; omega
      · obtain rfl : k = 256 := by omega
        have hNe : N = x.count := by rw [hN.out]; exact cnt_end x
        rw [hNe]
        clear hN hk hlt hN4 hNe
        go_wp2_with fail
        obtain ⟨wB, rfl⟩ : ∃ wB : World, wB = wr := ⟨_, rfl⟩
        go_loop [18, 134] (fun n s => ∃ k N : Nat, k ≤ 8 ∧ s = .int .i64 k ∧ n = .int .i64 N ∧ Hid (N = x.lv + sumN x.ct k) ∧ N ≤ 3 + k) (fun _ s => 8 - (intOf s).toNat)
        case atStart => exact ⟨0, x.lv, by omega, rfl, rfl, rfl, by omega⟩
        case round =>
          obtain ⟨k, N, hk, rfl, rfl, hN, hN3⟩ := hrel
          by_cases hlt : k < 8
          · have hlt' : (k : Int) < 8 := by omega
            have htm := tmod_bit x.ct k
            cases hb : x.ct.testBit k
            · rw [hb, if_neg (by decide)] at htm
              have HB2 := Lib.hid hb
              clear hb
              go_wp2_with fail
              go_round
              case rel => exact ⟨k + 1, N, by omega, by go_num, rfl, by show N = x.lv + sumN x.ct (k + 1); rw [sumN, if_neg (by rw [HB2.out]; decide)]; exact hN.out, by omega⟩
              case measure => simp [intOf]; omega
            · rw [hb, if_pos rfl] at htm
              have HB2 := Lib.hid hb
              clear hb
              go_wp2_with fail
              go_round
              case rel => exact ⟨k + 1, N + 1, by omega, by go_num, by go_num, by show N + 1 = x.lv + sumN x.ct (k + 1); rw [sumN, if_pos HB2.out, ← Nat.add_assoc, ← hN.out], by omega⟩
              case measure => simp [intOf]; omega
          · obtain rfl : k = 8 := by omega
            have hNe : N = x.rank := by rw [hN.out]; exact sum_end x
            rw [hNe]
            clear hN hk hlt hN3 hNe
            have cb0 := HXr.out.pb0
            have cb1 := HXr.out.pb1
            have cj0 := HXr.out.pj0
            have cj1 := HXr.out.pj1
            have cm0 := HXr.out.pm0
            have cm1 := HXr.out.pm1
            have hlO := HXr.out.lt
            have hmade := orand_made wB
            have HX3 := HXr.out.below (((Below.refl _ _).alloc (Nat.le_refl _) (.cells #[.int .i64 0, .int .i64 0] 23)).alloc (by simp) (.cells #[.int .i64 0, .int .i64 0] 23))
            have hB3 : Below w.heap.size w ((wB.alloc (.cells #[.int .i64 0, .int .i64 0] 23)).alloc (.cells #[.int .i64 0, .int .i64 0] 23)) := (hBr.alloc hBr.size _).alloc (by have := hBr.size; simp; omega) _
            have HM := Lib.hid hmade
            have H3 := Lib.hid HX3
            clear hmade HX3
            go_wp2_with fail
            clear hca0 hca1 cb0 cb1 cj0 cj1 cm0 cm1
            go_loopw [23, 24] (fun s t wz => ∃ k p X Y : Nat, k ≤ 8 ∧ s = .int .i64 k ∧ t = .int .i64 p ∧ Hid (p = 2 ^ k) ∧ Hid (X = (x.ct ||| y.ct) % 2 ^ k) ∧ Hid (Y = (x.ct &&& y.ct) % 2 ^ k) ∧ X < p ∧ Y < p ∧ Hid (OrAnd wB.heap.size 0 X 0 Y wz) ∧ Hid (BX w.heap.size x.lv x.ct (y.lv : Int) (y.ct : Int) ((x.join y).lv : Int) ((x.join y).ct : Int) ((x.meet y).lv : Int) ((x.meet y).ct : Int) wz) ∧ Below w.heap.size w wz) (fun s _ _ => 8 - (intOf s).toNat)
            case atStart => exact ⟨0, 1, 0, 0, by omega, rfl, rfl, rfl, (Nat.mod_one _).symm, (Nat.mod_one _).symm, by omega, by omega, HM.out, H3.out, hB3⟩
            case round =>
              obtain ⟨k, p, X, Y, hk, rfl, rfl, hp, hX, hY, hXp, hYp, HO, HXz, hBz⟩ := hrel
              have hp1 : p ≤ 256 := by rw [hp.out]; exact pow_le_256 (by omega)
              by_cases hlt : k < 8
              · have hlt' : (k : Int) < 8 := by omega
                have htx := tmod_bit x.ct k
                have hty := tmod_bit y.ct k
                have ca1 := HXz.out.pa1
                have cb1 := HXz.out.pb1
                have o1 := HO.out.po1
                have n1 := HO.out.pn1
                have fo := HO.out.fo1
                have fn := HO.out.fn1
                have hor : Hid ((x.ct ||| y.ct).testBit k = (x.ct.testBit k || y.ct.testBit k)) := Nat.testBit_or ..
                have hand : Hid ((x.ct &&& y.ct).testBit k = (x.ct.testBit k && y.ct.testBit k)) := Nat.testBit_and ..
                cases hbx : x.ct.testBit k <;> cases hby : y.ct.testBit k
                all_goals
                  first | rw [hbx, if_neg (by decide)] at htx | rw [hbx, if_pos rfl] at htx
                  first | rw [hby, if_neg (by decide)] at hty | rw [hby, if_pos rfl] at hty
                · have HBX := Lib.hid hbx; have HBY := Lib.hid hby
                  clear hbx hby
                  go_wp2_with fail
                  go_quiet (fail)
                  go_wp2_with fail
                  go_roundw
                  case rel =>
                    refine ⟨k + 1, p * 2, X, Y, by omega, by go_num, by go_num, ?_, ?_, ?_, by omega, by omega, (HO.out.drewN nq), (HXz.out.drewN nq), (below_drewN hBz nq)⟩
                    · show p * 2 = 2 ^ (k + 1)
                      rw [hp.out, Nat.pow_succ]
                    · show X = (x.ct ||| y.ct) % 2 ^ (k + 1)
                      rw [mod_succ, if_neg (by rw [hor.out, HBX.out, HBY.out]; decide), Nat.add_zero]; exact hX.out
                    · show Y = (x.ct &&& y.ct) % 2 ^ (k + 1)
                      rw [mod_succ, if_neg (by rw [hand.out, HBX.out, HBY.out]; decide), Nat.add_zero]; exact hY.out
                  case measure => simp [intOf]; omega
                · have HBX := Lib.hid hbx; have HBY := Lib.hid hby
                  clear hbx hby
                  go_wp2_with fail
                  go_quiet (fail)
                  go_wp2_with fail
                  go_roundw
                  case rel =>
                    refine ⟨k + 1, p * 2, X + p, Y, by omega, by go_num, by go_num, ?_, ?_, ?_, by omega, by omega, ((HO.out.drewN nq).setO1z (v := X + p) (by simp)), ((HXz.out.drewN nq).set hlO _), ((below_drewN hBz nq).setCell (by show w.heap.size ≤ wB.heap.size; omega) _)⟩
                    · show p * 2 = 2 ^ (k + 1)
                      rw [hp.out, Nat.pow_succ]
                    · show X + p = (x.ct ||| y.ct) % 2 ^ (k + 1)
                      rw [mod_succ, if_pos (by rw [hor.out, HBX.out, HBY.out]; rfl), hX.out, hp.out]
                    · show Y = (x.ct &&& y.ct) % 2 ^ (k + 1)
                      rw [mod_succ, if_neg (by rw [hand.out, HBX.out, HBY.out]; decide), Nat.add_zero]; exact hY.out
                  case measure => simp [intOf]; omega
                · have HBX := Lib.hid hbx; have HBY := Lib.hid hby
                  clear hbx hby
                  go_wp2_with fail
                  go_quiet (fail)
                  go_wp2_with fail
                  go_roundw
                  case rel =>
                    refine ⟨k + 1, p * 2, X + p, Y, by omega, by go_num, by go_num, ?_, ?_, ?_, by omega, by omega, ((HO.out.drewN nq).setO1z (v := X + p) (by simp)), ((HXz.out.drewN nq).set hlO _), ((below_drewN hBz nq).setCell (by show w.heap.size ≤ wB.heap.size; omega) _)⟩
                    · show p * 2 = 2 ^ (k + 1)
                      rw [hp.out, Nat.pow_succ]
                    · show X + p = (x.ct ||| y.ct) % 2 ^ (k + 1)
                      rw [mod_succ, if_pos (by rw [hor.out, HBX.out, HBY.out]; rfl), hX.out, hp.out]
                    · show Y = (x.ct &&& y.ct) % 2 ^ (k + 1)
                      rw [mod_succ, if_neg (by rw [hand.out, HBX.out, HBY.out]; decide), Nat.add_zero]; exact hY.out
                  case measure => simp [intOf]; omega
                · have HBX := Lib.hid hbx; have HBY := Lib.hid hby
                  clear hbx hby
                  go_wp2_with fail
                  go_quiet (fail)
                  go_wp2_with fail
                  go_roundw
                  case rel =>
                    refine ⟨k + 1, p * 2, X + p, Y + p, by omega, by go_num, by go_num, ?_, ?_, ?_, by omega, by omega, (((HO.out.drewN nq).setO1z (v := X + p) (by simp)).setN1z (v := Y + p) (by simp)), (((HXz.out.drewN nq).set hlO _).set (by omega) _), (((below_drewN hBz nq).setCell (by show w.heap.size ≤ wB.heap.size; omega) _).setCell (by show w.heap.size ≤ wB.heap.size + 1; omega) _)⟩
                    · show p * 2 = 2 ^ (k + 1)
                      rw [hp.out, Nat.pow_succ]
                    · show X + p = (x.ct ||| y.ct) % 2 ^ (k + 1)
                      rw [mod_succ, if_pos (by rw [hor.out, HBX.out, HBY.out]; rfl), hX.out, hp.out]
                    · show Y + p = (x.ct &&& y.ct) % 2 ^ (k + 1)
                      rw [mod_succ, if_pos (by rw [hand.out, HBX.out, HBY.out]; rfl), hY.out, hp.out]
                  case measure => simp [intOf]; omega
              · obtain rfl : k = 8 := by omega
                have hXe : X = (x.join y).ct := by rw [hX.out]; exact join_ct x y
                have hYe : Y = (x.meet y).ct := by rw [hY.out]; exact meet_ct x y
                have HO2 := HO.out
                rw [hXe, hYe] at HO2
                have HOh := Lib.hid HO2
                have ca0 := HXz.out.pa0
                have cb0 := HXz.out.pb0
                have o0 := HO2.po0
                have n0 := HO2.pn0
                have fo := HO2.fo0
                have fn := HO2.fn0
                clear HO2 HO hX hY hXe hYe hXp hYp
                have ca1 := HXz.out.pa1
                have cb1 := HXz.out.pb1
                have hw1 : w.heap.size ≤ wB.heap.size := by omega
                have hw2 : w.heap.size ≤ wB.heap.size + 1 := by omega
                by_cases hl : x.lv < y.lv
                · have hl' : (x.lv : Int) < y.lv := by omega
                  go_wp2_with fail
                  go_region
                  go_wp2_with fail
                  go_region
                  go_upto_region 41 with (fail)
                  have hO4 := ((((((HOh.out.setO0z (z := .int .i64 (x.lv : Int)) (v := x.lv) rfl).setN0z (z := .int .i64 (y.lv : Int)) (v := y.lv) rfl).setO0z (z := .int .i64 (y.lv : Int)) (v := y.lv) rfl).setN0z (z := .int .i64 (x.lv : Int)) (v := x.lv) rfl).drew).drew)
                  have hX4 := ((((((HXz.out.set (o := 0) hlO (.int .i64 (x.lv : Int))).set (o := 0) (show w.heap.size + 23 < wB.heap.size + 1 by omega) (.int .i64 (y.lv : Int))).set (o := 0) hlO (.int .i64 (y.lv : Int))).set (o := 0) (show w.heap.size + 23 < wB.heap.size + 1 by omega) (.int .i64 (x.lv : Int))).drew).drew)
                  have hB4 := ((((((hBz.setCell (p := ⟨wB.heap.size, 0, none⟩) hw1 (.int .i64 (x.lv : Int))).setCell (p := ⟨wB.heap.size + 1, 0, none⟩) hw2 (.int .i64 (y.lv : Int))).setCell (p := ⟨wB.heap.size, 0, none⟩) hw1 (.int .i64 (y.lv : Int))).setCell (p := ⟨wB.heap.size + 1, 0, none⟩) hw2 (.int .i64 (x.lv : Int))).drew).drew)
                  have HO4 := Lib.hid hO4; have HX4 := Lib.hid hX4
                  clear hO4 hX4
                  go_wp2_with fail
                  refine (refBelow_any x y _).mono ?_
                  rintro e wp ⟨rfl, hbp⟩
                  have hO5 := HO4.out.below hbp
                  have hX5 := HX4.out.below hbp
                  have hB5 := hB4.trans (hbp.mono hB4.size)
                  have d1 := hO5.po0; have d2 := hO5.po1; have d3 := hO5.pn0; have d4 := hO5.pn1
                  have d5 := hX5.pj0; have d6 := hX5.pj1; have d7 := hX5.pm0; have d8 := hX5.pm1
                  clear hO5 hX5 hbp hB4 ca0 ca1 cb0 cb1 o0 n0
                  have hjl : (x.join y).lv = y.lv := Nat.max_eq_right (by omega)
                  have hml : (x.meet y).lv = x.lv := Nat.min_eq_left (by omega)
                  rw [hjl] at d5
                  rw [hml] at d7
                  go_wp2_with fail
                  go_ret
                  exact ⟨rfl, hB5⟩
                · have hl' : ¬ (x.lv : Int) < y.lv := by omega
                  go_wp2_with fail
                  go_region
                  go_upto_region 41 with (fail)
                  have hO4 := (((HOh.out.setO0z (z := .int .i64 (x.lv : Int)) (v := x.lv) rfl).setN0z (z := .int .i64 (y.lv : Int)) (v := y.lv) rfl).drew)
                  have hX4 := (((HXz.out.set (o := 0) hlO (.int .i64 (x.lv : Int))).set (o := 0) (show w.heap.size + 23 < wB.heap.size + 1 by omega) (.int .i64 (y.lv : Int))).drew)
                  have hB4 := (((hBz.setCell (p := ⟨wB.heap.size, 0, none⟩) hw1 (.int .i64 (x.lv : Int))).setCell (p := ⟨wB.heap.size + 1, 0, none⟩) hw2 (.int .i64 (y.lv : Int))).drew)
                  have HO4 := Lib.hid hO4; have HX4 := Lib.hid hX4
                  clear hO4 hX4
                  go_wp2_with fail
                  refine (refBelow_any x y _).mono ?_
                  rintro e wp ⟨rfl, hbp⟩
                  have hO5 := HO4.out.below hbp
                  have hX5 := HX4.out.below hbp
                  have hB5 := hB4.trans (hbp.mono hB4.size)
                  have d1 := hO5.po0; have d2 := hO5.po1; have d3 := hO5.pn0; have d4 := hO5.pn1
                  have d5 := hX5.pj0; have d6 := hX5.pj1; have d7 := hX5.pm0; have d8 := hX5.pm1
                  clear hO5 hX5 hbp hB4 ca0 ca1 cb0 cb1 o0 n0
                  have hjl : (x.join y).lv = x.lv := Nat.max_eq_left (by omega)
                  have hml : (x.meet y).lv = y.lv := Nat.min_eq_right (by omega)
                  rw [hjl] at d5
                  rw [hml] at d7
                  go_wp2_with fail
                  go_ret
                  exact ⟨rfl, hB5⟩
end Go.Proofs.Ythbimgibpiejcaa
