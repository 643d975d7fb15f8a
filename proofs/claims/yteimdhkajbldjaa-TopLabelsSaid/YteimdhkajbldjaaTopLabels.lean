/- TopLabels' walk. -/
import Derived.Test.YteimdhkajbldjaaTOps
import Derived.Test.YteimdhkajbldjaaTBeg0
import Derived.Test.YteimdhkajbldjaaRuleB
import Derived.Test.YteimdhkajbldjaaTLab
import Derived.Test.YteimdhkajbldjaaSFine
import Derived.Deep.CutRange
import Derived.Deep.RegionHeld3
import Derived.Lib.QuietBelow
import Derived.BigQuiet
import Derived.Deep.QuietTactic
set_option linter.unusedVariables false
set_option linter.unusedSimpArgs false
set_option maxRecDepth 100000
namespace Go.Proofs.Yteimdhkajbldjaa
open Go.RowKit Go.Sort

theorem sub_orT {a b v : Nat} (ha : a < 256) (hb : b < 256) (hv : v < 256) : decide (sub (a ||| b) v = 0) = (decide (sub a v = 0) && decide (sub b v = 0)) := by
  have hab : a ||| b < 256 := Nat.or_lt_two_pow (n := 8) ha hb
  rw [Bool.eq_iff_iff, Bool.and_eq_true, decide_eq_true_iff, decide_eq_true_iff, decide_eq_true_iff, sub_zero (by omega) (by omega), sub_zero (by omega) (by omega), sub_zero (by omega) (by omega)]
  constructor
  · intro h
    exact ⟨fun i hi => h i (by rw [Nat.testBit_or, hi, Bool.true_or]), fun i hi => h i (by rw [Nat.testBit_or, hi, Bool.or_true])⟩
  · rintro ⟨h1, h2⟩ i hi
    rw [Nat.testBit_or, Bool.or_eq_true] at hi
    rcases hi with hi | hi
    · exact h1 i hi
    · exact h2 i hi
theorem and255T (s : Int) : ∃ n : Nat, n ≤ 255 ∧ bits .and .i64 s 255 = (n : Int) := by
  refine ⟨(s % 256).toNat, by omega, ?_⟩
  have := i64_and_any s 255 8 (by decide) (by decide)
  rw [show ((255 : Nat) : Int) = 255 from rfl] at this
  rw [this]
  omega
def tlR : Nat → RuleL
  | 0 => ⟨0, -1, 0, 500, 7, true⟩
  | 1 => ⟨1, 0, 0, 1000, 56, true⟩
  | _ => ⟨-1, 2, 100, 200, 2, false⟩
/-- of versions that may be by themselves -/
theorem st_two {l : List VerL} (hl : l.length ≤ 5120) (h : ∀ v ∈ l, v.r.Ok ∧ v.gone = false) : stErr l = 0 ∨ stErr l = 2 := by
  have key : ∀ l : List VerL, (∀ v ∈ l, v.r.Ok ∧ v.gone = false) → errFrom [] l = 0 ∨ errFrom [] l = 2 := by
    refine fun l => snocInd (P := fun l => (∀ v ∈ l, v.r.Ok ∧ v.gone = false) → errFrom [] l = 0 ∨ errFrom [] l = 2) (fun _ => .inl rfl) (fun l v ih h => ?_) l
    rw [errFrom_snoc]
    rcases ih (fun v hv => h v (List.mem_append_left _ hv)) with h0 | h0
    · rw [if_neg (fun k => k h0)]
      obtain ⟨h1, h2⟩ := h v (by simp)
      unfold verErr
      rw [if_neg (fun k => k (v.r.err_ok.2 h1))]
      split
      · exact .inr rfl
      · rw [if_neg (by rw [h2]; simp)]
        exact .inl rfl
    · rw [if_pos (by rw [h0]; decide), h0]
      exact .inr rfl
  unfold stErr
  rw [if_neg (by omega)]
  exact key l h
theorem prt_at {l : List VerL} {k : Nat} {v : VerL} {m : Int} (h : l[k]? = some v) (hm : among v.r.cats m = true) : (prt l m)[(prt (l.take k) m).length]? = some v ∧ prt (l.take (k + 1)) m = prt (l.take k) m ++ [v] := by
  have e := take_snoc h
  have e2 : l = l.take (k + 1) ++ l.drop (k + 1) := (List.take_append_drop _ _).symm
  have h1 : prt (l.take (k + 1)) m = prt (l.take k) m ++ [v] := by rw [e, prt_append, prt_one, if_pos hm]
  refine ⟨?_, h1⟩
  have h2 : prt l m = prt (l.take k) m ++ [v] ++ prt (l.drop (k + 1)) m := by
    rw [← h1, ← prt_append, ← e2]
  rw [h2, List.append_assoc, List.getElem?_append_right (Nat.le_refl _), Nat.sub_self]
  rfl
theorem prt_off {l : List VerL} {k : Nat} {v : VerL} {m : Int} (h : l[k]? = some v) (hm : among v.r.cats m = false) : prt (l.take (k + 1)) m = prt (l.take k) m := by
  rw [take_snoc h, prt_append, prt_one, if_neg (by simp [hm]), List.append_nil]

set_option maxHeartbeats 16000000 in
theorem topLabels_walk (a : Option Addr) (c : Nat) (g : List RowI) (k1 k2 : Int) (x : WhoL) (w : World) (hs : SlG w a g) (hl : g.length ≤ c) (hm : c ≤ maxLen) :
    Calls Try.prog 8 #[.slice a g.length c, .int .i64 k1, .int .i64 k2, x.v] w fun e w' => e = .returned (.bool true) ∧ Below w.heap.size w w' := by
  obtain ⟨gl, hgl⟩ : ∃ gl, g.length = gl := ⟨_, rfl⟩
  obtain ⟨ca, hca, hba⟩ := and255T k1
  obtain ⟨cb, hcb, hbb⟩ := and255T k2
  obtain ⟨i0, hi0, hz0, hz1, hz2⟩ := info_parts Try.infoVer
  obtain ⟨W, hW⟩ : ∃ W, W = w.alloc (.cells #[.int .i64 x.role, .int .i64 x.why, .int .i64 x.time] 30) := ⟨_, rfl⟩
  have hA : Below w.heap.size w W := by rw [hW]; exact (Below.refl _ _).alloc (Nat.le_refl _) _
  have hx0 : W.cell? ⟨w.heap.size, 0, none⟩ = some (.int .i64 x.role) := by rw [hW]; simp [go_sem]
  have hx1 : W.cell? ⟨w.heap.size, 1, none⟩ = some (.int .i64 x.why) := by rw [hW]; simp [go_sem]
  have hx2 : W.cell? ⟨w.heap.size, 2, none⟩ = some (.int .i64 x.time) := by rw [hW]; simp [go_sem]
  have HX : Hid (∀ V, Below W.heap.size W V → V.cell? ⟨w.heap.size, 0, none⟩ = some (.int .i64 x.role) ∧ V.cell? ⟨w.heap.size, 1, none⟩ = some (.int .i64 x.why) ∧ V.cell? ⟨w.heap.size, 2, none⟩ = some (.int .i64 x.time)) := fun V hV => ⟨(hV.cell (p := ⟨w.heap.size, 0, none⟩) (cell_lt hx0)).trans hx0, (hV.cell (p := ⟨w.heap.size, 1, none⟩) (cell_lt hx1)).trans hx1, (hV.cell (p := ⟨w.heap.size, 2, none⟩) (cell_lt hx2)).trans hx2⟩
  have HS := Lib.hid hs
  have HL := Lib.hid hl
  have HM := Lib.hid hm
  have HGL := Lib.hid hgl
  have HA := Lib.hid hA
  have HW := Lib.hid hW
  have HCA := Lib.hid hca
  have HCB := Lib.hid hcb
  rw [hgl]
  clear hs hl hm hgl hA hW hx0 hx1 hx2 hca hcb
  go_enter Try.func8, Try.ntmps8
  go_wp2_with fail
  refine (topBegun_is _).mono ?_
  rintro e w1 ⟨rfl, hb1⟩
  rw [← HW.out] at hb1
  obtain ⟨U1, hU1⟩ : ∃ U1, U1 = w1.alloc (.cells #[.int .i64 0, .int .i64 (-1), .int .i64 0, .int .i64 500, .int .i64 7, .bool true, .int .i64 1, .int .i64 0, .int .i64 0, .int .i64 1000, .int .i64 56, .bool true, .int .i64 (-1), .int .i64 2, .int .i64 100, .int .i64 200, .int .i64 2, .bool false] 63) := ⟨_, rfl⟩
  have hA1 : Below w1.heap.size w1 U1 := by rw [hU1]; exact (Below.refl _ _).alloc (Nat.le_refl _) _
  have hr1 : SlR U1 (some ⟨w1.heap.size, 0, none⟩) 3 tlR := fun k hk => by
    refine ⟨w1.heap.size, 0, rfl, ?_⟩
    rw [hU1]
    match k, hk with
    | 0, _ => refine ⟨?_, ?_, ?_, ?_, ?_, ?_⟩ <;> simp [go_sem, tlR]
    | 1, _ => refine ⟨?_, ?_, ?_, ?_, ?_, ?_⟩ <;> simp [go_sem, tlR]
    | 2, _ => refine ⟨?_, ?_, ?_, ?_, ?_, ?_⟩ <;> simp [go_sem, tlR]
  obtain ⟨U2, hU2⟩ : ∃ U2, U2 = U1.alloc (.cells #[.int .i64 0, .int .i64 1] 3) := ⟨_, rfl⟩
  have hA2 : Below U1.heap.size U1 U2 := by rw [hU2]; exact (Below.refl _ _).alloc (Nat.le_refl _) _
  have hzl : ∀ (V : World) (g : Nat), V.cell? ⟨g, 0, none⟩ = some (.int .i64 0) → V.cell? ⟨g, 1, none⟩ = some (.int .i64 1) → Sl V (some ⟨g, 0, none⟩) 2 (fun k => (k : Int)) := fun V g h0 h1 k hk => by
    match k, hk with
    | 0, _ => exact ⟨g, 0, rfl, h0⟩
    | 1, _ => exact ⟨g, 0, rfl, h1⟩
  have hbw1 := hb1
  have HB1 := Lib.hid (hb1.trans ((hA1.trans (hA2.mono hA1.size)).mono hb1.size))
  have HR1 := Lib.hid hr1
  have HA1 := Lib.hid hA1
  have HA2 := Lib.hid hA2
  have HZL := Lib.hid hzl
  obtain ⟨er, her⟩ : ∃ er, seesE 2 (fun k => (k : Int)) 3 tlR x = er := ⟨_, rfl⟩
  obtain ⟨sv, hsv⟩ : ∃ sv, seesV 2 (fun k => (k : Int)) 3 tlR x = sv := ⟨_, rfl⟩
  have hSE := sees_any (some ⟨U1.heap.size, 0, none⟩) 2 2 (fun k => (k : Int)) (some ⟨w1.heap.size, 0, none⟩) 3 3 tlR x U2 (hzl U2 U1.heap.size (by rw [hU2]; simp [go_sem]) (by rw [hU2]; simp [go_sem])) (by unfold maxLen; omega) (hr1.below hA2) (by unfold maxLen; omega)
  rw [her, hsv] at hSE
  have HER := Lib.hid her
  have HSV := Lib.hid hsv
  have HSV8 : Hid (sv ≤ 255) := by show sv ≤ 255; rw [← hsv]; exact Nat.le_of_lt_succ seesV_lt
  obtain ⟨x0, x1, x2⟩ := HX.out w1 hb1
  have l0 := cell_lt x0
  have l1 : w.heap.size < w1.heap.size + 1 := by omega
  have HU1 := Lib.hid hU1
  have HU2 := Lib.hid hU2
  have hus : U1.heap.size = w1.heap.size + 1 := by rw [hU1]; simp
  have HSE := Lib.hid (show Calls Try.prog 12 #[.slice (some ⟨w1.heap.size + 1, 0, none⟩) 2 2, .slice (some ⟨w1.heap.size, 0, none⟩) 3 3, x.v] U2 _ by rw [← hus]; exact hSE)
  rw [hU2, hU1] at HSE
  clear hb1 hbw1 hA1 hr1 hA2 hzl hSE her hsv hU1 hU2
  go_wp2_with fail
  refine HSE.out.mono ?_
  rintro e w2 ⟨rfl, hb2⟩
  rw [← HU1.out, ← HU2.out] at hb2
  have hbW2 := HB1.out.trans (hb2.mono HB1.out.size)
  have hb12 := HA2.out.trans (hb2.mono HA2.out.size)
  have HBW2 := Lib.hid hbW2
  have HB12 := Lib.hid hb12
  clear hb2 hbW2 hb12 HSE x0 x1 x2 l0 l1 hus
  by_cases h0 : er = 0
  · subst h0
    have HMAY : Hid (∀ (ct : Nat), ct ≤ 255 → ∀ (V : World) (g : Nat), Below U1.heap.size U1 V → V.cell? ⟨g, 0, none⟩ = some (.int .i64 0) → V.cell? ⟨g, 1, none⟩ = some (.int .i64 1) →
        Calls Try.prog 25 #[.slice (some ⟨g, 0, none⟩) 2 2, .slice (some ⟨w1.heap.size, 0, none⟩) 3 3, .agg #[.int .i64 x.role, .int .i64 x.why, .int .i64 x.time], .int .i64 (ct : Int)] V fun e w' => e = .returned (.tuple #[.bool (decide (sub ct sv = 0)), .int .i64 0]) ∧ Below V.heap.size V w') := fun ct hct V g hV h0 h1 => by
      have h := may_any (some ⟨g, 0, none⟩) 2 2 (fun k => (k : Int)) (some ⟨w1.heap.size, 0, none⟩) 3 3 tlR x (ct : Int) V (HZL.out V g h0 h1) (by unfold maxLen; omega) (HR1.out.below hV) (by unfold maxLen; omega)
      have e1 : mayE 2 (fun k => (k : Int)) 3 tlR x (ct : Int) = 0 := by
        unfold mayE
        rw [HER.out, if_neg (fun k => k rfl), if_pos ⟨by omega, by omega⟩]
      have e2 : mayV 2 (fun k => (k : Int)) 3 tlR x (ct : Int) = decide (sub ct sv = 0) := by
        unfold mayV
        rw [e1, HSV.out, Int.toNat_natCast]
        simp
      rw [e1, e2] at h
      exact h
    obtain ⟨J, hJ⟩ : ∃ J, ca ||| cb = J := ⟨_, rfl⟩
    have hJ8 : J ≤ 255 := by rw [← hJ]; have := Nat.or_lt_two_pow (n := 8) (x := ca) (y := cb) (by have := HCA.out; omega) (by have := HCB.out; omega); omega
    have hj := ljoin_ok 0 ca 0 cb w2 (by omega) HCA.out (by omega) HCB.out
    rw [hJ] at hj
    change Calls _ _ #[.agg #[.int .i64 0, .int .i64 (ca : Int)], .agg #[.int .i64 0, .int .i64 (cb : Int)]] w2 (fun e w' => e = .returned (.tuple #[.agg #[.int .i64 0, .int .i64 (J : Int)], .int .i64 0]) ∧ Below w2.heap.size w2 w' ∧ w'.heap.size = w2.heap.size + 7) at hj
    have HJ := Lib.hid hj
    have HJJ := Lib.hid hJ
    have HJ8 := Lib.hid hJ8
    clear hj hJ hJ8
    go_wp2_with fail
    refine HJ.out.mono ?_
    rintro e w3 ⟨rfl, hb3, hz3⟩
    clear hz3
    go_upto_region 9 with fail
    obtain ⟨V8, hV8⟩ : ∃ V8, V8 = w3.alloc (.cells #[.int .i64 0, .int .i64 (J : Int)] 70) := ⟨_, rfl⟩
    rw [← hV8]
    have hA8 : Below w3.heap.size w3 V8 := by rw [hV8]; exact (Below.refl _ _).alloc (Nat.le_refl _) _
    have dJ : V8.cell? ⟨w3.heap.size, 1, none⟩ = some (.int .i64 (J : Int)) := by rw [hV8]; simp [go_sem]
    have hb38 := hb3.trans (hA8.mono hb3.size)
    obtain ⟨U4, hU4⟩ : ∃ U4, U4 = V8.alloc (.cells #[.int .i64 0, .int .i64 1] 3) := ⟨_, rfl⟩
    have hA4 : Below V8.heap.size V8 U4 := by rw [hU4]; exact (Below.refl _ _).alloc (Nat.le_refl _) _
    have hb34 := hb38.trans (hA4.mono hb38.size)
    have hm4 := HMAY.out ca HCA.out U4 V8.heap.size (HB12.out.trans (hb34.mono HB12.out.size)) (by rw [hU4]; simp [go_sem]) (by rw [hU4]; simp [go_sem])
    have HBW4 := Lib.hid (HBW2.out.trans (hb34.mono HBW2.out.size))
    have HB14 := Lib.hid (HB12.out.trans (hb34.mono HB12.out.size))
    obtain ⟨x0, x1, x2⟩ := HX.out V8 (HBW2.out.trans (hb38.mono HBW2.out.size))
    have l0 := cell_lt x0
    have HDJ := Lib.hid ((hA4.cell (p := ⟨w3.heap.size, 1, none⟩) (cell_lt dJ)).trans dJ)
    have HU4 := Lib.hid hU4
    rw [hU4] at hm4
    have HM4 := Lib.hid hm4
    clear hb3 hA4 hb34 dJ hm4 hU4 hA8 hb38 hV8
    go_wp2_with fail
    refine HM4.out.mono ?_
    rintro e w5 ⟨rfl, hb5⟩
    rw [← HU4.out] at hb5
    obtain ⟨U5, hU5⟩ : ∃ U5, U5 = w5.alloc (.cells #[.int .i64 0, .int .i64 1] 3) := ⟨_, rfl⟩
    have hA5 : Below w5.heap.size w5 U5 := by rw [hU5]; exact (Below.refl _ _).alloc (Nat.le_refl _) _
    have hb45 := hb5.trans (hA5.mono hb5.size)
    have hm5 := HMAY.out cb HCB.out U5 w5.heap.size (HB14.out.trans (hb45.mono HB14.out.size)) (by rw [hU5]; simp [go_sem]) (by rw [hU5]; simp [go_sem])
    have HBW5 := Lib.hid (HBW4.out.trans (hb45.mono HBW4.out.size))
    have HB15 := Lib.hid (HB14.out.trans (hb45.mono HB14.out.size))
    have HB45 := Lib.hid hb45
    clear x0 x1 x2 l0
    obtain ⟨x0, x1, x2⟩ := HX.out w5 (HBW4.out.trans (hb5.mono HBW4.out.size))
    have l0 := cell_lt x0
    have HU5 := Lib.hid hU5
    rw [hU5] at hm5
    have HM5 := Lib.hid hm5
    clear hb5 hA5 hb45 hm5 hU5 HM4
    go_wp2_with fail
    refine HM5.out.mono ?_
    rintro e w6 ⟨rfl, hb6⟩
    rw [← HU5.out] at hb6
    obtain ⟨U6, hU6⟩ : ∃ U6, U6 = w6.alloc (.cells #[.int .i64 0, .int .i64 1] 3) := ⟨_, rfl⟩
    have hA6 : Below w6.heap.size w6 U6 := by rw [hU6]; exact (Below.refl _ _).alloc (Nat.le_refl _) _
    have hb56 := hb6.trans (hA6.mono hb6.size)
    have hm6 := HMAY.out J HJ8.out U6 w6.heap.size (HB15.out.trans (hb56.mono HB15.out.size)) (by rw [hU6]; simp [go_sem]) (by rw [hU6]; simp [go_sem])
    rw [← HJJ.out, sub_orT (by have := HCA.out; omega) (by have := HCB.out; omega) (by have := HSV8.out; omega), HJJ.out] at hm6
    have HBW6 := Lib.hid (HBW5.out.trans (hb56.mono HBW5.out.size))
    have dJ := ((HB45.out.trans (hb6.mono HB45.out.size)).cell (p := ⟨w3.heap.size, 1, none⟩) (cell_lt HDJ.out)).trans HDJ.out
    have lJ := cell_lt dJ
    clear x0 x1 x2 l0
    obtain ⟨x0, x1, x2⟩ := HX.out w6 (HBW5.out.trans (hb6.mono HBW5.out.size))
    have l0 := cell_lt x0
    have HU6 := Lib.hid hU6
    obtain ⟨bA, hbA⟩ : ∃ bA, decide (sub ca sv = 0) = bA := ⟨_, rfl⟩
    obtain ⟨bB, hbB⟩ : ∃ bB, decide (sub cb sv = 0) = bB := ⟨_, rfl⟩
    rw [hbA, hbB] at hm6 ⊢
    rw [hU6] at hm6
    have HM6 := Lib.hid hm6
    clear hb6 hA6 hb56 hm6 hU6 HM5 hbA hbB
    go_wp2_with fail
    refine HM6.out.mono ?_
    rintro e w7 ⟨rfl, hb7⟩
    rw [← HU6.out] at hb7
    have hbW7 := HBW6.out.trans (hb7.mono HBW6.out.size)
    have HBw7 := Lib.hid (HA.out.trans (hbW7.mono HA.out.size))
    clear hb7 hbW7 x0 x1 x2 l0 dJ lJ HM6
    go_upto_region 12 with fail
    go_cut [104] from 83 to 104 (fun s wc => s = .bool false ∧ wc = w7)
    case first =>
      cases bA <;> cases bB
      all_goals
        go_wp2_with fail
        go_meet
        case rel => exact ⟨rfl, rfl⟩
    case rest =>
      obtain ⟨rfl, hwc⟩ := hcut
      rw [hwc]
      clear hwc
      have hops := ops_is a g c w7 (HS.out.below HBw7.out) HL.out HM.out
      rw [HGL.out] at hops
      have HOPS := Lib.hid hops
      clear hops
      go_wp2_with fail
      refine HOPS.out.mono ?_
      rintro e w8 ⟨A, n, cap, l, rfl, hn25, hrow, hk6, hb8⟩
      have HROW := Lib.hid hrow
      have HB78 := Lib.hid hb8
      have HBw8 := Lib.hid (HBw7.out.trans (hb8.mono HBw7.out.size))
      clear hrow hk6 hb8 HOPS
      go_wp2_with fail
      go_loopw [20, 108] (fun v i wr => ∃ (k : Nat) (q : List PV), k ≤ n ∧ i = .int .i64 k ∧ q.length ≤ k ∧ RowV w8.heap.size wr v q ∧ Hid (AllNew w7.heap.size wr q) ∧ Hid (∀ y ∈ q, y.v.r.Ok ∧ y.v.gone = false) ∧ Hid (Below w8.heap.size w8 wr)) (fun _ i _ => n - (intOf i).toNat)
      case atStart => exact ⟨0, [], Nat.zero_le _, rfl, Nat.le_refl _, RowV.nil _ _, AllNew.nil _ _, (fun y hy => absurd hy (by simp)), Below.refl _ _⟩
      case round =>
        obtain ⟨k, q, hk, rfl, hqk, hrv, HAN, HQO, HB⟩ := hrel
        obtain ⟨Aq, cq, hv⟩ := RowV.form hrv
        subst hv
        obtain ⟨nq, hnq⟩ : ∃ nq, q.length = nq := ⟨_, rfl⟩
        rw [hnq] at hrv hqk ⊢
        have HRV := Lib.hid hrv
        have HNQ := Lib.hid hnq
        clear hrv hnq
        by_cases hlt : k < n
        · have hrow := HROW.out.kept (Kept.of (Z := fun _ => True) HB.out) (fun _ _ => trivial)
          obtain ⟨y, b, off, hx, rfl, hat, hin, hok⟩ := hrow.at hlt
          have hnewr := (hrow.new y (List.mem_of_getElem? hx)).r
          obtain ⟨c0, c1, c2, c3, c4, c5, c6, c7, c8, c9, c10, c11⟩ := hat
          have i1 : (0 : Int) ≤ (k : Int) := by omega
          have i2 : (k : Int) < (n : Int) := by omega
          obtain ⟨W9, hW9⟩ : ∃ W9, W9 = wr.alloc (.cells #[.int .i64 y.o.kind, .int .i64 y.o.who.role, .int .i64 y.o.who.why, .int .i64 y.o.who.time, .slice y.P.ra y.o.n y.P.rc, .string y.o.r.id, .int .i64 y.o.r.cats, .slice y.P.p.fa y.o.r.fs.length y.P.p.fc, .slice y.P.p.ra y.o.r.rs.length y.P.p.rc, .string y.o.id, .string y.o.f.key, .string y.o.f.val] 39) := ⟨_, rfl⟩
          have hA9 : Below wr.heap.size wr W9 := by rw [hW9]; exact (Below.refl _ _).alloc (Nat.le_refl _) _
          by_cases h2 : y.o.kind = 2
          · have e2 : (y.o.kind == 2) = true := by simpa using h2
            have hbx : Below W9.heap.size W9 ((⟨⟨y.o.r, false⟩, y.P.p⟩ : PV).box W9) := (Below.refl _ _).alloc (Nat.le_refl _) _
            have hrow2 : RowV w8.heap.size ((⟨⟨y.o.r, false⟩, y.P.p⟩ : PV).box W9) (.slice Aq nq cq) q := (RowV.below (by rw [← HNQ.out] at HRV; exact HNQ.out ▸ HRV.out) hA9).below hbx
            have hall2 : AllNew w7.heap.size ((⟨⟨y.o.r, false⟩, y.P.p⟩ : PV).box W9) (q ++ [⟨⟨y.o.r, false⟩, y.P.p⟩]) := ((HAN.out.append (AllNew.one hnewr)).below hA9).below hbx
            have hbB : Below w8.heap.size w8 ((⟨⟨y.o.r, false⟩, y.P.p⟩ : PV).box W9) := HB.out.trans ((hA9.trans (hbx.mono hA9.size)).mono HB.out.size)
            have hnews := cell_five_new W9 (⟨⟨y.o.r, false⟩, y.P.p⟩ : PV) 54
            have hlast : w8.heap.size ≤ ((⟨⟨y.o.r, false⟩, y.P.p⟩ : PV).box W9).heap.size := hbB.size
            have HQO2 : Hid (∀ z ∈ q ++ [(⟨⟨y.o.r, false⟩, y.P.p⟩ : PV)], z.v.r.Ok ∧ z.v.gone = false) := fun z hz => by
              rcases List.mem_append.1 hz with hz | hz
              · exact HQO.out z hz
              · rw [List.mem_singleton] at hz
                subst hz
                exact ⟨hok.ok, rfl⟩
            have hn80 : nq < 1000 := by omega
            have HR2 := Lib.hid hrow2
            have HALL := Lib.hid hall2
            have HNE := Lib.hid hnews
            have HBB := Lib.hid hbB
            have HW9 := Lib.hid hW9
            have HLA := Lib.hid hlast
            have hlast2 := hlast
            rw [hW9] at hlast2
            rw [hW9] at HNE HR2
            clear hrow hx hin hok hnewr hbx hrow2 hall2 hnews hbB hA9 h2 hW9 hlast
            go_wp2_with (at_builtin; refine wpList_append_own _ rfl _ _ 45 rfl w8.heap.size 54 i0 _ 5 80 Try.underlying45 hi0 hz0 hz1 hz2 rfl (by decide) (.slice Aq nq cq) nq (cellsV q) rfl (HNQ.out ▸ HR2.out) ⟨wr.heap.size + 1, 0, none⟩ 1 1 (cellsV [(⟨⟨y.o.r, false⟩, y.P.p⟩ : PV)]) rfl rfl (by simpa using HNE.out) (cellsV_one _) (by unfold maxLen; omega) (by omega) hlast2 ?_; intro v' w3 hown' hgrow hnv)
            rw [← HW9.out] at hgrow HR2
            have hr3 : RowV w8.heap.size w3 v' (q ++ [(⟨⟨y.o.r, false⟩, y.P.p⟩ : PV)]) := by
              unfold RowV
              rw [cellsV_append, List.length_append, HNQ.out]
              exact hown'
            have hr2' : RowV w8.heap.size ((⟨⟨y.o.r, false⟩, y.P.p⟩ : PV).box W9) (.slice Aq q.length cq) q := by rw [HNQ.out]; exact HR2.out
            have ha3 := HALL.out.grown hr2' (by rw [HNQ.out]; exact hgrow)
            have hB3 : Below w8.heap.size w8 w3 := HBB.out.grown hgrow HBB.out.size (fun jj hj => ((World.ownsRow.lt HR2.out) jj (show (Value.slice Aq nq cq).ownBlock = some jj from hj)).1)
            have HR3 := Lib.hid hr3
            have HA3 := Lib.hid ha3
            have HB3 := Lib.hid hB3
            clear hown' hgrow hnv ha3 HALL HBB HNE HR2 hr3 hr2' hB3 hlast2
            go_wp2_with fail
            go_roundw
            case rel => exact ⟨k + 1, q ++ [(⟨⟨y.o.r, false⟩, y.P.p⟩ : PV)], by omega, by go_num, (by rw [List.length_append, HNQ.out]; exact Nat.succ_le_succ hqk), HR3.out, HA3.out, HQO2.out, HB3.out⟩
            case measure => simp [intOf]; omega
          · have e2 : (y.o.kind == 2) = false := by simpa using h2
            have HB9 := Lib.hid (HB.out.trans (hA9.mono HB.out.size))
            have HRV9 : Hid (RowV w8.heap.size W9 (.slice Aq nq cq) q) := RowV.below HRV.out hA9
            have HAN9 := Lib.hid (HAN.out.below hA9)
            have HW9 := Lib.hid hW9
            clear hrow hx hin hok hnewr hA9 h2 hW9
            go_wp2_with fail
            rw [← HW9.out]
            go_roundw
            case rel => exact ⟨k + 1, q, by omega, by go_num, by rw [HNQ.out]; omega, HRV9.out, HAN9.out, HQO.out, HB9.out⟩
            case measure => simp [intOf]; omega
        · obtain rfl : k = n := by omega
          obtain ⟨wq, hwq⟩ : ∃ wq, wq = wr := ⟨_, rfl⟩
          subst hwq
          have hsl := RowV.sl (by rw [HNQ.out]; exact HRV.out) HAN.out.in_
          obtain ⟨vs, hvs⟩ : ∃ vs, q.map (·.v) = vs := ⟨_, rfl⟩
          have hva : VsAt wq Aq nq vs := ⟨q, hvs, HNQ.out, hsl.1⟩
          have hvl : vs.length = nq := by rw [← hvs, List.length_map, HNQ.out]
          have hvo : ∀ v ∈ vs, v.r.Ok ∧ v.gone = false := fun v hv => by
            rw [← hvs] at hv
            obtain ⟨z, hz, rfl⟩ := List.mem_map.1 hv
            exact HQO.out z hz
          obtain ⟨er2, her2⟩ : ∃ e, prtErr vs (sv : Int) = e := ⟨_, rfl⟩
          obtain ⟨R, hR⟩ : ∃ R, prtL vs (sv : Int) = R := ⟨_, rfl⟩
          have HP := Lib.hid (prt_is cq (sv : Int) wq hva (by unfold maxLen; omega) hR her2)
          have hst := st_two (l := vs) (by omega) hvo
          have HSLW := Lib.hid hsl.1
          have HVS := Lib.hid hvs
          have HVL := Lib.hid hvl
          have HVO := Lib.hid hvo
          have HBw9 := Lib.hid (HBw8.out.trans (HB.out.mono HBw8.out.size))
          clear hsl hva hvl hvo hvs hlt
          by_cases h2 : er2 = 0
          · subst h2
            have hR2 : R = prt vs (sv : Int) := by rw [← hR]; unfold prtL; rw [if_pos her2]
            have HRR := Lib.hid hR2
            clear hR hR2 her2 hst
            go_wp2_with fail
            refine HP.out.mono ?_
            rintro e wp ⟨Ap, mp, cp, rfl, hnp, hbp⟩
            obtain ⟨pl, hp1, hp2, hp3⟩ := hnp.at_
            have hpm : mp ≤ maxLen := Nat.le_trans hnp.cap.1 hnp.cap.2
            unfold maxLen at hpm
            have HPL := Lib.hid (And.intro hp1 hp2)
            have HP3 := Lib.hid hp3
            have HSL2 := Lib.hid (HSLW.out.below hbp)
            have HBwp := Lib.hid (HBw9.out.trans (hbp.mono HBw9.out.size))
            clear hnp hbp hp1 hp2 hp3 HP
            go_wp2_with fail
            go_loopw [24, 134] (fun nn i wr => ∃ (j u : Nat), j ≤ nq ∧ i = .int .i64 j ∧ nn = .int .i64 u ∧ u ≤ j ∧ Hid (u = (prt (vs.take j) (sv : Int)).length) ∧ Hid (Below wp.heap.size wp wr)) (fun _ i _ => nq - (intOf i).toNat)
            case atStart => exact ⟨0, 0, Nat.zero_le _, rfl, rfl, Nat.le_refl _, by show 0 = (prt (vs.take 0) (sv : Int)).length; rw [List.take_zero]; rfl, Below.refl _ _⟩
            case round =>
              obtain ⟨j, u, hj, rfl, rfl, huj, HU, HBJ⟩ := hrel
              by_cases hjn : j < nq
              · obtain ⟨z, hz⟩ : ∃ z, q[j]? = some z := ⟨_, List.getElem?_eq_getElem (by rw [HNQ.out]; exact hjn)⟩
                obtain ⟨hzi, zb, zo, rfl, v0, v1, v2, v3, v4⟩ := (HSL2.out.below HBJ.out) j z hz
                have hzv : vs[j]? = some z.v := by rw [← HVS.out, List.getElem?_map, hz]; rfl
                have hzok := (HVO.out z.v (List.mem_of_getElem? hzv)).1
                obtain ⟨ct, hct⟩ := Int.eq_ofNat_of_zero_le hzok.c0
                have hct8 : ct ≤ 255 := by have := hzok.c1; omega
                have hlb := fun V => lbelow_ok 0 ct 0 sv V (by omega) hct8 (by omega) HSV8.out
                have j0 : (0 : Int) ≤ (j : Int) := by omega
                have j1 : (j : Int) < (nq : Int) := by omega
                obtain ⟨zv, zp⟩ := z
                obtain ⟨⟨zid, zct, zfs, zrs⟩, zg⟩ := zv
                simp only at hct hzi v0 v1 v2 v3 v4 hzv
                subst hct
                obtain ⟨bS, hbS⟩ : ∃ bS, decide (sub ct sv = 0) = bS := ⟨_, rfl⟩
                have HLB : Hid (∀ V : World, Calls Try.prog 27 #[.agg #[.int .i64 0, .int .i64 (ct : Int)], .agg #[.int .i64 0, .int .i64 (sv : Int)]] V fun e w' => e = .returned (.tuple #[.bool bS, .int .i64 0]) ∧ Below V.heap.size V w') := fun V => by
                  have h := hlb V
                  rw [hbS] at h
                  refine Calls.mono h ?_
                  rintro e w' ⟨rfl, h1, _⟩
                  exact ⟨by simp, h1⟩
                have HBS : Hid (among ((ct : Nat) : Int) (sv : Int) = bS) := by
                  show among _ _ = bS
                  unfold among
                  rw [Int.toNat_natCast, Int.toNat_natCast, hbS]
                obtain ⟨W9, hW9⟩ : ∃ W9, W9 = wr.alloc (.cells #[.string zid, .int .i64 ((ct : Nat) : Int), .slice zp.fa zfs.length zp.fc, .slice zp.ra zrs.length zp.rc, .bool zg] 54) := ⟨_, rfl⟩
                have hA9 : Below wr.heap.size wr W9 := by rw [hW9]; exact (Below.refl _ _).alloc (Nat.le_refl _) _
                have b0 : W9.cell? ⟨wr.heap.size, 0, none⟩ = some (.string zid) := by rw [hW9]; simp [go_sem]
                have b1 : W9.cell? ⟨wr.heap.size, 1, none⟩ = some (.int .i64 ((ct : Nat) : Int)) := by rw [hW9]; simp [go_sem]
                have b2 : W9.cell? ⟨wr.heap.size, 2, none⟩ = some (.slice zp.fa zfs.length zp.fc) := by rw [hW9]; simp [go_sem]
                have b3 : W9.cell? ⟨wr.heap.size, 3, none⟩ = some (.slice zp.ra zrs.length zp.rc) := by rw [hW9]; simp [go_sem]
                have HBV := Lib.hid (And.intro b0 (And.intro b1 (And.intro b2 b3)))
                have HZI := Lib.hid (hzi.below hA9)
                have HZV := Lib.hid hzv
                have HA9 := Lib.hid hA9
                have HW9 := Lib.hid hW9
                have HB9 := Lib.hid (HBJ.out.trans (hA9.mono HBJ.out.size))
                have l9 : wr.heap.size < wr.heap.size + 1 := by omega
                clear hlb hbS hzi hzv hzok hz hA9 hW9 b0 b1 b2 b3 hct8
                go_wp2_with fail
                rw [← HW9.out]
                refine (HLB.out W9).mono ?_
                rintro e wb ⟨rfl, hbb⟩
                have HBb := Lib.hid hbb
                have HBwb := Lib.hid (HB9.out.trans (hbb.mono HB9.out.size))
                clear hbb v0 v1 v2 v3 v4 l9
                cases bS with
                | true =>
                  obtain ⟨hat, htk⟩ := prt_at HZV.out (m := (sv : Int)) HBS.out
                  rw [← HU.out, ← HRR.out, ← HPL.out.1, List.getElem?_map] at hat
                  obtain ⟨⟨yv, yp⟩, hy, hye⟩ : ∃ y, pl[u]? = some y ∧ y.v = ⟨⟨zid, (ct : Int), zfs, zrs⟩, zg⟩ := by
                    cases hq : pl[u]? with
                    | none => rw [hq] at hat; cases hat
                    | some y => rw [hq] at hat; exact ⟨y, rfl, Option.some.inj hat⟩
                  simp only at hye
                  subst hye
                  have hum : u < mp := by rw [← HPL.out.2]; exact (List.getElem?_eq_some_iff.1 hy).1
                  obtain ⟨hyi, pb, po, rfl, p0, p1, p2, p3, _⟩ := (HP3.out.below HBwb.out) u _ hy
                  have k0 := cell_regrown p0
                  have k1 := cell_regrown p1
                  have k2 := cell_regrown p2
                  have k3 := cell_regrown p3
                  have k4 := cell_regrown ((HBb.out.cell (p := ⟨wr.heap.size, 0, none⟩) (cell_lt HBV.out.1)).trans HBV.out.1)
                  have k5 := cell_regrown ((HBb.out.cell (p := ⟨wr.heap.size, 1, none⟩) (cell_lt HBV.out.2.1)).trans HBV.out.2.1)
                  have k6 := cell_regrown ((HBb.out.cell (p := ⟨wr.heap.size, 2, none⟩) (cell_lt HBV.out.2.2.1)).trans HBV.out.2.2.1)
                  have k7 := cell_regrown ((HBb.out.cell (p := ⟨wr.heap.size, 3, none⟩) (cell_lt HBV.out.2.2.2)).trans HBV.out.2.2.2)
                  have hri : (⟨zid, (ct : Int), zfs, zrs⟩ : RecL).in_ yp wb := hyi
                  have hri2 : (⟨zid, (ct : Int), zfs, zrs⟩ : RecL).in_ zp wb := HZI.out.below HBb.out
                  have cS : ∀ d os, Calls Try.prog 22 #[.agg #[.string zid, .int .i64 (ct : Int), .slice yp.fa zfs.length yp.fc, .slice yp.ra zrs.length yp.rc], .agg #[.string zid, .int .i64 (ct : Int), .slice zp.fa zfs.length zp.fc, .slice zp.ra zrs.length zp.rc]] (grow (redrawn wb d) os) fun e w'' => e = .returned (.bool true) ∧ ∃ p : Regrown, w'' = grow (redrawn wb p.d) p.os := fun d os => Calls.regrown_of (same_is (b := true) ⟨zid, (ct : Int), zfs, zrs⟩ ⟨zid, (ct : Int), zfs, zrs⟩ yp zp _ (hri.below (below_regrown wb d os)) (hri2.below (below_regrown wb d os)) (by simp))
                  have u0 : (0 : Int) ≤ (u : Int) := by omega
                  have u1 : (u : Int) < (mp : Int) := by omega
                  have u2 : ((u : Int) == (mp : Int)) = false := by simp; omega
                  have HTK := Lib.hid htk
                  clear hat htk hy hyi p0 p1 p2 p3 hri hri2
                  go_wp2_with fail
                  refine region_below_lit (by kernel_rfl) (by kernel_rfl) ?_
                  repeat (go_big_quiet_step (with_reducible first | exact cS _ _))
                  refine wpQuiet_nil ?_
                  intro _ hw'
                  obtain ⟨⟨dq, osq⟩, hw''⟩ := hw'
                  subst hw''
                  have HBF := Lib.hid (HBwb.out.trans ((below_regrown wb dq osq).mono HBwb.out.size))
                  generalize grow (redrawn wb dq) osq = wf at HBF ⊢
                  clear k0 k1 k2 k3 k4 k5 k6 k7 cS u2
                  go_wp2_with fail
                  go_roundw
                  case rel => exact ⟨j + 1, u + 1, by omega, by go_num, by go_num, by omega, by show u + 1 = _; rw [HTK.out, List.length_append, ← HU.out]; rfl, HBF.out⟩
                  case measure => simp [intOf]; omega
                | false =>
                  have htk := prt_off HZV.out (m := (sv : Int)) HBS.out
                  have HTK := Lib.hid htk
                  clear htk
                  go_wp2_with fail
                  go_roundw
                  case rel => exact ⟨j + 1, u, by omega, by go_num, rfl, by omega, by show u = _; rw [HTK.out]; exact HU.out, HBwb.out⟩
                  case measure => simp [intOf]; omega
              · obtain rfl : j = nq := by omega
                have hum : u = mp := by
                  rw [HU.out, ← HVL.out, List.take_length, ← HRR.out, ← HPL.out.1, List.length_map, HPL.out.2]
                have HBF := Lib.hid (HBwp.out.trans (HBJ.out.mono HBwp.out.size))
                subst hum
                go_wp2_with fail
                go_ret
                exact ⟨rfl, HBF.out⟩
          · have he2 : er2 = 2 := by
              rw [← her2]
              unfold prtErr
              have hne : stErr vs ≠ 0 := fun k => h2 (by
                rw [← her2]
                unfold prtErr
                rw [if_neg (fun k2 => k2 k), if_pos ⟨by omega, by have := HSV8.out; omega⟩])
              rw [if_pos hne]
              rcases hst with k | k
              · exact absurd k hne
              · exact k
            subst he2
            clear hR her2 hst h2
            go_wp2_with fail
            refine HP.out.mono ?_
            rintro e wp ⟨Ap, mp, cp, rfl, hnp, hbp⟩
            have HBF := Lib.hid (HBw9.out.trans (hbp.mono HBw9.out.size))
            clear hnp hbp HP
            go_wp2_with fail
            go_ret
            exact ⟨rfl, HBF.out⟩
  · obtain rfl : sv = 0 := by rw [← HSV.out]; exact seesV_err (by rw [HER.out]; exact h0)
    have h1 : (er != 0) = true := by simpa using h0
    have HBF := Lib.hid (HA.out.trans (HBW2.out.mono HA.out.size))
    clear h0
    go_wp2_with fail
    go_ret
    exact ⟨rfl, HBF.out⟩
end Go.Proofs.Yteimdhkajbldjaa
