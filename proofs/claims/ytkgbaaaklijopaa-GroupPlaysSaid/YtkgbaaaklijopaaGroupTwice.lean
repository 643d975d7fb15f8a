/- GroupTwice: what comes twice comes once; once all came, and was told, all is sure: the walk. -/
import Derived.Test.YtkgbaaaklijopaaGLoop
set_option linter.unusedVariables false
set_option linter.unusedSimpArgs false
set_option maxRecDepth 100000
namespace Go.Proofs.Ytkgbaaaklijopaa
open Go.RowKit Go.Sort

/-- the nodes below node i have l, and told it -/
def grpT (n : Nat) (l : List ByteArray) (i N : Nat) : GrpX := ⟨n, fun k => if k < i then l else [], fun k => if 1 ≤ k ∧ k < i then N else 0⟩
theorem grpT_one {n N : Nat} {l : List ByteArray} (hN : l.length = N) : grpK n l N = grpT n l 1 N := by
  unfold grpK grpT GrpX.setL GrpX.new
  simp only [GrpX.mk.injEq, true_and]
  constructor
  · funext k
    rw [List.take_of_length_le (by omega)]
    by_cases e : k = 0
    · subst e; simp
    · rw [if_neg e, if_neg (by omega)]
  · funext k
    rw [if_neg (by omega)]
theorem grpT_set0 (n j N : Nat) (l : List ByteArray) : (grpT n l (j + 1) N).setL (j + 1) [] = grpT n l (j + 1) N := by
  unfold grpT GrpX.setL
  simp only [GrpX.mk.injEq, true_and, and_true]
  funext k
  by_cases e : k = j + 1
  · subst e; simp
  · rw [if_neg e]
theorem grpT_next (n j N : Nat) (l : List ByteArray) : ((grpT n l (j + 1) N).setL (j + 1) l).setT (j + 1) (max (((grpT n l (j + 1) N).setL (j + 1) l).told (j + 1)) N) = grpT n l (j + 2) N := by
  unfold grpT GrpX.setL GrpX.setT
  simp only [GrpX.mk.injEq, true_and]
  constructor
  · funext k
    by_cases e : k = j + 1
    · subst e; simp
    · rw [if_neg e]
      by_cases h : k < j + 1
      · rw [if_pos h, if_pos (by omega)]
      · rw [if_neg h, if_neg (by omega)]
  · funext k
    by_cases e : k = j + 1
    · subst e; simp
    · rw [if_neg e]
      by_cases h : 1 ≤ k ∧ k < j + 1
      · rw [if_pos h, if_pos (by omega)]
      · rw [if_neg h, if_neg (by omega)]
theorem eqN_is {n : Nat} (a a' : Option Addr) (l : List ByteArray) (c c' : Nat) (w : World) (hs : SlS w a l) (hs' : SlS w a' l) (hn : l.length = n) (hm : n ≤ 1000) :
    Calls Try.prog 18 #[.slice a n c, .slice a' n c'] w fun e w' => e = .returned (.bool true) ∧ Below w.heap.size w w' := by
  have h := eqS_is (b := true) a a' l l c c' w hs hs' (by unfold maxLen; omega) (by unfold maxLen; omega) (by simp)
  rwa [hn] at h
theorem takeE_nil {l : List ByteArray} (h : l.length ≤ 60) : takeE [] l 0 = 0 ∧ takeL [] l 0 = l := by
  unfold takeE takeL thereN
  constructor
  · rw [if_neg (by omega), if_neg (by simp), if_neg (by simp), if_neg (by omega)]
  · simp
theorem takeE_self {l : List ByteArray} (h : l.length ≤ 60) : takeE l l 0 = 0 ∧ takeL l l 0 = l := by
  unfold takeE takeL thereN
  constructor
  · rw [if_neg (by omega), if_neg (by omega), if_neg (by simp), if_neg (by omega)]
  · simp

set_option maxHeartbeats 4000000 in
theorem groupTwice_walk (n0 : Int) (a : Option Addr) (c : Nat) (l : List ByteArray) (w : World) (hs : SlS w a l) (hl : l.length ≤ c) (hm : c ≤ maxLen) :
    Calls Try.prog 6 #[.int .i64 n0, .slice a l.length c] w fun e w' => e = .returned (.bool true) ∧ Below w.heap.size w w' := by
  obtain ⟨n, hn⟩ : ∃ n, l.length = n := ⟨_, rfl⟩
  obtain ⟨N, hN⟩ : ∃ N, min n 60 = N := ⟨_, rfl⟩
  have e1 : min (n : Int) 60 = (N : Int) := by omega
  rw [hn] at hl ⊢
  obtain ⟨a', hrun, hsl, _⟩ := sl_to (a := a) (n := n) (c := c) (m := N) .i64 (by omega) hl
  have hsl := hsl w l hs
  obtain ⟨l', hl'⟩ : ∃ l', l.take N = l' := ⟨_, rfl⟩
  rw [hl'] at hsl
  have hlN : l'.length = N := by rw [← hl', List.length_take]; omega
  have HS := Lib.hid hsl
  have HLN := Lib.hid hlN
  have HN60 := Lib.hid (show N ≤ 60 by omega)
  rw [← e1] at hrun
  have E1 := Lib.hid e1
  obtain ⟨f, hf⟩ : ∃ f, wit n0 5 = f := ⟨_, rfl⟩
  have f4 : (f : Int) < 5 := by rw [← hf]; exact wit_lt n0 5 (by omega)
  obtain ⟨m, hm1⟩ : ∃ m, m = f + 1 := ⟨_, rfl⟩
  have e2 : (1 : Int) + (f : Int) = (m : Int) := by omega
  have HW := Lib.hid hf
  have HM := Lib.hid hm1
  have HF4 := Lib.hid (show f ≤ 4 by omega)
  have E2 := Lib.hid e2
  clear hs hl hm hn hN hl' hlN hsl e1 hf hm1 e2
  go_enter Try.func6, Try.ntmps6
  go_wp2_with fail
  refine (begun_is _).mono ?_
  rintro e w1 ⟨rfl, hb1⟩
  have HB1 := Lib.hid hb1
  clear hb1
  go_wp2_with fail
  refine (within_to HW.out _ (by omega) (by omega)).mono ?_
  rintro e w' ⟨rfl, rfl⟩
  go_wp2_with fail
  rw [E2.out]
  refine (LpG.start HM.out HF4.out (Nat.le_refl _) HB1.out l').mono ?_
  rintro e w2 ⟨p, q, rfl, h2⟩
  have H2 := Lib.hid h2
  clear h2 HB1 f4
  have f4 : (m : Int) ≤ 5 := by have := HM.out; have := HF4.out; omega
  go_wp2_with fail
  go_loopw [35] (fun i wr => ∃ k : Nat, k ≤ N ∧ i = .int .i64 (k : Int) ∧ Hid (LpG w.heap.size p q w (grpK f l' k) wr)) (fun i _ => N - (intOf i).toNat)
  case atStart => exact ⟨0, Nat.zero_le _, rfl, H2.out⟩
  case round =>
    obtain ⟨k, hk, rfl, HT⟩ := hrel
    have i3 : (N : Int) ≤ 60 := by have := HN60.out; omega
    have hB := HT.out.base
    by_cases hlt : k < N
    · have i1 : (0 : Int) ≤ (k : Int) := by omega
      have i2 : (k : Int) < (N : Int) := by omega
      obtain ⟨s, hs⟩ : ∃ s, l'[k]? = some s := ⟨_, List.getElem?_eq_getElem (by rw [HLN.out]; exact hlt)⟩
      obtain ⟨b, off, rfl, hc⟩ := (HS.out.below hB) k s hs
      have HX := Lib.hid hs
      clear hs hB hk
      go_wp2_with fail
      refine (LpG.adding HT.out (Nat.le_refl _) HX.out (by rw [HLN.out]; exact HN60.out)).mono ?_
      rintro e w5 ⟨rfl, h5⟩
      have H5 := Lib.hid h5
      clear h5 HT hc
      go_wp2_with fail
      go_roundw
      case rel => exact ⟨k + 1, by omega, by go_num, H5.out⟩
      case measure => simp [intOf]; omega
    · obtain rfl : k = N := by omega
      have h1 := HT.out
      rw [grpT_one HLN.out] at h1
      have H1 := Lib.hid h1
      clear hB h1 HT H2
      go_wp2_with fail
      go_loopw [11] (fun i wr => ∃ j : Nat, j ≤ f ∧ i = .int .i64 ((j + 1 : Nat) : Int) ∧ Hid (LpG w.heap.size p q w (grpT f l' (j + 1) k) wr)) (fun i _ => m - (intOf i).toNat)
      case atStart => exact ⟨0, Nat.zero_le _, rfl, H1.out⟩
      case round =>
        obtain ⟨j, hj, rfl, HT⟩ := hrel
        by_cases hjf : j < f
        · have i4 : ((j + 1 : Nat) : Int) < (m : Int) := by have := HM.out; omega
          have i5 : (0 : Int) ≤ (j : Int) := by omega
          go_wp2_with fail
          refine (LpG.sending (n := k) (j := j) HT.out (Nat.le_refl _) (by omega) hjf rfl HLN.out).mono ?_
          rintro e w3 ⟨A, c3, rfl, hc3, hc4, h3⟩
          have H3 := Lib.hid h3
          have hse := Lib.hid (eqN_is A a' l' c3 c w3 h3.sl (HS.out.below h3.grp.base) HLN.out (by have := HN60.out; omega))
          clear h3 hc4 HT
          go_wp2_with fail
          refine hse.out.mono ?_
          rintro e w4 ⟨rfl, hb4⟩
          have h4 := H3.out.below (Nat.le_refl _) hb4
          rw [← grpT_set0] at h4
          have H4 := Lib.hid h4
          clear hb4 h4 H3 hse
          go_wp2_with fail
          go_loopw [67] (fun i wr => ∃ t : Nat, t ≤ 2 ∧ i = .int .i64 (t : Int) ∧ Hid (LpS w.heap.size p q w ((grpT f l' (j + 1) k).setL (j + 1) (if t = 0 then [] else l')) A l' wr)) (fun i _ => 2 - (intOf i).toNat)
          case atStart => exact ⟨0, Nat.zero_le _, rfl, H4.out⟩
          case round =>
            obtain ⟨t, ht, rfl, HT⟩ := hrel
            by_cases ht2 : t < 2
            · have i6 : (t : Int) < 2 := by omega
              have i7 : (0 : Int) ≤ (t : Int) := by omega
              have hk60 : l'.length ≤ 60 := by rw [HLN.out]; exact HN60.out
              have hX : ((grpT f l' (j + 1) k).setL (j + 1) (if t = 0 then [] else l')).L (j + 1) = if t = 0 then [] else l' := by simp [GrpX.setL]
              have hT : takeE (if t = 0 then [] else l') l' 0 = 0 ∧ takeL (if t = 0 then [] else l') l' 0 = l' := by
                by_cases e : t = 0
                · rw [if_pos e]; exact takeE_nil hk60
                · rw [if_neg e]; exact takeE_self hk60
              have HK := Lib.hid (LpS.taking (j := j) (i := (j : Int) + 1) (K := k) (m := k) (c := c3) HT.out (Nat.le_refl _) (by omega) hjf HLN.out hc3 (by rw [hX]; exact hT.1) (by rw [hX]; exact hT.2) HLN.out (GrpX.setL_setL _ _ _ _))
              clear hX hT hk60 HT
              go_wp2_with fail
              refine HK.out.mono ?_
              rintro e w5 ⟨rfl, h5⟩
              have H5 := Lib.hid h5
              clear h5 HK
              go_wp2_with fail
              go_roundw
              case rel => exact ⟨t + 1, by omega, by go_num, by rw [if_neg (by omega)]; exact H5.out⟩
              case measure => simp [intOf]; omega
            · obtain rfl : t = 2 := by omega
              have h5 := HT.out.grp
              rw [if_neg (by decide)] at h5
              have HK := Lib.hid (LpG.telling (j := j) (i := (j : Int) + 1) (m := k) h5 (Nat.le_refl _) (by omega) hjf (by simp [GrpX.setL, HLN.out]) (by have := HLN.out; simp [GrpX.setL, grpT]; omega) (grpT_next f j k l'))
              clear h5 HT
              go_wp2_with fail
              refine HK.out.mono ?_
              rintro e w6 ⟨rfl, h6⟩
              have H6 := Lib.hid h6
              clear h6 HK
              go_wp2_with fail
              go_roundw
              case rel => exact ⟨j + 1, by omega, by go_num, H6.out⟩
              case measure => simp [intOf]; have := HM.out; omega
        · obtain rfl : j = f := by omega
          have i4 : ¬ ((j + 1 : Nat) : Int) < (m : Int) := by have := HM.out; omega
          have HK := Lib.hid (LpG.sure (s := k) HT.out (Nat.le_refl _) (sure_all fun x hx => by
            unfold GrpX.tolds at hx
            rcases List.mem_cons.1 hx with rfl | hx
            · simp [grpT, HLN.out]
            · obtain ⟨y, hy, rfl⟩ := List.mem_map.1 hx
              have := List.mem_range.1 hy
              have h1 : y < j := this
              simp only [grpT]
              rw [if_pos (by omega)]))
          clear HT
          go_wp2_with fail
          refine HK.out.mono ?_
          rintro e w6 ⟨rfl, h6, hb6⟩
          have H6 := Lib.hid h6.base
          clear h6 hb6 HK
          go_wp2_with fail
          go_ret
          exact ⟨rfl, H6.out⟩
end Go.Proofs.Ytkgbaaaklijopaa
