/- GroupTold: what was told is not lost; what was not told may be; more than there is is not told: the walk. -/
import Derived.Test.YtkgbaaaklijopaaGLoop2
import Derived.Test.YtkgbaaaklijopaaGroupTwice
set_option linter.unusedVariables false
set_option linter.unusedSimpArgs false
set_option maxRecDepth 100000
namespace Go.Proofs.Ytkgbaaaklijopaa
open Go.RowKit Go.Sort

/-- two followers, of whom the second has m, and told K -/
def grpD (l m : List ByteArray) (K : Nat) : GrpX := ⟨2, fun k => if k = 0 then l else if k = 2 then m else [], fun k => if k = 2 then K else 0⟩
theorem grpD_start {l : List ByteArray} {N : Nat} (hN : l.length = N) : (grpK 2 l N).setL 2 l = grpD l l 0 := by
  unfold grpK grpD GrpX.setL GrpX.new
  simp only [GrpX.mk.injEq, true_and]
  constructor
  · funext k
    rw [List.take_of_length_le (by omega)]
    by_cases e : k = 2
    · subst e; simp
    · rw [if_neg e]
      by_cases e0 : k = 0
      · rw [if_pos e0, if_pos e0]
      · rw [if_neg e0, if_neg e0, if_neg e]
  · funext k
    simp
theorem grpD_told (l m : List ByteArray) (K T : Nat) : (grpD l m T).setT 2 (max ((grpD l m T).told 2) K) = grpD l m (max T K) := by
  unfold grpD GrpX.setT
  simp only [GrpX.mk.injEq, true_and]
  funext k
  by_cases e : k = 2 <;> simp [e]
theorem grpD_lost (l m m' : List ByteArray) (K : Nat) : (grpD l m K).setL 2 m' = grpD l m' K := by
  unfold grpD GrpX.setL
  simp only [GrpX.mk.injEq, true_and, and_true]
  funext k
  by_cases e : k = 2 <;> simp [e]
theorem grpD_sure {l m : List ByteArray} {K : Nat} (h : K ≤ l.length) : IsSure (grpD l m K).tolds K := by
  rw [tolds_2 rfl]
  show IsSure [l.length, 0, K] K
  unfold IsSure
  constructor
  · by_cases h0 : K = 0
    · subst h0; simp
    · rw [List.countP_cons, List.countP_cons, List.countP_cons]
      simp [h, h0]
  · rw [List.countP_cons, List.countP_cons, List.countP_cons]
    simp
    split <;> omega

set_option maxHeartbeats 8000000 in
theorem groupTold_walk (a : Option Addr) (c : Nat) (l : List ByteArray) (k0 m0 : Int) (w : World) (hs : SlS w a l) (hl : l.length ≤ c) (hm : c ≤ maxLen) :
    Calls Try.prog 8 #[.slice a l.length c, .int .i64 k0, .int .i64 m0] w fun e w' => e = .returned (.bool true) ∧ Below w.heap.size w w' := by
  obtain ⟨n, hn⟩ : ∃ n, l.length = n := ⟨_, rfl⟩
  obtain ⟨N, hN⟩ : ∃ N, min n 20 = N := ⟨_, rfl⟩
  have e1 : min (n : Int) 20 = (N : Int) := by omega
  rw [hn] at hl ⊢
  obtain ⟨a', hrun, hsl, _⟩ := sl_to (a := a) (n := n) (c := c) (m := N) .i64 (by omega) hl
  have hsl := hsl w l hs
  obtain ⟨l', hl'⟩ : ∃ l', l.take N = l' := ⟨_, rfl⟩
  rw [hl'] at hsl
  have hlN : l'.length = N := by rw [← hl', List.length_take]; omega
  have HS := Lib.hid hsl
  have HLN := Lib.hid hlN
  have HN20 := Lib.hid (show N ≤ 20 by omega)
  rw [← e1] at hrun
  have E1 := Lib.hid e1
  obtain ⟨K, hK⟩ : ∃ K, wit k0 ((N : Int) + 1) = K := ⟨_, rfl⟩
  obtain ⟨M, hM⟩ : ∃ M, wit m0 ((N : Int) + 1) = M := ⟨_, rfl⟩
  have hKN : K ≤ N := by have := wit_lt k0 ((N : Int) + 1) (by omega); omega
  have hMN : M ≤ N := by have := wit_lt m0 ((N : Int) + 1) (by omega); omega
  have HK := Lib.hid hK
  have HM := Lib.hid hM
  have HKN := Lib.hid hKN
  have HMN := Lib.hid hMN
  clear hs hl hm hn hN hl' hlN hsl e1 hK hM hKN hMN
  go_enter Try.func8, Try.ntmps8
  go_wp2_with fail
  refine (begun_is _).mono ?_
  rintro e w1 ⟨rfl, hb1⟩
  have HB1 := Lib.hid hb1
  clear hb1
  go_wp2_with fail
  refine (LpG.start (m := 3) (n := 2) rfl (by omega) (Nat.le_refl _) HB1.out l').mono ?_
  rintro e w2 ⟨p, q, rfl, h2⟩
  have H2 := Lib.hid h2
  clear h2 HB1
  go_wp2_with fail
  go_loopw [33] (fun i wr => ∃ k : Nat, k ≤ N ∧ i = .int .i64 (k : Int) ∧ Hid (LpG w.heap.size p q w (grpK 2 l' k) wr)) (fun i _ => N - (intOf i).toNat)
  case atStart => exact ⟨0, Nat.zero_le _, rfl, H2.out⟩
  case round =>
    obtain ⟨k, hk, rfl, HT⟩ := hrel
    have i3 : (N : Int) ≤ 20 := by have := HN20.out; omega
    have hB := HT.out.base
    by_cases hlt : k < N
    · have i1 : (0 : Int) ≤ (k : Int) := by omega
      have i2 : (k : Int) < (N : Int) := by omega
      obtain ⟨s, hs⟩ : ∃ s, l'[k]? = some s := ⟨_, List.getElem?_eq_getElem (by rw [HLN.out]; exact hlt)⟩
      obtain ⟨b, off, rfl, hc⟩ := (HS.out.below hB) k s hs
      have HX := Lib.hid hs
      clear hs hB hk
      go_wp2_with fail
      refine (LpG.adding HT.out (Nat.le_refl _) HX.out (by rw [HLN.out]; exact Nat.le_trans HN20.out (by decide))).mono ?_
      rintro e w5 ⟨rfl, h5⟩
      have H5 := Lib.hid h5
      clear h5 HT hc
      go_wp2_with fail
      go_roundw
      case rel => exact ⟨k + 1, by omega, by go_num, H5.out⟩
      case measure => simp [intOf]; omega
    · obtain rfl : k = N := by omega
      have i5 : (0 : Int) ≤ (k : Int) := by omega
      have hk60 : l'.length ≤ 60 := by rw [HLN.out]; exact Nat.le_trans HN20.out (by decide)
      have htk := takeE_nil hk60
      have HSEND := Lib.hid (LpG.sending (n := k) (i := 2) (j := 1) (l := l') HT.out (Nat.le_refl _) rfl (by show 1 < 2; decide) (by rw [grpK_L0, List.take_of_length_le (by rw [HLN.out]; exact Nat.le_refl _)]) HLN.out)
      clear hB HT H2 hk60
      have HTK := Lib.hid htk
      clear htk
      go_wp2_with fail
      refine HSEND.out.mono ?_
      rintro e w3 ⟨A, c3, rfl, hc3, hc4, h3⟩
      have HTAKE := Lib.hid (LpS.taking (j := 1) (i := 2) (K := k) (m := k) (c := c3) h3 (Nat.le_refl _) rfl (by show 1 < 2; decide) HLN.out hc3 (by exact HTK.out.1) (by exact HTK.out.2) HLN.out (grpD_start HLN.out))
      clear h3 hc3 hc4 HSEND
      go_wp2_with fail
      refine HTAKE.out.mono ?_
      rintro e w4 ⟨rfl, h4⟩
      have H4 := Lib.hid h4.grp
      clear h4 HTAKE
      go_wp2_with fail
      refine (within_to HK.out _ (by omega) (by omega)).mono ?_
      rintro e w' ⟨rfl, rfl⟩
      go_wp2_with fail
      refine (within_to HM.out _ (by omega) (by omega)).mono ?_
      rintro e w' ⟨rfl, rfl⟩
      have HN0 := Lib.hid (LpG.tellingNo (i := 2) (m := (k : Int) + 1) (j := 1) H4.out rfl (by show 1 < 2; decide) (.inr (.inl (by show ((l'.length : Nat) : Int) < _; rw [HLN.out]; omega))))
      go_wp2_with fail
      refine HN0.out.mono ?_
      rintro e w6 ⟨rfl, h6⟩
      have HA6 := Lib.hid (LpG.telling (i := 2) (m := K) (j := 1) h6 (Nat.le_refl _) rfl (by show 1 < 2; decide) (by show K ≤ l'.length; rw [HLN.out]; exact HKN.out) (by show K ≤ l'.length; rw [HLN.out]; exact HKN.out) (grpD_told _ _ _ _))
      clear h6 HN0 H4
      go_wp2_with fail
      refine HA6.out.mono ?_
      rintro e w7 ⟨rfl, h7⟩
      rw [Nat.zero_max] at h7
      have HS7 := Lib.hid (LpG.sure (s := K) h7 (Nat.le_refl _) (grpD_sure (by rw [HLN.out]; exact HKN.out)))
      clear h7 HA6
      go_wp2_with fail
      refine HS7.out.mono ?_
      rintro e w8 ⟨rfl, h8, hb8⟩
      have H8 := Lib.hid h8
      clear h8 hb8 HS7
      by_cases hMK : K ≤ M
      · have j1 : (K : Int) ≤ (M : Int) := by omega
        have j2 : (M : Int) ≤ (k : Int) := by have := HMN.out; omega
        have HL := Lib.hid (LpG.losing (i := 2) (m := M) (j := 1) H8.out (Nat.le_refl _) rfl (by show 1 < 2; decide) (by exact hMK) (by show M ≤ l'.length; rw [HLN.out]; exact HMN.out) (grpD_lost _ _ _ _))
        clear H8
        go_wp2_with fail
        refine HL.out.mono ?_
        rintro e w9 ⟨rfl, h9⟩
        have HG := Lib.hid (LpG.logging (i := 2) (j := 1) (n := M) (l := l'.take M) h9 (Nat.le_refl _) rfl (by show 1 < 2; decide) rfl (by rw [List.length_take, HLN.out]; have := HMN.out; omega))
        clear h9 HL
        go_wp2_with fail
        refine HG.out.mono ?_
        rintro e w10 ⟨A4, c4, rfl, _, _, h10, _⟩
        have HA := Lib.hid (LpG.telling (i := 2) (m := 0) (j := 1) h10.grp (Nat.le_refl _) rfl (by show 1 < 2; decide) (Nat.zero_le _) (Nat.zero_le _) (grpD_told _ _ _ _))
        clear h10 HG
        go_wp2_with fail
        refine HA.out.mono ?_
        rintro e w11 ⟨rfl, h11⟩
        rw [Nat.max_zero] at h11
        have HS11 := Lib.hid (LpG.sure (s := K) h11 (Nat.le_refl _) (grpD_sure (by rw [HLN.out]; exact HKN.out)))
        clear h11 HA
        go_wp2_with fail
        refine HS11.out.mono ?_
        rintro e w12 ⟨rfl, h12, hb12⟩
        have H12 := Lib.hid h12.base
        clear h12 hb12
        go_wp2_with fail
        go_ret
        exact ⟨rfl, H12.out⟩
      · have j1 : ¬ (K : Int) ≤ (M : Int) := by omega
        have HL := Lib.hid (LpG.losingNo (i := 2) (m := (M : Int)) (j := 1) H8.out rfl (by show 1 < 2; decide) (.inl (by show (M : Int) < (K : Int); omega)))
        clear H8
        go_wp2_with fail
        refine HL.out.mono ?_
        rintro e w9 ⟨rfl, h9⟩
        have HG := Lib.hid (LpG.logging (i := 2) (j := 1) (n := k) (l := l') h9 (Nat.le_refl _) rfl (by show 1 < 2; decide) rfl HLN.out)
        clear h9 HL
        go_wp2_with fail
        refine HG.out.mono ?_
        rintro e w10 ⟨A4, c4, rfl, _, _, h10, _⟩
        have HA := Lib.hid (LpG.telling (i := 2) (m := 0) (j := 1) h10.grp (Nat.le_refl _) rfl (by show 1 < 2; decide) (Nat.zero_le _) (Nat.zero_le _) (grpD_told _ _ _ _))
        clear h10 HG
        go_wp2_with fail
        refine HA.out.mono ?_
        rintro e w11 ⟨rfl, h11⟩
        rw [Nat.max_zero] at h11
        have HS11 := Lib.hid (LpG.sure (s := K) h11 (Nat.le_refl _) (grpD_sure (by rw [HLN.out]; exact HKN.out)))
        clear h11 HA
        go_wp2_with fail
        refine HS11.out.mono ?_
        rintro e w12 ⟨rfl, h12, hb12⟩
        have H12 := Lib.hid h12.base
        clear h12 hb12
        go_wp2_with fail
        go_ret
        exact ⟨rfl, H12.out⟩
end Go.Proofs.Ytkgbaaaklijopaa
