/- GroupGaps: what comes ahead of what is missing is not taken; nor what is not what was there: the walk. -/
import Derived.Test.YtkgbaaaklijopaaGLoop2
import Derived.Test.YtkgbaaaklijopaaGroupTwice
set_option linter.unusedVariables false
set_option linter.unusedSimpArgs false
set_option maxRecDepth 100000
namespace Go.Proofs.Ytkgbaaaklijopaa
open Go.RowKit Go.Sort

/-- one follower, who has m -/
def grpG (l m : List ByteArray) : GrpX := ⟨1, fun k => if k = 0 then l else if k = 1 then m else [], fun _ => 0⟩
theorem grpG_start {l m : List ByteArray} {N : Nat} (hN : l.length = N) : (grpK 1 l N).setL 1 m = grpG l m := by
  unfold grpK grpG GrpX.setL GrpX.new
  simp only [GrpX.mk.injEq, true_and, and_true]
  funext k
  rw [List.take_of_length_le (by omega)]
  by_cases e : k = 1
  · subst e; simp
  · rw [if_neg e]
    by_cases e0 : k = 0
    · rw [if_pos e0, if_pos e0]
    · rw [if_neg e0, if_neg e0, if_neg e]
theorem takeE_gap {L l : List ByteArray} {f : Int} (h : (L.length : Int) < f) (hl : l.length ≤ 60) : takeE L l f = 9 := by
  unfold takeE
  rw [if_neg (by omega), if_pos h]
theorem takeE_form {L : List ByteArray} {x y z : ByteArray} {f : Nat} (h : L.length = f + 1) (hx : L[f]? = some x) (hne : x ≠ y) : takeE L [y, z] (f : Int) = 3 := by
  unfold takeE
  have e : thereN L [y, z] (f : Int).toNat = 1 := by unfold thereN; simp; omega
  rw [e, if_neg (by simp <;> omega), if_neg (by omega), if_pos]
  rw [Int.toNat_natCast]
  have h1 : (L.drop f).take 1 = [x] := by
    rw [List.drop_eq_getElem_cons (by omega)]
    rw [List.getElem?_eq_getElem (by omega)] at hx
    rw [Option.some.inj hx]
    rfl
  rw [h1]
  exact fun k => hne (by simpa using k)
theorem slS_lit2 (w : World) (s s2 : ByteArray) (t : TypeId) : SlS (w.alloc (.cells #[.string s, .string s2] t)) (some ⟨w.heap.size, 0, none⟩) [s, s2] := fun k x hk => by
  match k, hk with
  | 0, hk =>
    cases hk
    exact ⟨_, _, rfl, by simp [go_sem]⟩
  | 1, hk =>
    cases hk
    exact ⟨_, _, rfl, by simp [go_sem]⟩
  | k + 2, hk => simp at hk
theorem add_run {a b c : ByteArray} (h : a.size + b.size ≤ 9223372036854775807) (hc : a ++ b = c) : ∀ W, (Op.stringOp .add a b).run Try.prog W = .ok (.string c) W := fun W => by
  subst hc
  have h2 : (a.size : Int) + (b.size : Int) ≤ 9223372036854775807 := by omega
  simp [Op.stringOp, h2]
theorem size_append (a b : ByteArray) : (a ++ b).size = a.size + b.size := by simp
theorem ne_app (s : ByteArray) : s ≠ s ++ ⟨#[120]⟩ := fun h => by
  have := congrArg ByteArray.size h
  rw [size_append] at this
  have e : (⟨#[120]⟩ : ByteArray).size = 1 := rfl
  omega

set_option maxHeartbeats 8000000 in
theorem groupGaps_walk (a : Option Addr) (c : Nat) (l : List ByteArray) (k0 m0 : Int) (w : World) (hs : SlS w a l) (hl : l.length ≤ c) (hm : c ≤ maxLen) (ht : ∀ s ∈ l, s.size ≤ 140737488355328) :
    Calls Try.prog 7 #[.slice a l.length c, .int .i64 k0, .int .i64 m0] w fun e w' => e = .returned (.bool true) ∧ Below w.heap.size w w' := by
  obtain ⟨n, hn⟩ : ∃ n, l.length = n := ⟨_, rfl⟩
  obtain ⟨N, hN⟩ : ∃ N, min n 20 = N := ⟨_, rfl⟩
  have e1 : min (n : Int) 20 = (N : Int) := by omega
  rw [hn] at hl ⊢
  obtain ⟨a', hrun, hsl, _⟩ := sl_to (a := a) (n := n) (c := c) (m := N) .i64 (by omega) hl
  have hsl := hsl w l hs
  obtain ⟨l', hl'⟩ : ∃ l', l.take N = l' := ⟨_, rfl⟩
  rw [hl'] at hsl
  have hlN : l'.length = N := by rw [← hl', List.length_take]; omega
  have HT0 := Lib.hid (show ∀ s ∈ l', s.size ≤ 140737488355328 from fun s h => ht s (by rw [← hl'] at h; exact List.mem_of_mem_take h))
  have HS := Lib.hid hsl
  have HLN := Lib.hid hlN
  have HN20 := Lib.hid (show N ≤ 20 by omega)
  rw [← e1] at hrun
  have E1 := Lib.hid e1
  obtain ⟨K, hK⟩ : ∃ K, wit k0 ((N : Int) + 1) = K := ⟨_, rfl⟩
  obtain ⟨M, hM⟩ : ∃ M, wit m0 9 = M := ⟨_, rfl⟩
  have hKN : K ≤ N := by have := wit_lt k0 ((N : Int) + 1) (by omega); omega
  have hMN : M < 9 := by have := wit_lt m0 9 (by omega); omega
  have HK := Lib.hid hK
  have HM := Lib.hid hM
  have HKN := Lib.hid hKN
  have HMN := Lib.hid hMN
  have HLC := Lib.hid (show N ≤ c by omega)
  clear hs hl hm hn hN hl' hlN hsl e1 hK hM hKN hMN ht
  go_enter Try.func7, Try.ntmps7
  go_wp2_with fail
  refine (begun_is _).mono ?_
  rintro e w1 ⟨rfl, hb1⟩
  have HB1 := Lib.hid hb1
  clear hb1
  go_wp2_with fail
  refine (LpG.start (m := 2) (n := 1) rfl (by omega) (Nat.le_refl _) HB1.out l').mono ?_
  rintro e w2 ⟨p, q, rfl, h2⟩
  have H2 := Lib.hid h2
  clear h2 HB1
  go_wp2_with fail
  go_loopw [36] (fun i wr => ∃ k : Nat, k ≤ N ∧ i = .int .i64 (k : Int) ∧ Hid (LpG w.heap.size p q w (grpK 1 l' k) wr)) (fun i _ => N - (intOf i).toNat)
  case atStart => exact ⟨0, Nat.zero_le _, rfl, H2.out⟩
  case round =>
    obtain ⟨k, hk, rfl, HT⟩ := hrel
    have i3 : (N : Int) ≤ 20 := by have := HN20.out; omega
    have hB := HT.out.base
    by_cases hlt : k < N
    · have i1 : (0 : Int) ≤ (k : Int) := by omega
      have i2 : (k : Int) < (N : Int) := by omega
      obtain ⟨s, hs⟩ : ∃ s, l'[k]? = some s := ⟨_, List.getElem?_eq_getElem (by rw [HLN.out]; exact hlt)⟩
      obtain ⟨b, off, rfl, hc⟩ := (HS.out.below hB) k s hs
      have HX := Lib.hid hs
      clear hs hB hk
      go_wp2_with fail
      refine (LpG.adding HT.out (Nat.le_refl _) HX.out (by rw [HLN.out]; exact Nat.le_trans HN20.out (by decide))).mono ?_
      rintro e w5 ⟨rfl, h5⟩
      have H5 := Lib.hid h5
      clear h5 HT hc
      go_wp2_with fail
      go_roundw
      case rel => exact ⟨k + 1, by omega, by go_num, H5.out⟩
      case measure => simp [intOf]; omega
    · obtain rfl : k = N := by omega
      have i5 : (0 : Int) ≤ (k : Int) := by omega
      have hk60 : l'.length ≤ 60 := by rw [HLN.out]; exact Nat.le_trans HN20.out (by decide)
      have hKk : (l'.take K).length = K := by rw [List.length_take, HLN.out]; have := HKN.out; omega
      have HKK := Lib.hid hKk
      have HTK := Lib.hid (takeE_nil (l := l'.take K) (by rw [hKk]; rw [HLN.out] at hk60; exact Nat.le_trans HKN.out hk60))
      have HSEND := Lib.hid (LpG.sending (n := k) (i := 1) (j := 0) (l := l') HT.out (Nat.le_refl _) rfl (by show 0 < 1; decide) (by rw [grpK_L0, List.take_of_length_le (by rw [HLN.out]; exact Nat.le_refl _)]) HLN.out)
      clear hB HT H2 hk60 hKk
      go_wp2_with fail
      refine (within_to HK.out _ (by omega) (by omega)).mono ?_
      rintro e w' ⟨rfl, rfl⟩
      go_wp2_with fail
      refine HSEND.out.mono ?_
      rintro e w3 ⟨A, c3, rfl, hc3, hc4, h3⟩
      obtain ⟨a2, hrun2, hsl2, hnear⟩ := sl_to (a := A) (n := k) (c := c3) (m := K) .i64 HKN.out hc3
      have HTAKE := Lib.hid (LpG.takingAt (j := 0) (i := 1) (F := 0) (K := K) (m := K) (c := c3) h3.grp (Nat.le_refl _) rfl (by show 0 < 1; decide) (hsl2 _ _ h3.sl) HKK.out (Nat.le_trans HKN.out hc3) (by exact HTK.out.1) (by exact HTK.out.2) HKK.out (grpG_start HLN.out))
      clear h3 hc3 hc4 HSEND hsl2 hnear
      go_wp2_with fail
      refine HTAKE.out.mono ?_
      rintro e w4 ⟨rfl, h4⟩
      have H4 := Lib.hid h4
      clear h4 HTAKE
      go_wp2_with fail
      refine (within_to HM.out _ (by omega) (by omega)).mono ?_
      rintro e w' ⟨rfl, rfl⟩
      have i6 : (0 : Int) ≤ (K : Int) := by omega
      have i7 : (K : Int) ≤ 20 := by have := HKN.out; omega
      have i8 : (M : Int) < 9 := by have := HMN.out; omega
      have i9 : (0 : Int) ≤ (M : Int) := by omega
      have hA : Below w4.heap.size w4 (w4.alloc (.cells #[.string ⟨#[120]⟩] 9)) := (Below.refl _ _).alloc (Nat.le_refl _) _
      have HGAP := Lib.hid (LpG.takingNo (j := 0) (i := 1) (f := (K : Int) + 1 + (M : Int)) (m := 1) (c := 1) (er := 9) (H4.out.below (Nat.le_refl _) hA) (Nat.le_refl _) rfl (by show 0 < 1; decide) (slS_lit1 w4 ⟨#[120]⟩ 9) rfl (by decide) (takeE_gap (by show (((l'.take K).length : Nat) : Int) < _; rw [HKK.out]; omega) (by decide)) (by decide))
      clear hA H4
      go_wp2_with fail
      have e5 : wrap64 (wrap64 ((K : Int) + 1) + (M : Int)) = (K : Int) + 1 + (M : Int) := by unfold wrap64; omega
      rw [e5]
      refine HGAP.out.mono ?_
      rintro e w5 ⟨rfl, h5, hb5⟩
      have H5 := Lib.hid h5
      clear h5 hb5 e5 HGAP
      obtain ⟨a3, hrun3, hsl3, _⟩ := sl_to (a := a') (n := k) (c := c) (m := K) .i64 HKN.out HLC.out
      have HSL := Lib.hid hsl3
      clear hsl3 hrun2 HTK HK
      by_cases h0 : 0 < K
      · obtain ⟨f, hf⟩ : ∃ f, K = f + 1 := ⟨K - 1, by omega⟩
        obtain ⟨s, hs⟩ : ∃ s, l'[f]? = some s := ⟨_, List.getElem?_eq_getElem (by rw [HLN.out]; have := HKN.out; omega)⟩
        obtain ⟨b, off, rfl, hc⟩ := (HS.out.below H5.out.base) f s hs
        have hsz : s.size ≤ 140737488355328 := HT0.out s (List.mem_of_getElem? hs)
        have i10 : (0 : Int) ≤ (f : Int) := by omega
        have i11 : (f : Int) < (k : Int) := by have := HKN.out; omega
        have i12 : (0 : Int) < (K : Int) := by omega
        have e7 : (K : Int) - 1 = (f : Int) := by omega
        have HX := Lib.hid hs
        have HF := Lib.hid hf
        clear hs hf h0 i6
        obtain ⟨y, hy⟩ : ∃ y, s ++ ⟨#[120]⟩ = y := ⟨_, rfl⟩
        have a1 : ∀ W, (Op.stringOp .add s ⟨#[120]⟩).run Try.prog W = .ok (.string y) W := add_run (Nat.le_trans (Nat.add_le_add_right hsz 1) (by decide)) hy
        have hne : s ≠ y := by rw [← hy]; exact ne_app s
        have hA : Below w5.heap.size w5 (w5.alloc (.cells #[.string y, .string ⟨#[121]⟩] 9)) := (Below.refl _ _).alloc (Nat.le_refl _) _
        have HFORM := Lib.hid (LpG.takingNo (j := 0) (i := 1) (f := (f : Int)) (m := 2) (c := 2) (er := 3) (H5.out.below (Nat.le_refl _) hA) (Nat.le_refl _) rfl (by show 0 < 1; decide) (slS_lit2 w5 y ⟨#[121]⟩ 9) rfl (by decide) (takeE_form (x := s) (by show (l'.take K).length = _; rw [HKK.out]; exact HF.out) (by show (l'.take K)[f]? = _; rw [List.getElem?_take_of_lt (by have := HF.out; omega)]; exact HX.out) hne) (by decide))
        clear hA H5 hsz hy hne
        go_wp2_with fail
        refine HFORM.out.mono ?_
        rintro e w5 ⟨rfl, h5, hb5⟩
        have H5 := Lib.hid h5
        clear h5 hb5 HFORM
        have HLOG := Lib.hid (LpG.logging (i := 1) (j := 0) (n := K) (l := l'.take K) H5.out (Nat.le_refl _) rfl (by show 0 < 1; decide) rfl HKK.out)
        clear H5
        go_wp2_with fail
        refine HLOG.out.mono ?_
        rintro e w6 ⟨A4, c4, rfl, _, _, h6, hb6⟩
        have HEQ := Lib.hid (eqN_is A4 a3 (l'.take K) c4 c w6 h6.sl (HSL.out _ _ (HS.out.below h6.grp.base)) HKK.out (by have := HKN.out; have := HN20.out; omega))
        have H6 := Lib.hid h6.grp.base
        clear h6 hb6 HLOG
        go_wp2_with fail
        refine HEQ.out.mono ?_
        rintro e w7 ⟨rfl, hb7⟩
        have H7 := Lib.hid (H6.out.trans (hb7.mono H6.out.size))
        clear hb7
        go_wp2_with fail
        go_ret
        exact ⟨rfl, H7.out⟩
      · have i12 : ¬ (0 : Int) < (K : Int) := by omega
        have HLOG := Lib.hid (LpG.logging (i := 1) (j := 0) (n := K) (l := l'.take K) H5.out (Nat.le_refl _) rfl (by show 0 < 1; decide) rfl HKK.out)
        clear H5
        go_wp2_with fail
        refine HLOG.out.mono ?_
        rintro e w6 ⟨A4, c4, rfl, _, _, h6, hb6⟩
        have HEQ := Lib.hid (eqN_is A4 a3 (l'.take K) c4 c w6 h6.sl (HSL.out _ _ (HS.out.below h6.grp.base)) HKK.out (by have := HKN.out; have := HN20.out; omega))
        have H6 := Lib.hid h6.grp.base
        clear h6 hb6 HLOG
        go_wp2_with fail
        refine HEQ.out.mono ?_
        rintro e w7 ⟨rfl, hb7⟩
        have H7 := Lib.hid (H6.out.trans (hb7.mono H6.out.size))
        clear hb7
        go_wp2_with fail
        go_ret
        exact ⟨rfl, H7.out⟩
end Go.Proofs.Ytkgbaaaklijopaa
