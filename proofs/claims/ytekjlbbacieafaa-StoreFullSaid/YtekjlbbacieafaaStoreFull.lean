/- StoreFull's walk. -/
import Derived.Test.YtekjlbbacieafaaSGrid
import Derived.Test.YtekjlbbacieafaaSMath2
set_option linter.unusedVariables false
set_option linter.unusedSimpArgs false
set_option maxRecDepth 100000
namespace Go.Proofs.Ytekjlbbacieafaa
open Go.RowKit Go.Sort

def mk8 (k : Int) : Nat := (k % 256).toNat
theorem mk8_eq (k : Int) : bits .and .i64 k 255 = ((mk8 k : Nat) : Int) := (i64_and_any k 255 8 rfl (by omega)).trans (by unfold mk8; omega)
theorem mk8_le (k : Int) : mk8 k ≤ 255 := by unfold mk8; omega

def bare (id : ByteArray) (c : Nat) : RecL := ⟨id, (c : Int), [], []⟩
theorem bare_ok {id : ByteArray} {c : Nat} (h : isNm id = true) (hc : c ≤ 255) : (bare id c).Ok := RecL.okBare h ⟨by omega, by omega⟩
theorem bare_in (id : ByteArray) (c : Nat) (w : World) : (bare id c).in_ At.none w := (NewRec.none 0 w id c).in_
def reps (id : ByteArray) (c k : Nat) : List VerL := List.replicate k ⟨bare id c, false⟩
theorem reps_succ (id : ByteArray) (c k : Nat) : reps id c (k + 1) = reps id c k ++ [⟨bare id c, false⟩] := List.replicate_succ'
theorem reps_same (id : ByteArray) (c k d : Nat) : same (reps id c k) (d : Int) = if c = d then k else 0 := by
  induction k with
  | zero => simp [reps, same]
  | succ k ih =>
    rw [reps_succ, same_snoc, ih]
    show (if c = d then k else 0) + (if (c : Int) = (d : Int) then 1 else 0) = _
    by_cases h : c = d
    · subst h; simp
    · rw [if_neg h, if_neg (by omega), if_neg h]
theorem reps_ok {id : ByteArray} {c : Nat} (h : isNm id = true) (hc : c ≤ 255) : ∀ k, k ≤ 20 → StOk (reps id c k)
  | 0, _ => stOk_nil
  | k + 1, hk => by
    rw [reps_succ]
    refine StOk.put (reps_ok h hc k (by omega)) (bare_ok h hc) ?_
    show same (reps id c k) (c : Int) < 20
    rw [reps_same, if_pos rfl]
    omega
theorem reps_st {id : ByteArray} {c : Nat} (h : isNm id = true) (hc : c ≤ 255) {k : Nat} (hk : k ≤ 20) : stErr (reps id c k) = 0 := stErr_ok.2 ⟨by simp [reps]; omega, reps_ok h hc k hk⟩
/-- what is told when one more is put -/
theorem reps_put {id b : ByteArray} {c d k : Nat} (h : isNm id = true) (hc : c ≤ 255) (hk : k ≤ 20) (hb : isNm b = true) (hd : d ≤ 255) :
    ((c = d ∧ k = 20) → putErr (reps id c k) (bare b d) = 2 ∧ putL (reps id c k) (bare b d) = []) ∧ (¬ (c = d ∧ k = 20) → putErr (reps id c k) (bare b d) = 0 ∧ putL (reps id c k) (bare b d) = reps id c k ++ [⟨bare b d, false⟩]) := by
  have hst := reps_st h hc hk
  have hr := ((bare b d).err_ok).2 (bare_ok hb hd)
  have hs : same (reps id c k) (bare b d).cats = if c = d then k else 0 := reps_same id c k d
  constructor
  · rintro ⟨rfl, rfl⟩
    exact putErr_full hst hr (by rw [hs, if_pos rfl]; exact Nat.le_refl _)
  · intro hn
    refine putErr_yes hst hr ?_
    rw [hs]
    split
    · rename_i e; exact fun k20 => hn ⟨e, by omega⟩
    · omega

set_option maxHeartbeats 8000000 in
theorem storeFull_walk (n x y : Int) (id0 : ByteArray) (w : World) (hid : id0.size ≤ maxLen) :
    Calls Try.prog 3 #[.int .i64 n, .int .i64 x, .int .i64 y, .string id0] w fun e w' => e = .returned (.bool true) ∧ Below w.heap.size w w' := by
  obtain ⟨c, hx⟩ : ∃ c, c = mk8 x := ⟨_, rfl⟩
  obtain ⟨d, hy⟩ : ∃ d, d = mk8 y := ⟨_, rfl⟩
  have hc8 : c ≤ 255 := by rw [hx]; exact mk8_le x
  have hd8 : d ≤ 255 := by rw [hy]; exact mk8_le y
  have hmx : bits .and .i64 x 255 = (c : Int) := by rw [hx]; exact mk8_eq x
  have hmy : bits .and .i64 y 255 = (d : Int) := by rw [hy]; exact mk8_eq y
  obtain ⟨N, hN⟩ : ∃ N, wit n 21 = N := ⟨_, rfl⟩
  have hN21 : N < 21 := by rw [← hN]; exact_mod_cast wit_lt n 21 (by omega)
  have HN := Lib.hid hN
  obtain ⟨b0, hb0⟩ : ∃ b0, isNm id0 = b0 := ⟨_, rfl⟩
  have HB0 := Lib.hid hb0
  clear hx hy hN hb0
  go_enter Try.func3, Try.ntmps3
  go_wp2_with fail
  refine (begun_is _).mono ?_
  rintro e w1 ⟨rfl, hb1⟩
  have HB1 := Lib.hid hb1
  clear hb1
  have HID := Lib.hid (id_is (b := b0) id0 w1 HB0.out)
  go_wp2_with fail
  refine HID.out.mono ?_
  rintro e w2 ⟨rfl, hb⟩
  have HB2 := Lib.hid (HB1.out.trans (hb.mono HB1.out.size))
  clear hb HID
  cases b0
  case true =>
    obtain ⟨id, hidv⟩ : ∃ id : ByteArray, id = id0 := ⟨_, rfl⟩
    have hnm : isNm id = true := by rw [hidv]; exact HB0.out
    have HNMI := Lib.hid hnm
    clear hnm
    go_wp2_with fail
    refine (wit_to HN.out _ (by decide) (by decide)).mono ?_
    rintro e w' ⟨rfl, rfl⟩
    subst hidv
    go_wp2_with fail
    go_loopw [9, 27] (fun s i wr => ∃ (k : Nat) (A : Option Addr) (m c' : Nat), k ≤ N ∧ i = .int .i64 k ∧ s = .slice A m c' ∧ Hid (VsAt wr A m (reps id c k)) ∧ Hid (Below w.heap.size w wr)) (fun _ i _ => N - (intOf i).toNat)
    case atStart => exact ⟨0, none, 0, 0, Nat.zero_le _, rfl, rfl, VsAt.nil _ _, HB2.out⟩
    case round =>
      obtain ⟨k, A, m, c', hk, rfl, rfl, HV, HB⟩ := hrel
      have hml := HV.out.len
      have hmk : m = k := by rw [hml]; simp [reps]
      subst hmk
      clear hml
      by_cases hlt : m < N
      · have i1 : (0 : Int) ≤ (m : Int) := by omega
        have i2 : (m : Int) < (N : Int) := by omega
        obtain ⟨p1, p2⟩ := (reps_put (b := id) (d := c) HNMI.out hc8 (show m ≤ 20 by omega) HNMI.out hc8).2 (fun h => by omega)
        have HPUT := Lib.hid (put_is c' (bare id c) At.none wr HV.out (by unfold maxLen; omega) (bare_in id c wr) p2 p1)
        clear p1 p2
        go_wp2_with fail
        refine HPUT.out.mono ?_
        rintro e w3 ⟨A1, m1, c1, rfl, hnw, hb⟩
        have hv := hnw.at_
        rw [← reps_succ] at hv
        have HV1 := Lib.hid hv
        have HB3 := Lib.hid (HB.out.trans (hb.mono HB.out.size))
        clear hnw hb hv HPUT
        go_wp2_with fail
        go_roundw
        case rel => exact ⟨m + 1, A1, m1, c1, by omega, by go_num, rfl, HV1.out, HB3.out⟩
        case measure => simp [intOf]; omega
      · obtain rfl : m = N := by omega
        have hm20 : m ≤ 20 := by omega
        obtain ⟨e1, h1⟩ : ∃ e1, putErr (reps id c m) (bare ⟨#[98]⟩ c) = e1 := ⟨_, rfl⟩
        obtain ⟨X, h2⟩ : ∃ X, putL (reps id c m) (bare ⟨#[98]⟩ c) = X := ⟨_, rfl⟩
        obtain ⟨e2, h3⟩ : ∃ e2, putErr (reps id c m) (bare ⟨#[98]⟩ d) = e2 := ⟨_, rfl⟩
        obtain ⟨Y, h4⟩ : ∃ Y, putL (reps id c m) (bare ⟨#[98]⟩ d) = Y := ⟨_, rfl⟩
        have k1 : (m = 20 ∧ e1 = 2) ∨ (m < 20 ∧ e1 = 0 ∧ X.length = m + 1) := by
          obtain ⟨z1, z2⟩ := reps_put (b := ⟨#[98]⟩) (d := c) HNMI.out hc8 hm20 (by decide) hc8
          by_cases h : m = 20
          · exact .inl ⟨h, h1.symm.trans (z1 ⟨rfl, h⟩).1⟩
          · obtain ⟨z3, z4⟩ := z2 (fun k => h k.2)
            exact .inr ⟨by omega, h1.symm.trans z3, by rw [← h2, z4]; simp [reps]⟩
        have k2 : (c = d ∧ m = 20 ∧ e2 = 2) ∨ (¬ (c = d ∧ m = 20) ∧ e2 = 0 ∧ Y.length = m + 1) := by
          obtain ⟨z1, z2⟩ := reps_put (b := ⟨#[98]⟩) (d := d) HNMI.out hc8 hm20 (by decide) hd8
          by_cases h : c = d ∧ m = 20
          · exact .inl ⟨h.1, h.2, h3.symm.trans (z1 h).1⟩
          · obtain ⟨z3, z4⟩ := z2 h
            exact .inr ⟨h, h3.symm.trans z3, by rw [← h4, z4]; simp [reps]⟩
        have HP1 := Lib.hid (put_is c' (bare ⟨#[98]⟩ c) At.none wr HV.out (by unfold maxLen; omega) (bare_in _ _ _) h2 h1)
        have HP2 := Lib.hid (fun W (h : Below wr.heap.size wr W) => put_is c' (bare ⟨#[98]⟩ d) At.none W (HV.out.below h) (by unfold maxLen; omega) (bare_in _ _ _) h4 h3)
        have HK1 := Lib.hid k1
        have HK2 := Lib.hid k2
        clear h1 h2 h3 h4 k1 k2
        go_wp2_with fail
        refine HP1.out.mono ?_
        rintro e w3 ⟨A1, m1, c1, rfl, hnw, hb⟩
        have HM1 := Lib.hid hnw.at_.len
        have HB3 := Lib.hid (HB.out.trans (hb.mono HB.out.size))
        have HPP := Lib.hid (HP2.out w3 hb)
        obtain ⟨mp, hmp⟩ : ∃ mp, mp = m + 1 := ⟨_, rfl⟩
        have HMP := Lib.hid hmp
        have j1 : wrap64 ((m : Int) + 1) = (mp : Int) := by rw [hmp]; unfold wrap64; omega
        have j3 : (m : Int) + 1 = (mp : Int) := by omega
        clear hnw hb HP1 HP2 hmp
        rcases HK1.out with ⟨h20, rfl⟩ | ⟨h20, rfl, hX⟩
        · have q1 : ((m : Int) == 20) = true := beq_iff_eq.2 (by omega)
          have H20 := Lib.hid h20
          clear h20
          go_wp2_with fail
          refine HPP.out.mono ?_
          rintro e w4 ⟨A2, m2, c2, rfl, hnw, hb⟩
          have HM2 := Lib.hid hnw.at_.len
          have HB4 := Lib.hid (HB3.out.trans (hb.mono HB3.out.size))
          clear hnw hb
          rcases HK2.out with ⟨hcd, _, rfl⟩ | ⟨hcd, rfl, hY⟩
          · have q2 : ((c : Int) == (d : Int)) = true := beq_iff_eq.2 (by omega)
            clear hcd
            go_wp2_with fail
            go_ret
            exact ⟨rfl, HB4.out⟩
          · have q2 : ((c : Int) == (d : Int)) = false := by
              have : ¬ c = d := fun h => hcd ⟨h, H20.out⟩
              simpa using (show ¬ (c : Int) = (d : Int) by omega)
            have e5 : m2 = mp := by rw [HM2.out, hY, HMP.out]
            subst e5
            clear hY hcd
            go_wp2_with fail
            go_ret
            exact ⟨rfl, HB4.out⟩
        · have q1 : ((m : Int) == 20) = false := by simpa using (show ¬ (m : Int) = 20 by omega)
          have e6 : m1 = mp := by rw [HM1.out, hX, HMP.out]
          subst e6
          clear hX
          go_wp2_with fail
          refine HPP.out.mono ?_
          rintro e w4 ⟨A2, m2, c2, rfl, hnw, hb⟩
          have HM2 := Lib.hid hnw.at_.len
          have HB4 := Lib.hid (HB3.out.trans (hb.mono HB3.out.size))
          clear hnw hb
          rcases HK2.out with ⟨hcd, h21, rfl⟩ | ⟨hcd, rfl, hY⟩
          · exact absurd h21 (by omega)
          · have e5 : m2 = m1 := by rw [HM2.out, hY, HMP.out]
            subst e5
            clear hY hcd
            by_cases hcd2 : c = d
            · have q2 : ((c : Int) == (d : Int)) = true := beq_iff_eq.2 (by omega)
              clear hcd2
              go_wp2_with fail
              go_ret
              exact ⟨rfl, HB4.out⟩
            · have q2 : ((c : Int) == (d : Int)) = false := by simpa using (show ¬ (c : Int) = (d : Int) by omega)
              clear hcd2
              go_wp2_with fail
              go_ret
              exact ⟨rfl, HB4.out⟩
  case false =>
    obtain ⟨id, hidv⟩ : ∃ id : ByteArray, id = ⟨#[97]⟩ := ⟨_, rfl⟩
    have hnm : isNm id = true := by rw [hidv]; exact (by decide)
    have HNMI := Lib.hid hnm
    clear hnm
    go_wp2_with fail
    refine (wit_to HN.out _ (by decide) (by decide)).mono ?_
    rintro e w' ⟨rfl, rfl⟩
    rw [← hidv]; clear hidv
    go_wp2_with fail
    go_loopw [9, 27] (fun s i wr => ∃ (k : Nat) (A : Option Addr) (m c' : Nat), k ≤ N ∧ i = .int .i64 k ∧ s = .slice A m c' ∧ Hid (VsAt wr A m (reps id c k)) ∧ Hid (Below w.heap.size w wr)) (fun _ i _ => N - (intOf i).toNat)
    case atStart => exact ⟨0, none, 0, 0, Nat.zero_le _, rfl, rfl, VsAt.nil _ _, HB2.out⟩
    case round =>
      obtain ⟨k, A, m, c', hk, rfl, rfl, HV, HB⟩ := hrel
      have hml := HV.out.len
      have hmk : m = k := by rw [hml]; simp [reps]
      subst hmk
      clear hml
      by_cases hlt : m < N
      · have i1 : (0 : Int) ≤ (m : Int) := by omega
        have i2 : (m : Int) < (N : Int) := by omega
        obtain ⟨p1, p2⟩ := (reps_put (b := id) (d := c) HNMI.out hc8 (show m ≤ 20 by omega) HNMI.out hc8).2 (fun h => by omega)
        have HPUT := Lib.hid (put_is c' (bare id c) At.none wr HV.out (by unfold maxLen; omega) (bare_in id c wr) p2 p1)
        clear p1 p2
        go_wp2_with fail
        refine HPUT.out.mono ?_
        rintro e w3 ⟨A1, m1, c1, rfl, hnw, hb⟩
        have hv := hnw.at_
        rw [← reps_succ] at hv
        have HV1 := Lib.hid hv
        have HB3 := Lib.hid (HB.out.trans (hb.mono HB.out.size))
        clear hnw hb hv HPUT
        go_wp2_with fail
        go_roundw
        case rel => exact ⟨m + 1, A1, m1, c1, by omega, by go_num, rfl, HV1.out, HB3.out⟩
        case measure => simp [intOf]; omega
      · obtain rfl : m = N := by omega
        have hm20 : m ≤ 20 := by omega
        obtain ⟨e1, h1⟩ : ∃ e1, putErr (reps id c m) (bare ⟨#[98]⟩ c) = e1 := ⟨_, rfl⟩
        obtain ⟨X, h2⟩ : ∃ X, putL (reps id c m) (bare ⟨#[98]⟩ c) = X := ⟨_, rfl⟩
        obtain ⟨e2, h3⟩ : ∃ e2, putErr (reps id c m) (bare ⟨#[98]⟩ d) = e2 := ⟨_, rfl⟩
        obtain ⟨Y, h4⟩ : ∃ Y, putL (reps id c m) (bare ⟨#[98]⟩ d) = Y := ⟨_, rfl⟩
        have k1 : (m = 20 ∧ e1 = 2) ∨ (m < 20 ∧ e1 = 0 ∧ X.length = m + 1) := by
          obtain ⟨z1, z2⟩ := reps_put (b := ⟨#[98]⟩) (d := c) HNMI.out hc8 hm20 (by decide) hc8
          by_cases h : m = 20
          · exact .inl ⟨h, h1.symm.trans (z1 ⟨rfl, h⟩).1⟩
          · obtain ⟨z3, z4⟩ := z2 (fun k => h k.2)
            exact .inr ⟨by omega, h1.symm.trans z3, by rw [← h2, z4]; simp [reps]⟩
        have k2 : (c = d ∧ m = 20 ∧ e2 = 2) ∨ (¬ (c = d ∧ m = 20) ∧ e2 = 0 ∧ Y.length = m + 1) := by
          obtain ⟨z1, z2⟩ := reps_put (b := ⟨#[98]⟩) (d := d) HNMI.out hc8 hm20 (by decide) hd8
          by_cases h : c = d ∧ m = 20
          · exact .inl ⟨h.1, h.2, h3.symm.trans (z1 h).1⟩
          · obtain ⟨z3, z4⟩ := z2 h
            exact .inr ⟨h, h3.symm.trans z3, by rw [← h4, z4]; simp [reps]⟩
        have HP1 := Lib.hid (put_is c' (bare ⟨#[98]⟩ c) At.none wr HV.out (by unfold maxLen; omega) (bare_in _ _ _) h2 h1)
        have HP2 := Lib.hid (fun W (h : Below wr.heap.size wr W) => put_is c' (bare ⟨#[98]⟩ d) At.none W (HV.out.below h) (by unfold maxLen; omega) (bare_in _ _ _) h4 h3)
        have HK1 := Lib.hid k1
        have HK2 := Lib.hid k2
        clear h1 h2 h3 h4 k1 k2
        go_wp2_with fail
        refine HP1.out.mono ?_
        rintro e w3 ⟨A1, m1, c1, rfl, hnw, hb⟩
        have HM1 := Lib.hid hnw.at_.len
        have HB3 := Lib.hid (HB.out.trans (hb.mono HB.out.size))
        have HPP := Lib.hid (HP2.out w3 hb)
        obtain ⟨mp, hmp⟩ : ∃ mp, mp = m + 1 := ⟨_, rfl⟩
        have HMP := Lib.hid hmp
        have j1 : wrap64 ((m : Int) + 1) = (mp : Int) := by rw [hmp]; unfold wrap64; omega
        have j3 : (m : Int) + 1 = (mp : Int) := by omega
        clear hnw hb HP1 HP2 hmp
        rcases HK1.out with ⟨h20, rfl⟩ | ⟨h20, rfl, hX⟩
        · have q1 : ((m : Int) == 20) = true := beq_iff_eq.2 (by omega)
          have H20 := Lib.hid h20
          clear h20
          go_wp2_with fail
          refine HPP.out.mono ?_
          rintro e w4 ⟨A2, m2, c2, rfl, hnw, hb⟩
          have HM2 := Lib.hid hnw.at_.len
          have HB4 := Lib.hid (HB3.out.trans (hb.mono HB3.out.size))
          clear hnw hb
          rcases HK2.out with ⟨hcd, _, rfl⟩ | ⟨hcd, rfl, hY⟩
          · have q2 : ((c : Int) == (d : Int)) = true := beq_iff_eq.2 (by omega)
            clear hcd
            go_wp2_with fail
            go_ret
            exact ⟨rfl, HB4.out⟩
          · have q2 : ((c : Int) == (d : Int)) = false := by
              have : ¬ c = d := fun h => hcd ⟨h, H20.out⟩
              simpa using (show ¬ (c : Int) = (d : Int) by omega)
            have e5 : m2 = mp := by rw [HM2.out, hY, HMP.out]
            subst e5
            clear hY hcd
            go_wp2_with fail
            go_ret
            exact ⟨rfl, HB4.out⟩
        · have q1 : ((m : Int) == 20) = false := by simpa using (show ¬ (m : Int) = 20 by omega)
          have e6 : m1 = mp := by rw [HM1.out, hX, HMP.out]
          subst e6
          clear hX
          go_wp2_with fail
          refine HPP.out.mono ?_
          rintro e w4 ⟨A2, m2, c2, rfl, hnw, hb⟩
          have HM2 := Lib.hid hnw.at_.len
          have HB4 := Lib.hid (HB3.out.trans (hb.mono HB3.out.size))
          clear hnw hb
          rcases HK2.out with ⟨hcd, h21, rfl⟩ | ⟨hcd, rfl, hY⟩
          · exact absurd h21 (by omega)
          · have e5 : m2 = m1 := by rw [HM2.out, hY, HMP.out]
            subst e5
            clear hY hcd
            by_cases hcd2 : c = d
            · have q2 : ((c : Int) == (d : Int)) = true := beq_iff_eq.2 (by omega)
              clear hcd2
              go_wp2_with fail
              go_ret
              exact ⟨rfl, HB4.out⟩
            · have q2 : ((c : Int) == (d : Int)) = false := by simpa using (show ¬ (c : Int) = (d : Int) by omega)
              clear hcd2
              go_wp2_with fail
              go_ret
              exact ⟨rfl, HB4.out⟩
end Go.Proofs.Ytekjlbbacieafaa
