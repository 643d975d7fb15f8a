/- GroupFollows: however entries come late and twice, or are lost: what each has is how the leader's log begins: the walk. -/
import Derived.Test.YtkgbaaaklijopaaGShipW
set_option linter.unusedVariables false
set_option linter.unusedSimpArgs false
set_option maxRecDepth 100000
namespace Go.Proofs.Ytkgbaaaklijopaa
open Go.RowKit Go.Sort

/-- the list of node i, in new memory -/
theorem LpS.logging {S p q i : Nat} {w3 w : World} {X : GrpX} {A : Option Addr} {l : List ByteArray} (h : LpS S p q w3 X A l w) (hS : S ≤ w3.heap.size) (hi : i ≤ X.n) {m : Nat} (hm : (X.L i).length = m) :
    Calls Try.prog 26 #[ptr p, .int .i64 (i : Int)] w fun e w' => ∃ A' c, e = .returned (.tuple #[.slice A' m c, .int .i64 0]) ∧ SlS w' A' (X.L i) ∧ m ≤ c ∧ LpS S p q w3 X A l w' := by
  have h' := h
  obtain ⟨O, h1, _⟩ := h
  subst hm
  cases i with
  | zero =>
    refine (log_zero h1).mono ?_
    rintro e w' ⟨A', c, rfl, ho, hb⟩
    obtain ⟨k1, k2, _⟩ := OwnS.sl ho
    exact ⟨A', c, rfl, k1, k2, h'.below hS hb⟩
  | succ j =>
    refine (log_yes h1 (j := j) rfl hi).mono ?_
    rintro e w' ⟨A', c, rfl, ho, hb⟩
    obtain ⟨k1, k2, _⟩ := OwnS.sl ho
    exact ⟨A', c, rfl, k1, k2, h'.below hS hb⟩

set_option maxHeartbeats 4000000 in
theorem groupFollows_walk (n0 : Int) (a : Option Addr) (c : Nat) (g : List RowI) (w : World) (hs : SlG w a g) (hl : g.length ≤ c) (hm : c ≤ maxLen) :
    Calls Try.prog 4 #[.int .i64 n0, .slice a g.length c] w fun e w' => e = .returned (.bool true) ∧ Below w.heap.size w w' := by
  obtain ⟨n, hn⟩ : ∃ n, g.length = n := ⟨_, rfl⟩
  rw [hn] at hl ⊢
  have HS := Lib.hid hs
  have HN := Lib.hid hn
  have HL := Lib.hid hl
  obtain ⟨f, hf⟩ : ∃ f, wit n0 5 = f := ⟨_, rfl⟩
  have f4 : (f : Int) < 5 := by rw [← hf]; exact wit_lt n0 5 (by omega)
  obtain ⟨m, hm1⟩ : ∃ m, m = f + 1 := ⟨_, rfl⟩
  have e2 : (1 : Int) + (f : Int) = (m : Int) := by omega
  have HW := Lib.hid hf
  have HM := Lib.hid hm1
  have HF4 := Lib.hid (show f ≤ 4 by omega)
  have E2 := Lib.hid e2
  clear hs hl hm hn hf hm1 e2
  go_enter Try.func4, Try.ntmps4
  go_wp2_with fail
  refine (begun_is _).mono ?_
  rintro e w1 ⟨rfl, hb1⟩
  have HB1 := Lib.hid hb1
  clear hb1
  go_wp2_with fail
  refine (within_to HW.out _ (by omega) (by omega)).mono ?_
  rintro e w' ⟨rfl, rfl⟩
  go_wp2_with fail
  rw [E2.out]
  refine (LpG.start HM.out HF4.out (Nat.le_refl _) HB1.out []).mono ?_
  rintro e w2 ⟨p, q, rfl, h2⟩
  rw [← grpK_zero] at h2
  have H2 := Lib.hid (shipped_any (nn := m) (n0 := n) (N := min n 60) (c := c) h2 HS.out HN.out HL.out HM.out (begins_new f) rfl (.inl rfl))
  clear h2 HB1 f4
  go_wp2_with fail
  refine H2.out.mono ?_
  rintro e w3 ⟨va, vc, log, X, rfl, h3, hvc, hmore, hbeg, hlg⟩
  have h0 : X.L 0 = log := by have := hmore.l0; rw [this]; rfl
  have hXn : X.n = f := hmore.n
  obtain ⟨lg, hlgn⟩ : ∃ lg, log.length = lg := ⟨_, rfl⟩
  rw [hlgn] at hvc ⊢
  have H3 := Lib.hid h3
  have HBG := Lib.hid hbeg
  have H0 := Lib.hid h0
  have HXN := Lib.hid hXn
  have HVC := Lib.hid hvc
  have HLG := Lib.hid hlgn
  clear h3 hvc hmore hbeg hlg h0 hXn hlgn H2
  go_wp2_with fail
  go_loopw [34] (fun i wr => ∃ k : Nat, k ≤ m ∧ i = .int .i64 (k : Int) ∧ Hid (LpS w.heap.size p q w X va log wr)) (fun i _ => m - (intOf i).toNat)
  case atStart => exact ⟨0, Nat.zero_le _, rfl, H3.out⟩
  case round =>
    obtain ⟨k, hk, rfl, HT⟩ := hrel
    by_cases hlt : k < m
    · have i1 : (0 : Int) ≤ (k : Int) := by omega
      have i2 : (k : Int) < (m : Int) := by omega
      have i3 : (m : Int) ≤ 5 := by have := HM.out; have := HF4.out; omega
      have hkn : k ≤ X.n := by have := HM.out; have := HXN.out; omega
      obtain ⟨lk, hlk⟩ : ∃ lk, (X.L k).length = lk := ⟨_, rfl⟩
      have hle : lk ≤ lg := by rw [← hlk, ← HLG.out, ← H0.out]; exact HBG.out.le hkn
      have i4 : ¬ (lg : Int) < (lk : Int) := by omega
      have hpre : X.L k = log.take lk := by rw [← H0.out, ← hlk]; exact HBG.out k hkn
      have h60 : lg ≤ 60 := by rw [← HLG.out, ← H0.out]; exact HT.out.grp.ok.few 0 (Nat.zero_le _)
      have hLog := Lib.hid (LpS.logging HT.out (Nat.le_refl _) hkn hlk)
      obtain ⟨a3, hrun3, hsl3, _⟩ := sl_to (a := va) (n := lg) (c := vc) (m := lk) .i64 hle HVC.out
      have HSL := Lib.hid hsl3
      have HPR := Lib.hid hpre
      have HLK := Lib.hid hlk
      have HLE := Lib.hid (show lk ≤ 1000 by omega)
      have hz : Hid (k = 0 → lk = lg) := fun e => by rw [← HLK.out, e, H0.out, HLG.out]
      clear hsl3 hpre hlk h60 hkn hle HT
      go_wp2_with fail
      refine hLog.out.mono ?_
      rintro e w4 ⟨A', c', rfl, hs4, hc4, h4⟩
      have H4 := Lib.hid h4
      have HEQ := Lib.hid (eqN_is A' a3 (X.L k) c' vc w4 hs4 (by have := HSL.out w4 log h4.sl; rw [← HPR.out] at this; exact this) HLK.out HLE.out)
      clear h4 hs4 hc4 hLog
      by_cases hk0 : k = 0
      · have e5 : ((k : Int) == 0) = true := by rw [hk0]; rfl
        have e6 : ((lk : Int) == (lg : Int)) = true := by rw [hz.out hk0]; exact beq_self_eq_true _
        have e7 : ((lk : Int) != (lg : Int)) = false := by rw [hz.out hk0]; exact bne_self_eq_false _
        have HK0 := Lib.hid hk0
        clear hk0
        go_wp2_with fail
        refine HEQ.out.mono ?_
        rintro e w5 ⟨rfl, hb5⟩
        have H5 := Lib.hid (H4.out.below (Nat.le_refl _) hb5)
        clear hb5
        go_wp2_with fail
        go_roundw
        case rel => exact ⟨k + 1, by omega, by go_num, H5.out⟩
        case measure => simp [intOf]; omega
      · have e5 : ((k : Int) == 0) = false := by rw [beq_eq_false_iff_ne]; omega
        clear hk0
        go_wp2_with fail
        refine HEQ.out.mono ?_
        rintro e w5 ⟨rfl, hb5⟩
        have H5 := Lib.hid (H4.out.below (Nat.le_refl _) hb5)
        clear hb5
        go_wp2_with fail
        go_roundw
        case rel => exact ⟨k + 1, by omega, by go_num, H5.out⟩
        case measure => simp [intOf]; omega
    · obtain rfl : k = m := by omega
      have HB := Lib.hid HT.out.grp.base
      clear HT
      go_wp2_with fail
      go_ret
      exact ⟨rfl, HB.out⟩
end Go.Proofs.Ytkgbaaaklijopaa
