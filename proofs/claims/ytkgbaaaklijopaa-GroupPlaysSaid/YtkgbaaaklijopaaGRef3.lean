/- What the document's answer for a group tells: Lose, Sure. -/
import Derived.Test.YtkgbaaaklijopaaGRef2
set_option linter.unusedVariables false
set_option linter.unusedSimpArgs false
set_option maxRecDepth 100000
namespace Go.Proofs.Ytkgbaaaklijopaa
open Go.RowKit Go.Sort

/-- l[:m:m] -/
theorem sl_tom {a : Option Addr} {n c m : Nat} (k : IntKind) (hm : m ≤ n) (hn : n ≤ c) : ∃ a', (∀ W : World, (Instr.slice 23 (.slice a n c) none (some (.int k (m : Int))) (some (.int k (m : Int)))).run Try.prog W = .ok (.slice a' m m) W) ∧
    (∀ w l, SlS w a l → SlS w a' (l.take m)) ∧ Near a' a := by
  obtain ⟨ht, he⟩ := strs_under
  by_cases hc : m = 0
  · refine ⟨a, fun W => ?_, fun w l hs => slS_take hs m, Near.refl _⟩
    rw [run_slice_hm W _ _ _ _ ht k k m m (by omega) (by omega) (by omega), he, Try.sizeOf9]
    simp [Result.andThen, sliced, hc]
  · refine ⟨a.map (·.add 0), fun W => ?_, fun w l hs => slS_take (slS_map hs 0) m, near_map _ _⟩
    rw [run_slice_hm W _ _ _ _ ht k k m m (by omega) (by omega) (by omega), he, Try.sizeOf9]
    simp [Result.andThen, sliced, hc]

section
variable {w : World} {O : Nat → Prop} {S p h k : Nat} {X : GrpX} {A : Nat → Option Addr} {C : Nat → Nat}
theorem RefA.lose_none (r : RefA w O S p h k X A C) (hn : X.n ≤ 4) {i f : Int} (hi : i < 1 ∨ (X.n : Int) < i) :
    Calls Try.prog 23 #[ptr p, .int .i64 i, .int .i64 f] w fun e w' => e = .returned (.int .i64 4) ∧ w' = w := by
  have HI := Lib.hid (r.is_no hn hi)
  clear r hi
  go_enter Try.func23, Try.ntmps23
  go_wp2_with fail
  refine HI.out.mono ?_
  rintro e w' ⟨rfl, rfl⟩
  go_wp2_with fail
  go_ret
  exact ⟨rfl, rfl⟩
set_option maxHeartbeats 1000000 in
theorem RefA.lose_arg (r : RefA w O S p h k X A C) (hn : X.n ≤ 4) {i f : Int} {j : Nat} (hi : i = ((j + 1 : Nat) : Int)) (hj : j < X.n) (hf : f < (X.told (j + 1) : Int) ∨ ((X.L (j + 1)).length : Int) < f) :
    Calls Try.prog 23 #[ptr p, .int .i64 i, .int .i64 f] w fun e w' => e = .returned (.int .i64 1) ∧ Below w.heap.size w w' := by
  have HI := Lib.hid (r.is_yes hn hi hj)
  have c0 := r.c0
  have c1 := r.c1
  have cj := r.cl (j + 1) hj
  have ct := r.ct (j + 1) hj
  have et : X.tell (j + 1) = X.told (j + 1) := by unfold GrpX.tell; rw [if_neg (by omega)]
  rw [et] at ct
  obtain ⟨lj, hlj⟩ : ∃ lj, (X.L (j + 1)).length = lj := ⟨_, rfl⟩
  rw [hlj] at cj hf
  generalize X.told (j + 1) = T at ct hf
  have HW := Lib.hid (fun V : World => rin_is (x := f) (lo := (T : Int)) (hi := (lj : Int)) (b := false) V (by rw [decide_eq_false_iff_not]; omega))
  generalize A (j + 1) = aj at cj
  generalize C (j + 1) = kj at cj
  obtain ⟨m, hm⟩ : ∃ m, X.n + 1 = m := ⟨_, rfl⟩
  rw [hm] at c0 c1
  obtain ⟨j1, hj1⟩ : ∃ j1, j1 = j + 1 := ⟨_, rfl⟩
  rw [← hj1] at cj hi ct
  have i2 : (j1 : Int) < (m : Int) := by omega
  have i3 : (0 : Int) ≤ (j1 : Int) := by omega
  subst hi
  clear r hf hm hlj hj hj1 et
  go_enter Try.func23, Try.ntmps23
  go_wp2_with fail
  refine HI.out.mono ?_
  rintro e w' ⟨rfl, rfl⟩
  go_wp2_with fail
  go_quiet ((go_at_call 34; exact Calls.quiet_of_same (HW.out _)))
  go_wp2_with fail
  go_ret
  exact ⟨rfl, drewn_below w' _⟩
set_option maxHeartbeats 2000000 in
theorem RefA.lose_yes (r : RefA w O S p h k X A C) (hn : X.n ≤ 4) {i : Int} {j f : Nat} (hi : i = ((j + 1 : Nat) : Int)) (hj : j < X.n) (ht : X.told (j + 1) ≤ f) (hf : f ≤ (X.L (j + 1)).length) :
    Calls Try.prog 23 #[ptr p, .int .i64 i, .int .i64 (f : Int)] w fun e w' => e = .returned (.int .i64 0) ∧ RefTo O S p h k (X.setL (j + 1) ((X.L (j + 1)).take f)) w w' := by
  have HI := Lib.hid (r.is_yes hn hi hj)
  have c0 := r.c0
  have c1 := r.c1
  have cj := r.cl (j + 1) hj
  have ct := r.ct (j + 1) hj
  have fh := r.fh (j + 1)
  have et : X.tell (j + 1) = X.told (j + 1) := by unfold GrpX.tell; rw [if_neg (by omega)]
  rw [et] at ct
  obtain ⟨s1, s2⟩ := r.sl (j + 1) hj
  obtain ⟨a', hrun, hsl, hnr⟩ := sl_tom (a := A (j + 1)) (c := C (j + 1)) .i64 hf s2
  have HG : Hid (∀ W, Below w.heap.size w W → RefTo O S p h k (X.setL (j + 1) ((X.L (j + 1)).take f)) w (W.setCell ⟨h, j + 1, none⟩ (.slice a' f f))) := fun W hW =>
    ⟨_, _, (r.below hW).setL hj (Nat.succ_pos _) (by rw [List.length_take]; omega) ((hsl w _ s1).below hW) (Nat.le_refl _) (fun d e => by
      obtain ⟨e0, e1, e2⟩ := hnr d e
      have := (r.below hW).al (j + 1) hj e0 e1
      rw [e2]
      exact this), (Kept.of hW).trans (Kept.setCell W (fun z => z.1 rfl) _)⟩
  obtain ⟨lj, hlj⟩ : ∃ lj, (X.L (j + 1)).length = lj := ⟨_, rfl⟩
  rw [hlj] at cj hf hrun
  generalize X.told (j + 1) = T at ct ht
  have HW := Lib.hid (fun V : World => rin_is (x := (f : Int)) (lo := (T : Int)) (hi := (lj : Int)) (b := true) V (by rw [decide_eq_true_eq]; omega))
  generalize A (j + 1) = aj at cj hrun
  generalize C (j + 1) = kj at cj hrun
  obtain ⟨m, hm⟩ : ∃ m, X.n + 1 = m := ⟨_, rfl⟩
  rw [hm] at c0 c1
  obtain ⟨j1, hj1⟩ : ∃ j1, j1 = j + 1 := ⟨_, rfl⟩
  rw [← hj1] at cj hi ct fh HG ⊢
  have i2 : (j1 : Int) < (m : Int) := by omega
  have i3 : (0 : Int) ≤ (j1 : Int) := by omega
  subst hi
  have lh := r.lh
  clear r hf ht hm hlj hj hj1 et s1 s2 hsl hnr
  go_enter Try.func23, Try.ntmps23
  go_wp2_with fail
  refine HI.out.mono ?_
  rintro e w' ⟨rfl, rfl⟩
  go_wp2_with fail
  go_quiet ((go_at_call 34; exact Calls.quiet_of_same (HW.out _)))
  go_wp2_with fail
  go_region
  all_goals
    go_wp2_with fail
    go_ret
    exact ⟨rfl, HG.out _ (drewn_below w' _).drew⟩

/-! ## Sure -/
def manyN (X : GrpX) (t j : Nat) : Nat := (List.range j).countP fun i => decide (t < X.tell i)
theorem manyN_succ (X : GrpX) (t j : Nat) : manyN X t (j + 1) = manyN X t j + if t < X.tell j then 1 else 0 := by
  unfold manyN
  rw [List.range_succ, List.countP_append]
  congr 1
  by_cases h : t < X.tell j <;> simp [h]
theorem manyN_le (X : GrpX) (t j : Nat) : manyN X t j ≤ j := by
  unfold manyN
  have := List.countP_le_length (p := fun i => decide (t < X.tell i)) (l := List.range j)
  rw [List.length_range] at this
  exact this
theorem many_less {X : GrpX} {s t : Nat} (hs : IsSure X.tolds s) (h : t < s) : X.n + 1 < 2 * manyN X t (X.n + 1) := by
  have h1 := hs.1
  rw [X.tolds_len, tolds_count] at h1
  have h2 : (List.range (X.n + 1)).countP (fun j => decide (s ≤ X.tell j)) ≤ manyN X t (X.n + 1) := by
    unfold manyN
    refine List.countP_mono_left fun j _ hx => ?_
    rw [decide_eq_true_eq] at hx ⊢
    omega
  omega
theorem many_eq {X : GrpX} {s : Nat} (hs : IsSure X.tolds s) : 2 * manyN X s (X.n + 1) ≤ X.n + 1 := by
  have h1 := hs.2
  rw [X.tolds_len, tolds_count] at h1
  exact h1
set_option maxHeartbeats 2000000 in
theorem RefA.sure_is (r : RefA w O S p h k X A C) (hn : X.n ≤ 4) {s : Nat} (hs : IsSure X.tolds s) (h60 : s ≤ 1000) :
    Calls Try.prog 25 #[ptr p] w fun e w' => e = .returned (.int .i64 (s : Int)) ∧ Below w.heap.size w w' := by
  have c1 := r.c1
  have HCT := Lib.hid r.ct
  have HLE := Lib.hid (fun t (h : t < s) => many_less hs h)
  have HEQ := Lib.hid (many_eq hs)
  have HMS := Lib.hid (manyN_succ X)
  have HML := Lib.hid (manyN_le X)
  obtain ⟨m, hm⟩ : ∃ m, X.n + 1 = m := ⟨_, rfl⟩
  rw [hm] at c1 HLE HEQ
  have HM := Lib.hid (show ∀ j, j < m → j ≤ X.n by intro j hj; omega)
  have n1 : (m : Int) ≤ 5 := by omega
  have n2 : (s : Int) ≤ 1000 := by omega
  clear r hs hn hm h60
  go_enter Try.func25, Try.ntmps25
  go_wp2_with fail
  go_loopw [3] (fun v wr => ∃ t : Nat, t ≤ s ∧ v = .int .i64 (t : Int) ∧ wr = w) (fun v _ => s - (intOf v).toNat)
  case atStart => exact ⟨0, Nat.zero_le _, rfl, rfl⟩
  case round =>
    obtain ⟨t, ht, rfl, rfl⟩ := hrel
    have n3 : (t : Int) ≤ (s : Int) := by omega
    have n4 : (0 : Int) ≤ (t : Int) := by omega
    go_wp2_with fail
    go_loopw [4, 12] (fun v i wr2 => ∃ j : Nat, j ≤ m ∧ i = .int .i64 (j : Int) ∧ v = .int .i64 (manyN X t j : Int) ∧ wr2 = wr) (fun _ i _ => m - (intOf i).toNat)
    case atStart => exact ⟨0, Nat.zero_le _, rfl, rfl, rfl⟩
    case round =>
      obtain ⟨j, hj, rfl, rfl, rfl⟩ := hrel
      have hh := HML.out t j
      have hsc := HMS.out t j
      obtain ⟨hv, hhv⟩ : ∃ hv, manyN X t j = hv := ⟨_, rfl⟩
      rw [hhv] at hh hsc ⊢
      by_cases hjm : j < m
      · have i1 : (0 : Int) ≤ (j : Int) := by omega
        have i2 : (j : Int) < (m : Int) := by omega
        have i3 : (hv : Int) ≤ (j : Int) := by omega
        have i4 : (0 : Int) ≤ (hv : Int) := by omega
        have ct := HCT.out j (HM.out j hjm)
        generalize X.tell j = T at ct hsc
        have HSC := Lib.hid hsc
        clear hsc hhv hh
        by_cases hT : t < T
        · have i5 : (t : Int) < (T : Int) := by omega
          have hs1 := HSC.out
          rw [if_pos hT] at hs1
          have HS1 := Lib.hid hs1
          clear hs1 hT
          go_wp2_with fail
          go_roundw
          case rel => exact ⟨j + 1, by omega, by go_num, by rw [HS1.out]; rfl, trivial⟩
          case measure => simp [intOf]; omega
        · have i5 : ¬ (t : Int) < (T : Int) := by omega
          have hs1 := HSC.out
          rw [if_neg hT] at hs1
          have HS1 := Lib.hid hs1
          clear hs1 hT
          go_wp2_with fail
          go_roundw
          case rel => exact ⟨j + 1, by omega, by go_num, by rw [HS1.out]; rfl, trivial⟩
          case measure => simp [intOf]; omega
      · obtain rfl : j = m := by omega
        have i3 : (hv : Int) ≤ (j : Int) := by omega
        have i4 : (0 : Int) ≤ (hv : Int) := by omega
        by_cases hts : t < s
        · have h1 := HLE.out t hts
          rw [hhv] at h1
          have i5 : ¬ 2 * (hv : Int) ≤ (j : Int) := by omega
          have i6 : (t : Int) < (s : Int) := by omega
          clear h1 hsc hhv hh
          go_wp2_with fail
          go_roundw
          case rel => exact ⟨t + 1, by omega, by go_num, trivial⟩
          case measure => simp [intOf]; omega
        · obtain rfl : t = s := by omega
          have h1 := HEQ.out
          rw [hhv] at h1
          have i5 : 2 * (hv : Int) ≤ (j : Int) := by omega
          clear h1 hsc hhv hh
          go_wp2_with fail
          go_ret
          exact ⟨rfl, Below.refl _ _⟩
end
end Go.Proofs.Ytkgbaaaklijopaa
