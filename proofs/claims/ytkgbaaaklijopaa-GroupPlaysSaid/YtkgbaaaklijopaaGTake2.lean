/- Take: what becomes of the group. -/
import Derived.Test.YtkgbaaaklijopaaGTake
set_option linter.unusedVariables false
set_option linter.unusedSimpArgs false
set_option maxRecDepth 100000
namespace Go.Proofs.Ytkgbaaaklijopaa
open Go.RowKit Go.Sort

theorem takeE_zero {L l : List ByteArray} {f : Int} (h : takeE L l f = 0) : ∃ F : Nat, f = F ∧ F ≤ L.length ∧ l.length ≤ 60 ∧ (L.drop F).take (thereN L l F) = l.take (thereN L l F) ∧ F + l.length ≤ 60 := by
  unfold takeE at h
  split at h
  · cases h
  split at h
  · cases h
  split at h
  · cases h
  split at h
  · cases h
  rename_i h1 h2 h3 h4
  have e : f.toNat = f := Int.toNat_of_nonneg (by omega)
  refine ⟨f.toNat, e.symm, by omega, by omega, Decidable.not_not.1 h3, by omega⟩
theorem takeL_len {L l : List ByteArray} {F : Nat} (hF : F ≤ L.length) : (takeL L l F).length = max L.length (F + l.length) := by
  unfold takeL thereN
  rw [List.length_append, List.length_drop]
  omega

set_option maxHeartbeats 2000000 in
theorem take_yes {w : World} {O : Nat → Prop} {p q : Nat} {X : GrpX} {i : Int} {j m c F : Nat} {A0 : Option Addr} {l : List ByteArray} (h : Grp w O p q X) (hi : i = ((j + 1 : Nat) : Int)) (hj : j < X.n) (hl : SlS w A0 l) (hm : l.length = m) (hmc : m ≤ c) (he : takeE (X.L (j + 1)) l (F : Int) = 0) :
    Calls Try.prog 19 #[ptr p, .int .i64 i, .int .i64 (F : Int), .slice A0 m c] w fun e w' => e = .returned (.tuple #[.int .i64 ((takeL (X.L (j + 1)) l F).length : Int), .int .i64 0]) ∧ GTo O p q (X.setL (j + 1) (takeL (X.L (j + 1)) l F)) w w' := by
  obtain ⟨A, C, h⟩ := h
  obtain ⟨F', hF', hFk, hm60, hag, hF60⟩ := takeE_zero he
  obtain rfl : F' = F := by omega
  have cj := h.cl (j + 1) hj
  rw [gloc_succ] at cj
  have fq := h.zq (j * 2)
  have hql := h.lt q h.oq
  obtain ⟨s1, s2, s3⟩ := OwnS.sl (h.ow (j + 1) hj)
  have h60 := h.ok.few (j + 1) hj
  have hTL := takeL_len (l := l) hFk
  have htd := (h.ok.tl (j + 1) (by omega) hj).1
  obtain ⟨k, hk⟩ : ∃ k, (X.L (j + 1)).length = k := ⟨_, rfl⟩
  rw [hk] at cj s2 h60 hFk hTL htd
  have HF := Lib.hid (fol_yes w h.c1 hi hj h.ok.n4)
  have HCH := Lib.hid (check_any (A := A0) (c := c) cj s1 hk s2 h60 hl hm hmc he)
  obtain ⟨K, hK⟩ : ∃ K, thereN (X.L (j + 1)) l F' = K := ⟨_, rfl⟩
  have hK1 : min (k - F') m = K := by rw [← hK]; unfold thereN; rw [hk, hm]
  obtain ⟨a', hr, hs', hnear⟩ := sl_from (a := A0) (n := m) (c := c) (m := K) .i64 (by omega) hmc
  -- whatever the check leaves
  have HW : Hid (∀ w5, Below w.heap.size w w5 → w5.cell? ⟨q, j * 2, none⟩ = some (.slice (A (j + 1)) k (C (j + 1))) ∧
      (∃ A' c' w', (Builtin.append_ #[23, 23] 23 #[.slice (A (j + 1)) k (C (j + 1)), .slice a' (m - K) (c - K)]).run Try.prog w5.drew = .ok (.slice A' (k + (m - K)) c') w' ∧
        w'.cell? ⟨q, j * 2, none⟩ = some (.slice (A (j + 1)) k (C (j + 1))) ∧ w'.frozen? ⟨q, j * 2, none⟩ = false ∧
        GTo O p q (X.setL (j + 1) (takeL (X.L (j + 1)) l F')) w (w'.setCell ⟨q, j * 2, none⟩ (.slice A' (k + (m - K)) c'))) ∧
      Hid (Calls Try.prog 36 #[ptrF q j, .int .i64 (F' : Int), .slice A0 m c] w5.drew fun e w' => e = .returned (.int .i64 (K : Int)) ∧ w' = w5.drew)) := fun w5 hb5 => by
    have hbd : Below w.heap.size w w5.drew := hb5.drew
    have c5 := (hb5.cell (p := ⟨q, j * 2, none⟩) hql).trans cj
    have c6 := (hbd.cell (p := ⟨q, j * 2, none⟩) hql).trans cj
    have ho := OwnS.below (h.ow (j + 1) hj) hbd
    rw [hk] at ho
    obtain ⟨A', c', w', hrun, ho2, hk2, hat⟩ := run_appA (m := m - K) (c := c - K) 23 ho hk ((hs' w l hl hm).below hbd) (by rw [List.length_drop, hm]) (by omega)
    have hz : ∀ d, A (j + 1) = some d → q ≠ d.block := fun d e => ((h.ob (j + 1) hj d e).2.2).symm
    have hk3 : Kept (fun z => ∀ d, A (j + 1) = some d → z ≠ d.block) w w' := (Kept.of hbd).trans hk2
    have hG := GTo.app h hbd hj (l := takeL (X.L (j + 1)) l F') (m := k + (m - K)) (by rw [hTL]; omega) hk2 (by unfold takeL; rw [hK]; exact ho2) (fun d e => by
      rcases hat d e with h1 | h1
      · exact .inl h1
      · exact .inr (Nat.le_trans hbd.size h1)) (setL_ok h.ok (by rw [hTL]; omega) (by rw [hTL]; omega))
    rw [gloc_succ] at hG
    refine ⟨c5, ⟨A', c', w', hrun, hk3.cell hz cj, (hk3.frozen (b := q) (o := j * 2) hz hql).trans fq, hG⟩, ?_⟩
    exact there_is c6 (by omega) (by omega) (by omega) hK1
  have hkm : k + (m - K) = (takeL (X.L (j + 1)) l F').length := by rw [hTL]; omega
  generalize (takeL (X.L (j + 1)) l F').length = N at hkm ⊢
  have hmK : m - K ≤ 60 := by omega
  generalize hmk : m - K = mk at hr HW hkm
  rw [hkm] at HW
  generalize A (j + 1) = a1 at cj HW
  generalize C (j + 1) = kc1 at cj HW
  clear h hi hj hl hm hmc he hF' hFk hm60 hag hF60 fq s1 s2 s3 h60 hTL hk hs' hnear hkm hK hK1 hmK hmk htd
  go_enter Try.func19, Try.ntmps19
  go_wp2_with fail
  refine HF.out.mono ?_
  rintro e w' ⟨rfl, rfl⟩
  go_wp2_with fail
  refine HCH.out.mono ?_
  rintro e w5 ⟨rfl, hb5⟩
  obtain ⟨c5, ⟨A', c', w6, hrun, c6, f6, hg⟩, HTH⟩ := HW.out w5 hb5
  have HG := Lib.hid hg
  clear hg hb5 HW HCH cj
  go_wp2_with fail
  go_region_law (first | (refine step_app_run rfl (.tmp 28) (.tmp 34) 23 rfl (.slice a1 k kc1) (.slice a' mk (c - K)) (by simp [Act.eval, Act.put]) (by simp [Act.eval, Act.put]) hrun ?_) | (go_simp; go_wp2_with (go_at_call 36; refine HTH.out.mono ?_; rintro e w' ⟨rfl, rfl⟩)))
  all_goals
    go_wp2_with fail
    go_ret2
    exact ⟨rfl, HG.out⟩
theorem take_no {w : World} {O : Nat → Prop} {p q : Nat} {X : GrpX} {i f : Int} {j m c : Nat} {A0 : Option Addr} {l : List ByteArray} {er : Int} (h : Grp w O p q X) (hi : i = ((j + 1 : Nat) : Int)) (hj : j < X.n) (hl : SlS w A0 l) (hm : l.length = m) (hmc : m ≤ c) (he : takeE (X.L (j + 1)) l f = er) (h0 : er ≠ 0) :
    Calls Try.prog 19 #[ptr p, .int .i64 i, .int .i64 f, .slice A0 m c] w fun e w' => e = .returned (.tuple #[.int .i64 0, .int .i64 er]) ∧ Below w.heap.size w w' := by
  obtain ⟨A, C, h⟩ := h
  have cj := h.cl (j + 1) hj
  rw [gloc_succ] at cj
  obtain ⟨s1, s2, s3⟩ := OwnS.sl (h.ow (j + 1) hj)
  have HF := Lib.hid (fol_yes w h.c1 hi hj h.ok.n4)
  have HCH := Lib.hid (check_any (A := A0) (c := c) cj s1 rfl s2 (h.ok.few (j + 1) hj) hl hm hmc he)
  have e1 : (er != 0) = true := by simpa using h0
  clear h hi hj hl hm hmc he h0 s1 s2 s3 cj
  go_enter Try.func19, Try.ntmps19
  go_wp2_with fail
  refine HF.out.mono ?_
  rintro e w' ⟨rfl, rfl⟩
  go_wp2_with fail
  refine HCH.out.mono ?_
  rintro e w5 ⟨rfl, hb5⟩
  go_wp2_with fail
  go_ret2
  exact ⟨rfl, hb5⟩
theorem take_none {w : World} {O : Nat → Prop} {p q : Nat} {X : GrpX} {i f : Int} {A0 : Option Addr} {m c : Nat} (h : Grp w O p q X) (hi : i < 1 ∨ (X.n : Int) < i) :
    Calls Try.prog 19 #[ptr p, .int .i64 i, .int .i64 f, .slice A0 m c] w fun e w' => e = .returned (.tuple #[.int .i64 0, .int .i64 4]) ∧ w' = w := by
  obtain ⟨A, C, h⟩ := h
  have HF := Lib.hid (fol_no w h.c1 hi)
  clear h hi
  go_enter Try.func19, Try.ntmps19
  go_wp2_with fail
  refine HF.out.mono ?_
  rintro e w' ⟨rfl, rfl⟩
  go_wp2_with fail
  go_ret2
  exact ⟨rfl, rfl⟩
end Go.Proofs.Ytkgbaaaklijopaa
