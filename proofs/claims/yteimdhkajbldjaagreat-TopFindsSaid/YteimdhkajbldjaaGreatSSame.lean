/- The contract of wyref.SameStore. -/
import Derived.Test.YteimdhkajbldjaaGreatREq
import Derived.Test.YteimdhkajbldjaaGreatSPut2
set_option linter.unusedVariables false
set_option linter.unusedSimpArgs false
set_option maxRecDepth 100000
namespace Go.Proofs.YteimdhkajbldjaaGreat
open Go.RowKit Go.Sort Go.Maps

set_option maxHeartbeats 1000000 in
theorem sameV_is {b : Bool} (x y : PV) (w : World) (hx : x.in_ w) (hy : y.in_ w) (h : decide (x.v = y.v) = b) :
    Calls Tryz.prog 65 #[x.val, y.val] w fun e w' => e = .returned (.bool b) ∧ Below w.heap.size w w' := by
  have hA : Below w.heap.size w (y.box (x.box w)) := ((Below.refl _ _).alloc (Nat.le_refl _) _).alloc (by simp) _
  obtain ⟨⟨r, g⟩, p⟩ := x
  obtain ⟨⟨r', g'⟩, p'⟩ := y
  simp only at hx hy h hA ⊢
  have HX := Lib.hid hx
  have HY := Lib.hid hy
  have H := Lib.hid h
  have HA := Lib.hid hA
  clear hx hy h hA
  by_cases hg : g = g'
  · subst hg
    have he : decide (r = r') = b := by
      rw [← H.out, decide_eq_decide]
      exact ⟨fun e => by rw [e], fun e => congrArg VerL.r e⟩
    have HE := Lib.hid he
    have e1 : (g == g) = true := by simp
    clear he
    go_enter Tryz.func65, Tryz.ntmps65
    go_wp2_with fail
    refine (same_is r r' p p' _ (HX.out.below HA.out) (HY.out.below HA.out) HE.out).mono ?_
    rintro e w1 ⟨rfl, hb1⟩
    go_wp2_with fail
    go_ret
    exact ⟨rfl, HA.out.trans (hb1.mono HA.out.size)⟩
  · have e1 : (g == g') = false := by simpa using hg
    obtain rfl : b = false := by
      rw [← H.out, decide_eq_false_iff_not]
      exact fun e => hg (congrArg VerL.gone e)
    have hg2 : ¬ (g = g') := hg
    cases g <;> cases g' <;> first | exact absurd rfl hg | skip
    all_goals
      clear hg hg2
      go_enter Tryz.func65, Tryz.ntmps65
      go_wp2_with fail
      go_ret
      exact ⟨rfl, HA.out⟩

set_option maxHeartbeats 2000000 in
theorem eqW_any (a a' : Option Addr) (l m : List PV) (c c' : Nat) (w : World) (hs : SlW w a l) (hs' : SlW w a' m) (hm : l.length ≤ maxLen) (hm' : m.length ≤ maxLen) :
    Calls Tryz.prog 64 #[.slice a l.length c, .slice a' m.length c', .func (.func 65) #[] #[]] w fun e w' => e = .returned (.bool (decide (l.map (·.v) = m.map (·.v)))) ∧ Below w.heap.size w w' := by
  unfold maxLen at hm hm'
  have HS := Lib.hid hs
  have HS' := Lib.hid hs'
  obtain ⟨n, hn⟩ : ∃ n, n = l.length := ⟨_, rfl⟩
  obtain ⟨n', hn2⟩ : ∃ n', n' = m.length := ⟨_, rfl⟩
  have HN := Lib.hid hn
  have HM := Lib.hid hn2
  rw [← hn] at hm ⊢
  rw [← hn2] at hm' ⊢
  clear hn hn2 hs hs'
  by_cases hl : n = n'
  · subst hl
    go_enter Tryz.func64, Tryz.ntmps64
    go_wp2_with fail
    go_loopw [17] (fun i wr => ∃ k : Nat, k ≤ n ∧ i = .int .i64 k ∧ Below w.heap.size w wr ∧ Hid ((l.map (·.v)).take k = (m.map (·.v)).take k)) (fun i _ => n - (intOf i).toNat)
    case atStart => exact ⟨0, Nat.zero_le _, rfl, Below.refl _ _, rfl⟩
    case round =>
      obtain ⟨k, hk, rfl, hB, HK⟩ := hrel
      by_cases hlt : k < n
      · obtain ⟨x, hx⟩ : ∃ x, l[k]? = some x := ⟨_, List.getElem?_eq_getElem (by rw [← HN.out]; exact hlt)⟩
        obtain ⟨y, hy⟩ : ∃ y, m[k]? = some y := ⟨_, List.getElem?_eq_getElem (by rw [← HM.out]; exact hlt)⟩
        obtain ⟨ix, b, off, rfl, d0, d1, d2, d3, d4⟩ := (HS.out.below hB) k x hx
        obtain ⟨iy, b', off', rfl, f0, f1, f2, f3, f4⟩ := (HS'.out.below hB) k y hy
        have hxv : (l.map (·.v))[k]? = some x.v := by rw [List.getElem?_map, hx]; rfl
        have hyv : (m.map (·.v))[k]? = some y.v := by rw [List.getElem?_map, hy]; rfl
        have HXV := Lib.hid hxv
        have HYV := Lib.hid hyv
        have hba : Below wr.heap.size wr (y.box (x.box wr)) := ((Below.refl _ _).alloc (Nat.le_refl _) _).alloc (by simp) _
        have HBA := Lib.hid hba
        have i1 : (0 : Int) ≤ (k : Int) := by omega
        have i2 : (k : Int) < (n : Int) := by omega
        have lt1 := cell_lt d0
        have lt2 := cell_lt f0
        have HIX := Lib.hid ix
        have HIY := Lib.hid iy
        obtain ⟨t, ht⟩ : ∃ t, decide (x.v = y.v) = t := ⟨_, rfl⟩
        have HT := Lib.hid ht
        clear hx hy hxv hyv hba ix iy ht
        go_wp2_with fail
        refine (sameV_is x y _ (HIX.out.below HBA.out) (HIY.out.below HBA.out) HT.out).mono ?_
        rintro e w1 ⟨rfl, hb1⟩
        have hB1 : Below w.heap.size w w1 := hB.trans ((HBA.out.trans (hb1.mono HBA.out.size)).mono hB.size)
        clear hb1 d0 d1 d2 d3 d4 f0 f1 f2 f3 f4
        cases t with
        | true =>
          go_wp2_with fail
          go_roundw
          case rel =>
            refine ⟨k + 1, by omega, by go_num, hB1, ?_⟩
            show _ = _
            rw [take_snoc HXV.out, take_snoc HYV.out, HK.out, of_decide_eq_true HT.out]
          case measure => simp [intOf]; omega
        | false =>
          go_wp2_with fail
          go_ret
          refine ⟨ret_bool ?_, hB1⟩
          symm
          rw [decide_eq_false_iff_not]
          intro e
          have h1 := HXV.out
          rw [e, HYV.out] at h1
          exact (of_decide_eq_false HT.out) (Option.some.inj h1).symm
      · go_wp2_with fail
        go_ret
        refine ⟨ret_bool ?_, hB⟩
        symm
        rw [decide_eq_true_eq]
        have h1 := HK.out
        rw [List.take_of_length_le (by rw [List.length_map, ← HN.out]; omega), List.take_of_length_le (by rw [List.length_map, ← HM.out]; omega)] at h1
        exact h1
  · have hl2 : ((n : Int) == (n' : Int)) = false := by simp; omega
    have hl3 : ¬ (n : Int) = (n' : Int) := by omega
    go_enter Tryz.func64, Tryz.ntmps64
    go_wp2_with fail
    go_ret
    refine ⟨ret_bool ?_, Below.refl _ _⟩
    symm
    rw [decide_eq_false_iff_not]
    intro e
    apply hl
    have := congrArg List.length e
    rw [List.length_map, List.length_map] at this
    rw [HN.out, HM.out, this]

set_option maxHeartbeats 400000 in
/-- are two stores the same? -/
theorem sameS_is {b : Bool} {n m : Nat} {a a' : Option Addr} {vs us : List VerL} (c c' : Nat) (w : World) (h : VsAt w a n vs) (h' : VsAt w a' m us) (hn : n ≤ maxLen) (hm : m ≤ maxLen) (hb : decide (vs = us) = b) :
    Calls Tryz.prog 19 #[.slice a n c, .slice a' m c'] w fun e w' => e = .returned (.bool b) ∧ Below w.heap.size w w' := by
  obtain ⟨l, rfl, rfl, hs⟩ := h
  obtain ⟨k, rfl, rfl, hs'⟩ := h'
  have HE := Lib.hid (eqW_any a a' l k c c' w hs hs' hn hm)
  rw [hb] at HE
  clear hs hs' hb
  go_enter Tryz.func19, Tryz.ntmps19
  go_wp2_with fail
  refine HE.out.mono ?_
  rintro e w1 ⟨rfl, hb1⟩
  go_wp2_with fail
  go_ret
  exact ⟨rfl, hb1⟩
end Go.Proofs.YteimdhkajbldjaaGreat
