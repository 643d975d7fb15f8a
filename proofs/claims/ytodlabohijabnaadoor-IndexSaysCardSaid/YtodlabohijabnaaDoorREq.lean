/- Contracts of slices.Equal over fields and strings, and of wyref.SameRecord. -/
import Derived.Test.YtodlabohijabnaaDoorRNe
import Derived.Test.YtodlabohijabnaaDoorRCheck
set_option linter.unusedVariables false
set_option linter.unusedSimpArgs false
set_option maxRecDepth 100000
namespace Go.Proofs.YtodlabohijabnaaDoor
open Go.RowKit Go.Sort


set_option maxHeartbeats 2000000 in
set_option maxRecDepth 100000 in
set_option maxHeartbeats 2000000 in
set_option maxRecDepth 100000 in
theorem eqS_any (a a' : Option Addr) (fs gs : List ByteArray) (c c' : Nat) (w : World) (hs : SlS w a fs) (hs' : SlS w a' gs) (hm : fs.length ≤ maxLen) (hm' : gs.length ≤ maxLen) :
    Calls Tryd.prog 13 #[.slice a fs.length c, .slice a' gs.length c'] w fun e w' => e = .returned (.bool (decide (fs = gs))) ∧ Below w.heap.size w w' := by
  unfold maxLen at hm hm'
  have HS := Lib.hid hs
  have HS' := Lib.hid hs'
  obtain ⟨n, hn⟩ : ∃ n, n = fs.length := ⟨_, rfl⟩
  obtain ⟨m, hm2⟩ : ∃ m, m = gs.length := ⟨_, rfl⟩
  have HN := Lib.hid hn
  have HM := Lib.hid hm2
  rw [← hn] at hm ⊢
  rw [← hm2] at hm' ⊢
  clear hn hm2 hs hs'
  by_cases hl : n = m
  · subst hl
    go_enter Tryd.func13, Tryd.ntmps13
    go_wp2_with fail
    go_loopw [13] (fun i wr => ∃ k : Nat, k ≤ n ∧ i = .int .i64 k ∧ Below w.heap.size w wr ∧ Hid (fs.take k = gs.take k)) (fun i _ => n - (intOf i).toNat)
    case atStart => exact ⟨0, Nat.zero_le _, rfl, Below.refl _ _, rfl⟩
    case round =>
      obtain ⟨k, hk, rfl, hB, HK⟩ := hrel
      by_cases hlt : k < n
      · obtain ⟨f, hf⟩ : ∃ f, fs[k]? = some f := ⟨_, List.getElem?_eq_getElem (by rw [← HN.out]; exact hlt)⟩
        obtain ⟨g, hg⟩ : ∃ g, gs[k]? = some g := ⟨_, List.getElem?_eq_getElem (by rw [← HM.out]; exact hlt)⟩
        obtain ⟨b, off, rfl, h1⟩ := HS.out k f hf
        obtain ⟨b', off', rfl, h3⟩ := HS'.out k g hg
        have c1 : wr.cell? ⟨b, off + k, none⟩ = some (.string f) := (hB.cell (p := ⟨b, off + k, none⟩) (cell_lt h1)).trans h1
        have c3 : wr.cell? ⟨b', off' + k, none⟩ = some (.string g) := (hB.cell (p := ⟨b', off' + k, none⟩) (cell_lt h3)).trans h3
        clear h1 h3
        have HF := Lib.hid hf
        have HG := Lib.hid hg
        have j1 : (0 : Int) ≤ (k : Int) := by omega
        have j2 : (k : Int) < (n : Int) := by omega
        clear hf hg
        by_cases he : f = g
        · subst he
          have l1 : (f.toList == f.toList) = true := sEq_iff.2 rfl
          go_wp2_with fail
          go_quiet (fail)
          go_wp2_with fail
          go_roundw
          case rel =>
            refine ⟨k + 1, by omega, by go_num, hB.trans ((drewn_below wr _).mono hB.size), ?_⟩
            show fs.take (k + 1) = gs.take (k + 1)
            rw [List.take_add_one, List.take_add_one, HK.out, HF.out, HG.out]
          case measure => simp [intOf]; omega
        · have HE := Lib.hid he
          have hne := ne_str he
          clear he
          rcases hne with l1 | ⟨l1, l2⟩
          all_goals
            go_wp2_with fail
            go_quiet (fail)
            go_wp2_with fail
            go_ret
            refine ⟨ret_bool ?_, hB.trans ((drewn_below wr _).mono hB.size)⟩
            symm
            rw [decide_eq_false_iff_not]
            intro e
            rw [e, HG.out] at HF
            exact HE.out (Option.some.inj HF.out).symm
      · go_wp2_with fail
        go_ret
        refine ⟨ret_bool ?_, hB⟩
        symm
        rw [decide_eq_true_eq]
        have h1 := HK.out
        rw [List.take_of_length_le (by rw [← HN.out]; omega), List.take_of_length_le (by rw [← HM.out]; omega)] at h1
        exact h1
  · have hl2 : ((n : Int) == (m : Int)) = false := by simp; omega
    have hl3 : ¬ (n : Int) = (m : Int) := by omega
    go_enter Tryd.func13, Tryd.ntmps13
    go_wp2_with fail
    go_ret
    refine ⟨ret_bool ?_, Below.refl _ _⟩
    symm
    rw [decide_eq_false_iff_not]
    intro e
    apply hl
    rw [HN.out, HM.out, e]

theorem eqS_is {b : Bool} (a a' : Option Addr) (fs gs : List ByteArray) (c c' : Nat) (w : World) (hs : SlS w a fs) (hs' : SlS w a' gs) (hm : fs.length ≤ maxLen) (hm' : gs.length ≤ maxLen) (h : decide (fs = gs) = b) :
    Calls Tryd.prog 13 #[.slice a fs.length c, .slice a' gs.length c'] w fun e w' => e = .returned (.bool b) ∧ Below w.heap.size w w' := h ▸ eqS_any a a' fs gs c c' w hs hs' hm hm'

end Go.Proofs.YtodlabohijabnaaDoor
