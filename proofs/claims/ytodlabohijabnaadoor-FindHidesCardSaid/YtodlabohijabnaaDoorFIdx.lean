/- Contracts of slices.Index and slices.Contains over fields. -/
import Derived.Test.YtodlabohijabnaaDoorRNe
set_option linter.unusedVariables false
set_option linter.unusedSimpArgs false
set_option maxRecDepth 100000
namespace Go.Proofs.YtodlabohijabnaaDoor
open Go.RowKit Go.Sort

set_option maxHeartbeats 1000000 in
set_option maxRecDepth 100000 in
theorem indexF_no (a : Option Addr) (fs : List FieldL) (c : Nat) (f : FieldL) (w : World) (hs : SlF w a fs) (hm : fs.length ≤ maxLen) (h : f ∉ fs) :
    Calls Tryd.prog 66 #[.slice a fs.length c, f.v] w fun e w' => e = .returned (.int .i64 (-1)) ∧ Below w.heap.size w w' := by
  unfold maxLen at hm
  have H := Lib.hid h
  obtain ⟨n, hn⟩ : ∃ n, n = fs.length := ⟨_, rfl⟩
  have HN := Lib.hid hn
  rw [← hn] at hm ⊢
  have hA : Below w.heap.size w (w.alloc (.cells #[.string f.key, .string f.val] 24)) := (Below.refl _ _).alloc (Nat.le_refl _) _
  have HS := Lib.hid hs
  clear hn h hs
  go_enter Tryd.func66, Tryd.ntmps66
  go_wp2_with fail
  go_loopw [8] (fun i wr => ∃ k : Nat, k ≤ n ∧ i = .int .i64 k ∧ Below w.heap.size w wr ∧ wr.cell? ⟨w.heap.size, 0, none⟩ = some (.string f.key) ∧ wr.cell? ⟨w.heap.size, 1, none⟩ = some (.string f.val)) (fun i _ => n - (intOf i).toNat)
  case atStart => exact ⟨0, Nat.zero_le _, rfl, hA, by simp [go_sem], by simp [go_sem]⟩
  case round =>
    obtain ⟨k, hk, rfl, hB, q0, q1⟩ := hrel
    by_cases hlt : k < n
    · obtain ⟨g, hg⟩ : ∃ g, fs[k]? = some g := ⟨_, List.getElem?_eq_getElem (by rw [← HN.out]; exact hlt)⟩
      obtain ⟨b, off, rfl, h1, h2⟩ := HS.out k g hg
      have c1 : wr.cell? ⟨b, off + k * 2, none⟩ = some (.string g.key) := (hB.cell (p := ⟨b, off + k * 2, none⟩) (cell_lt h1)).trans h1
      have c2 : wr.cell? ⟨b, off + k * 2 + 1, none⟩ = some (.string g.val) := (hB.cell (p := ⟨b, off + k * 2 + 1, none⟩) (cell_lt h2)).trans h2
      have hne := ne_field (f := f) (g := g) (fun e => H.out (by rw [e]; exact List.mem_of_getElem? hg))
      have j1 : (0 : Int) ≤ (k : Int) := by omega
      have j2 : (k : Int) < (n : Int) := by omega
      clear h1 h2 hg
      rcases hne with l1 | ⟨l1, l2⟩
      all_goals
        go_wp2_with fail
        go_quiet (fail)
        go_wp2_with fail
        go_roundw
        case rel => exact ⟨k + 1, by omega, by go_num, hB.trans ((drewn_below wr _).mono hB.size), q0, q1⟩
        case measure => simp [intOf]; omega
    · go_wp2_with fail
      go_ret
      exact ⟨rfl, hB⟩

def SomeIdxF (w : World) (e : Ending) (w' : World) : Prop := ∃ n : Nat, e = .returned (.int .i64 n) ∧ Below w.heap.size w w'

set_option maxHeartbeats 1000000 in
set_option maxRecDepth 100000 in
theorem indexF_yes (a : Option Addr) (fs : List FieldL) (c : Nat) (f : FieldL) (w : World) (hs : SlF w a fs) (hm : fs.length ≤ maxLen) (h : f ∈ fs) :
    Calls Tryd.prog 66 #[.slice a fs.length c, f.v] w (SomeIdxF w) := by
  unfold maxLen at hm
  have H := Lib.hid h
  obtain ⟨n, hn⟩ : ∃ n, n = fs.length := ⟨_, rfl⟩
  have HN := Lib.hid hn
  rw [← hn] at hm ⊢
  have hA : Below w.heap.size w (w.alloc (.cells #[.string f.key, .string f.val] 24)) := (Below.refl _ _).alloc (Nat.le_refl _) _
  have HS := Lib.hid hs
  clear hn h hs
  go_enter Tryd.func66, Tryd.ntmps66
  go_wp2_with fail
  go_loopw [8] (fun i wr => ∃ k : Nat, k ≤ n ∧ i = .int .i64 k ∧ Below w.heap.size w wr ∧ wr.cell? ⟨w.heap.size, 0, none⟩ = some (.string f.key) ∧ wr.cell? ⟨w.heap.size, 1, none⟩ = some (.string f.val) ∧ Hid (f ∉ fs.take k)) (fun i _ => n - (intOf i).toNat)
  case atStart => exact ⟨0, Nat.zero_le _, rfl, hA, by simp [go_sem], by simp [go_sem], by show f ∉ _; simp⟩
  case round =>
    obtain ⟨k, hk, rfl, hB, q0, q1, HK⟩ := hrel
    by_cases hlt : k < n
    · obtain ⟨g, hg⟩ : ∃ g, fs[k]? = some g := ⟨_, List.getElem?_eq_getElem (by rw [← HN.out]; exact hlt)⟩
      obtain ⟨b, off, rfl, h1, h2⟩ := HS.out k g hg
      have c1 : wr.cell? ⟨b, off + k * 2, none⟩ = some (.string g.key) := (hB.cell (p := ⟨b, off + k * 2, none⟩) (cell_lt h1)).trans h1
      have c2 : wr.cell? ⟨b, off + k * 2 + 1, none⟩ = some (.string g.val) := (hB.cell (p := ⟨b, off + k * 2 + 1, none⟩) (cell_lt h2)).trans h2
      have HG := Lib.hid hg
      have j1 : (0 : Int) ≤ (k : Int) := by omega
      have j2 : (k : Int) < (n : Int) := by omega
      clear h1 h2 hg
      by_cases he : f = g
      · subst he
        obtain ⟨l1, l2⟩ := eq_field f
        go_wp2_with fail
        go_quiet (fail)
        go_wp2_with fail
        go_ret
        exact ⟨k, rfl, hB.trans ((drewn_below wr _).mono hB.size)⟩
      · have HE := Lib.hid he
        rcases ne_field he with l1 | ⟨l1, l2⟩
        all_goals
          clear he
          go_wp2_with fail
          go_quiet (fail)
          go_wp2_with fail
          go_roundw
          case rel =>
            refine ⟨k + 1, by omega, by go_num, hB.trans ((drewn_below wr _).mono hB.size), q0, q1, ?_⟩
            show f ∉ _
            rw [List.take_add_one, HG.out]
            intro hm
            rcases List.mem_append.1 hm with hm | hm
            · exact HK.out hm
            · exact HE.out (by simpa using hm)
          case measure => simp [intOf]; omega
    · exfalso
      exact HK.out (by rw [List.take_of_length_le (by have := HN.out; omega)]; exact H.out)

set_option maxHeartbeats 1000000 in
theorem containsF_any (a : Option Addr) (fs : List FieldL) (c : Nat) (f : FieldL) (w : World) (hs : SlF w a fs) (hm : fs.length ≤ maxLen) :
    Calls Tryd.prog 31 #[.slice a fs.length c, f.v] w fun e w' => e = .returned (.bool (decide (f ∈ fs))) ∧ Below w.heap.size w w' := by
  have hA : Below w.heap.size w (w.alloc (.cells #[.string f.key, .string f.val] 24)) := (Below.refl _ _).alloc (Nat.le_refl _) _
  have HS := Lib.hid hs
  have HM := Lib.hid hm
  clear hs hm
  by_cases h : f ∈ fs
  · have e : decide (f ∈ fs) = true := by simpa using h
    rw [e]
    clear e
    have H := Lib.hid h
    clear h
    go_enter Tryd.func31, Tryd.ntmps31
    go_wp2_with fail
    refine (indexF_yes a fs c f _ (HS.out.below hA) HM.out H.out).mono ?_
    rintro e w1 ⟨m, rfl, hb1⟩
    have hB1 : Below w.heap.size w w1 := hA.trans (hb1.mono (by simp))
    have hm0 : (0 : Int) ≤ (m : Int) := by omega
    go_wp2_with fail
    go_ret
    exact ⟨by simp, hB1⟩
  · have e : decide (f ∈ fs) = false := by simpa using h
    rw [e]
    clear e
    have H := Lib.hid h
    clear h
    go_enter Tryd.func31, Tryd.ntmps31
    go_wp2_with fail
    refine (indexF_no a fs c f _ (HS.out.below hA) HM.out H.out).mono ?_
    rintro e w1 ⟨rfl, hb1⟩
    have hB1 : Below w.heap.size w w1 := hA.trans (hb1.mono (by simp))
    go_wp2_with fail
    go_ret
    exact ⟨rfl, hB1⟩
theorem containsF_is {b : Bool} (a : Option Addr) (fs : List FieldL) (c : Nat) (f : FieldL) (w : World) (hs : SlF w a fs) (hm : fs.length ≤ maxLen) (h : decide (f ∈ fs) = b) :
    Calls Tryd.prog 31 #[.slice a fs.length c, f.v] w fun e w' => e = .returned (.bool b) ∧ Below w.heap.size w w' := h ▸ containsF_any a fs c f w hs hm
end Go.Proofs.YtodlabohijabnaaDoor
