/- Contracts of record.Id, Value and isField. -/
import Derived.Test.YtepenlciaanoeaaGreatDoorRMem
set_option linter.unusedVariables false
set_option linter.unusedSimpArgs false
set_option maxRecDepth 100000
namespace Go.Proofs.YtepenlciaanoeaaGreatDoor
open Go.RowKit Go.Sort

theorem nm_short {s : ByteArray} (h : s.size = 0) : isNm s = false := by unfold isNm; rw [h]; rfl
theorem nm_long {s : ByteArray} (h : 8 < s.size) : isNm s = false := by
  unfold isNm
  have e : decide (s.size ≤ 8) = false := by simpa using h
  rw [e]
  simp
theorem nm_all {s : ByteArray} (h1 : 1 ≤ s.size) (h2 : s.size ≤ 8) (h : ∀ j b, j < s.size → s.data.toList[j]? = some b → nmB b = true) : isNm s = true := by
  unfold isNm
  rw [Bool.and_eq_true, Bool.and_eq_true]
  refine ⟨⟨by simpa using h1, by simpa using h2⟩, ?_⟩
  rw [List.all_eq_true]
  intro b hb
  obtain ⟨j, hj⟩ := List.getElem?_of_mem hb
  exact h j b (by rw [Lib.size_eq]; exact (List.getElem?_eq_some_iff.1 hj).1) hj
theorem nm_bad {s : ByteArray} {j : Nat} {b : UInt8} (hj : s.data.toList[j]? = some b) (h : nmB b = false) : isNm s = false := by
  unfold isNm
  have e : s.data.toList.all nmB = false := by
    rw [← Bool.not_eq_true, List.all_eq_true]
    intro k
    rw [k b (List.mem_of_getElem? hj)] at h
    cases h
  rw [e]
  simp
theorem vl_long {s : ByteArray} (h : 12 < s.size) : isVl s = false := by
  unfold isVl
  have e : decide (s.size ≤ 12) = false := by simpa using h
  rw [e]
  simp
theorem vl_all {s : ByteArray} (h2 : s.size ≤ 12) (h : ∀ j b, j < s.size → s.data.toList[j]? = some b → vlB b = true) : isVl s = true := by
  unfold isVl
  rw [Bool.and_eq_true]
  refine ⟨by simpa using h2, ?_⟩
  rw [List.all_eq_true]
  intro b hb
  obtain ⟨j, hj⟩ := List.getElem?_of_mem hb
  exact h j b (by rw [Lib.size_eq]; exact (List.getElem?_eq_some_iff.1 hj).1) hj
theorem vl_bad {s : ByteArray} {j : Nat} {b : UInt8} (hj : s.data.toList[j]? = some b) (h : vlB b = false) : isVl s = false := by
  unfold isVl
  have e : s.data.toList.all vlB = false := by
    rw [← Bool.not_eq_true, List.all_eq_true]
    intro k
    rw [k b (List.mem_of_getElem? hj)] at h
    cases h
  rw [e]
  simp
theorem nmB_eq (b : UInt8) : nmB b = true ↔ (97 ≤ (b.toNat : Int) ∧ (b.toNat : Int) ≤ 122) ∨ (48 ≤ (b.toNat : Int) ∧ (b.toNat : Int) ≤ 57) := by
  unfold nmB
  simp only [Bool.or_eq_true, Bool.and_eq_true, decide_eq_true_eq]
  omega
theorem nmB_no (b : UInt8) : nmB b = false ↔ ¬ ((97 ≤ (b.toNat : Int) ∧ (b.toNat : Int) ≤ 122) ∨ (48 ≤ (b.toNat : Int) ∧ (b.toNat : Int) ≤ 57)) := by
  rw [← Bool.not_eq_true, nmB_eq]
theorem vlB_eq (b : UInt8) : vlB b = true ↔ 33 ≤ (b.toNat : Int) ∧ (b.toNat : Int) ≤ 126 ∧ (b.toNat : Int) ≠ 44 ∧ (b.toNat : Int) ≠ 59 ∧ (b.toNat : Int) ≠ 61 := by
  unfold vlB
  simp only [Bool.and_eq_true, decide_eq_true_eq, Bool.not_eq_true', decide_eq_false_iff_not]
  omega
theorem vlB_no (b : UInt8) : vlB b = false ↔ ¬ (33 ≤ (b.toNat : Int) ∧ (b.toNat : Int) ≤ 126 ∧ (b.toNat : Int) ≠ 44 ∧ (b.toNat : Int) ≠ 59 ∧ (b.toNat : Int) ≠ 61) := by
  rw [← Bool.not_eq_true, vlB_eq]

theorem toList_empty {s : ByteArray} (h : s.size = 0) : s.toList = [] := by
  rw [Lib.toList_data]
  exact List.eq_nil_of_length_eq_zero (by rw [← Lib.size_eq]; exact h)
theorem toList_some {s : ByteArray} (h : 0 < s.size) : s.toList.isEmpty = false := by
  rw [Lib.toList_data]
  cases e : s.data.toList with
  | nil =>
    have h1 := Lib.size_eq s
    rw [e, List.length_nil] at h1
    omega
  | cons _ _ => rfl

set_option maxHeartbeats 1000000 in
theorem id_any (s : ByteArray) (w : World) :
    Calls Tryz.prog 114 #[.string s] w fun e w' => e = .returned (.bool (isNm s)) ∧ Below w.heap.size w w' := by
  by_cases h0 : s.size = 0
  · rw [nm_short h0]
    have h1 := toList_empty h0
    have h2 : s.toList.isEmpty = true := by rw [h1]; rfl
    clear h0
    go_enter Tryz.func114, Tryz.ntmps114
    go_wp2
    all_goals go_ret
    all_goals exact ⟨rfl, Below.refl _ _⟩
  · have h1 := toList_some (s := s) (by omega)
    by_cases h8 : 8 < s.size
    · rw [nm_long h8]
      have h8' : (8 : Int) < (s.size : Int) := by omega
      clear h0 h8
      go_enter Tryz.func114, Tryz.ntmps114
      go_wp2
      all_goals go_ret
      all_goals exact ⟨rfl, Below.refl _ _⟩
    · have h8' : ¬ (8 : Int) < (s.size : Int) := by omega
      obtain ⟨c, W1, hconv, hcell, hb⟩ := conv_bytes s w
      have HC := Lib.hid hcell
      clear hcell
      go_enter Tryz.func114, Tryz.ntmps114
      go_wp2
      go_loop [15] (fun i => ∃ k : Nat, k ≤ s.size ∧ i = .int .i64 k ∧ Hid (∀ j b, j < k → s.data.toList[j]? = some b → nmB b = true)) (fun i => s.size - (intOf i).toNat)
      case atStart => exact ⟨0, Nat.zero_le _, rfl, fun j b hj => absurd hj (Nat.not_lt_zero j)⟩
      case round =>
        obtain ⟨k, hk, rfl, H⟩ := hrel
        by_cases hlt : k < s.size
        · obtain ⟨b, hb'⟩ : ∃ b, s.data.toList[k]? = some b := ⟨_, List.getElem?_eq_getElem (by rw [← Lib.size_eq]; exact hlt)⟩
          have hcell := HC.out k b hb'
          have HB := Lib.hid hb'
          clear hb'
          go_wp2
          all_goals first
            | (go_round
               case rel =>
                 refine ⟨k + 1, by omega, by go_num, fun j b' hj hb' => ?_⟩
                 by_cases e : j = k
                 · subst e
                   have := HB.out
                   rw [hb'] at this
                   cases this
                   rw [nmB_eq]
                   omega
                 · exact H.out j b' (by omega) hb'
               case measure => simp [intOf]; omega)
            | (go_ret
               refine ⟨ret_bool (nm_bad HB.out ?_).symm, hb⟩
               rw [nmB_no]
               omega)
        · go_wp2
          go_ret
          exact ⟨ret_bool (nm_all (by omega) (by omega) (fun j b hj => H.out j b (by omega))).symm, hb⟩

set_option maxHeartbeats 1000000 in
theorem value_any (s : ByteArray) (w : World) :
    Calls Tryz.prog 188 #[.string s] w fun e w' => e = .returned (.bool (isVl s)) ∧ Below w.heap.size w w' := by
  by_cases h8 : 12 < s.size
  · rw [vl_long h8]
    have h8' : (12 : Int) < (s.size : Int) := by omega
    clear h8
    go_enter Tryz.func188, Tryz.ntmps188
    go_wp2
    all_goals go_ret
    all_goals exact ⟨rfl, Below.refl _ _⟩
  · have h8' : ¬ (12 : Int) < (s.size : Int) := by omega
    obtain ⟨c, W1, hconv, hcell, hb⟩ := conv_bytes s w
    have HC := Lib.hid hcell
    clear hcell
    go_enter Tryz.func188, Tryz.ntmps188
    go_wp2
    go_loop [11] (fun i => ∃ k : Nat, k ≤ s.size ∧ i = .int .i64 k ∧ Hid (∀ j b, j < k → s.data.toList[j]? = some b → vlB b = true)) (fun i => s.size - (intOf i).toNat)
    case atStart => exact ⟨0, Nat.zero_le _, rfl, fun j b hj => absurd hj (Nat.not_lt_zero j)⟩
    case round =>
      obtain ⟨k, hk, rfl, H⟩ := hrel
      by_cases hlt : k < s.size
      · obtain ⟨b, hb'⟩ : ∃ b, s.data.toList[k]? = some b := ⟨_, List.getElem?_eq_getElem (by rw [← Lib.size_eq]; exact hlt)⟩
        have hcell := HC.out k b hb'
        have HB := Lib.hid hb'
        clear hb'
        go_wp2
        all_goals first
          | (go_round
             case rel =>
               refine ⟨k + 1, by omega, by go_num, fun j b' hj hb' => ?_⟩
               by_cases e : j = k
               · subst e
                 have := HB.out
                 rw [hb'] at this
                 cases this
                 rw [vlB_eq]
                 first | omega | (simp_all; done) | (simp_all; omega)
               · exact H.out j b' (by omega) hb'
             case measure => simp [intOf]; omega)
          | (go_ret
             refine ⟨ret_bool (vl_bad HB.out ?_).symm, hb⟩
             rw [vlB_no]
             first | omega | (simp_all; done) | (simp_all; omega))
      · go_wp2
        go_ret
        exact ⟨ret_bool (vl_all (by omega) (fun j b hj => H.out j b (by omega))).symm, hb⟩

theorem id_is {b : Bool} (s : ByteArray) (w : World) (h : isNm s = b) : Calls Tryz.prog 114 #[.string s] w fun e w' => e = .returned (.bool b) ∧ Below w.heap.size w w' := h ▸ id_any s w
theorem value_is {b : Bool} (s : ByteArray) (w : World) (h : isVl s = b) : Calls Tryz.prog 188 #[.string s] w fun e w' => e = .returned (.bool b) ∧ Below w.heap.size w w' := h ▸ value_any s w
end Go.Proofs.YtepenlciaanoeaaGreatDoor
