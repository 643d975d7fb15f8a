/- Contracts of isField, areFields, areRefs. -/
import Derived.Test.YtepenlciaanoeaaGreatDoorRId
set_option linter.unusedVariables false
set_option linter.unusedSimpArgs false
set_option maxRecDepth 100000
namespace Go.Proofs.YtepenlciaanoeaaGreatDoor
open Go.RowKit Go.Sort

set_option maxHeartbeats 1000000 in
theorem isField_any (f : FieldL) (w : World) :
    Calls Tryz.prog 125 #[f.v] w fun e w' => e = .returned (.bool (isFd f)) ∧ Below w.heap.size w w' := by
  have hA : Below w.heap.size w (w.alloc (.cells #[.string f.key, .string f.val] 41)) := (Below.refl _ _).alloc (Nat.le_refl _) _
  cases hn : isNm f.key with
  | false =>
    have e : isFd f = false := by unfold isFd; rw [hn]; rfl
    rw [e]
    clear e
    have HN := Lib.hid hn
    clear hn
    go_enter Tryz.func125, Tryz.ntmps125
    go_wp2_with fail
    refine (id_is f.key _ HN.out).mono ?_
    rintro e w1 ⟨rfl, hb1⟩
    have hB1 : Below w.heap.size w w1 := hA.trans (hb1.mono (by simp))
    obtain ⟨hc1, hf1⟩ := bcell hb1
    go_wp2_with fail
    go_ret
    exact ⟨rfl, hB1⟩
  | true =>
    have e : isFd f = isVl f.val := by unfold isFd; rw [hn]; rfl
    rw [e]
    clear e
    have HN := Lib.hid hn
    clear hn
    go_enter Tryz.func125, Tryz.ntmps125
    go_wp2_with fail
    refine (id_is f.key _ HN.out).mono ?_
    rintro e w1 ⟨rfl, hb1⟩
    have hB1 : Below w.heap.size w w1 := hA.trans (hb1.mono (by simp))
    obtain ⟨hc1, hf1⟩ := bcell hb1
    go_wp2_with fail
    refine (value_any f.val _).mono ?_
    rintro e w2 ⟨rfl, hb2⟩
    have hB2 : Below w.heap.size w w2 := hB1.trans (hb2.mono hB1.size)
    go_wp2_with fail
    go_ret
    exact ⟨rfl, hB2⟩
theorem isField_is {b : Bool} (f : FieldL) (w : World) (h : isFd f = b) : Calls Tryz.prog 125 #[f.v] w fun e w' => e = .returned (.bool b) ∧ Below w.heap.size w w' := h ▸ isField_any f w

/-- how far a list of fields is in order -/
theorem fOk_ext {fs : List FieldL} {k n : Nat} (h : fOk fs k) (h2 : ∀ i f, k ≤ i → i < n → fs[i]? ≠ some f) : fOk fs n := fun i f hi hf => by
  by_cases e : i < k
  · exact h i f e hf
  · exact absurd hf (h2 i f (by omega) hi)

theorem le_no {a b : ByteArray} (h : sLt a b = true) : Op.bytesLess b.toList a.toList = false ∧ (b.toList == a.toList) = false := ⟨sLt_asymm h, sEq_false.2 (sLt_ne h).symm⟩
theorem le_yes {a b : ByteArray} (h : sLt a b = false) : (Op.bytesLess b.toList a.toList = true ∧ (b.toList == a.toList) = false) ∨ (Op.bytesLess b.toList a.toList = false ∧ (b.toList == a.toList) = true) := by
  rcases sLt_tri b a with k | k | k
  · exact .inl ⟨k, sEq_false.2 (sLt_ne k)⟩
  · subst k
    exact .inr ⟨h, sEq_iff.2 rfl⟩
  · rw [h] at k
    cases k

set_option maxHeartbeats 1000000 in
set_option maxRecDepth 100000 in
theorem areFields_yes (a : Option Addr) (fs : List FieldL) (c : Nat) (w : World) (hs : SlF w a fs) (hm : fs.length ≤ maxLen) (h : fOk fs fs.length) :
    Calls Tryz.prog 181 #[.slice a fs.length c] w fun e w' => e = .returned (.bool true) ∧ Below w.heap.size w w' := by
  unfold maxLen at hm
  have H := Lib.hid h
  have HS := Lib.hid hs
  clear h hs
  obtain ⟨n, hn⟩ : ∃ n, n = fs.length := ⟨_, rfl⟩
  have HN := Lib.hid hn
  rw [← hn] at hm ⊢
  clear hn
  go_enter Tryz.func181, Tryz.ntmps181
  go_wp2_with fail
  go_loopw [7] (fun i wr => ∃ k : Nat, k ≤ n ∧ i = .int .i64 k ∧ Below w.heap.size w wr) (fun i _ => n - (intOf i).toNat)
  case atStart => exact ⟨0, Nat.zero_le _, rfl, Below.refl _ _⟩
  case round =>
    obtain ⟨k, hk, rfl, hB⟩ := hrel
    by_cases hlt : k < n
    · obtain ⟨f, hf⟩ : ∃ f, fs[k]? = some f := ⟨_, List.getElem?_eq_getElem (by rw [← HN.out]; exact hlt)⟩
      obtain ⟨b, off, rfl, h1, h2⟩ := HS.out k f hf
      obtain ⟨hfd, hlt2⟩ := H.out k f (by rw [← HN.out]; exact hlt) hf
      have c1 : wr.cell? ⟨b, off + k * 2, none⟩ = some (.string f.key) := (hB.cell (p := ⟨b, off + k * 2, none⟩) (cell_lt h1)).trans h1
      have c2 : wr.cell? ⟨b, off + k * 2 + 1, none⟩ = some (.string f.val) := (hB.cell (p := ⟨b, off + k * 2 + 1, none⟩) (cell_lt h2)).trans h2
      have HF := Lib.hid hf
      have HD := Lib.hid hfd
      have HL := Lib.hid hlt2
      clear hf hfd hlt2 h1 h2
      go_wp2_with fail
      obtain ⟨W, hW⟩ : ∃ W, W = wr.alloc (.cells #[.string f.key, .string f.val] 41) := ⟨_, rfl⟩
      have hbW : Below w.heap.size w W := by rw [hW]; exact hB.alloc hB.size _
      have k0 : W.cell? ⟨wr.heap.size, 0, none⟩ = some (.string f.key) := by rw [hW]; simp [go_sem]
      have k1 : W.cell? ⟨wr.heap.size, 1, none⟩ = some (.string f.val) := by rw [hW]; simp [go_sem]
      rw [← hW]
      clear hW
      have q0 := cell_regrown k0
      have q1 := cell_regrown k1
      have cF : ∀ d os, Calls Tryz.prog 125 #[f.v] (grow (redrawn W d) os) fun e w'' => e = .returned (.bool true) ∧ ∃ p : Regrown, w'' = grow (redrawn W p.d) p.os := fun d os => Calls.regrown_of (isField_is f _ HD.out)
      clear k0 k1 c1 c2
      cases k with
      | zero =>
        refine region_below_lit (by kernel_rfl) (by kernel_rfl) ?_
        repeat (go_big_quiet_step (exact cF _ _))
        refine wpQuiet_nil ?_
        intro _ hw'
        obtain ⟨⟨dq, osq⟩, hw''⟩ := hw'
        subst hw''
        have hbq := hbW.trans ((below_regrown W dq osq).mono hbW.size)
        generalize grow (redrawn W dq) osq = w1 at hbq ⊢
        clear q0 q1 cF
        go_wp2_with fail
        go_roundw
        case rel => exact ⟨0 + 1, by omega, by go_num, hbq⟩
        case measure => simp [intOf]; omega
      | succ j =>
        obtain ⟨g, hg⟩ : ∃ g, fs[j]? = some g := ⟨_, List.getElem?_eq_getElem (by rw [← HN.out]; omega)⟩
        obtain ⟨b', off', e', h1, h2⟩ := HS.out j g hg
        cases e'
        have hll := le_no (HL.out j g rfl hg)
        obtain ⟨l1, l2⟩ := hll
        have d1 : W.cell? ⟨b, off + j * 2, none⟩ = some (.string g.key) := (hbW.cell (p := ⟨b, off + j * 2, none⟩) (cell_lt h1)).trans h1
        have p1 := cell_regrown d1
        clear h1 h2 hg d1
        refine region_below_lit (by kernel_rfl) (by kernel_rfl) ?_
        repeat (go_big_quiet_step (exact cF _ _))
        refine wpQuiet_nil ?_
        intro _ hw'
        obtain ⟨⟨dq, osq⟩, hw''⟩ := hw'
        subst hw''
        have hbq := hbW.trans ((below_regrown W dq osq).mono hbW.size)
        generalize grow (redrawn W dq) osq = w1 at hbq ⊢
        clear q0 q1 cF
        clear p1
        go_wp2_with fail
        go_roundw
        case rel => exact ⟨j + 1 + 1, by omega, by go_num, hbq⟩
        case measure => simp [intOf]; omega
    · go_wp2_with fail
      go_ret
      exact ⟨rfl, hB⟩

set_option maxHeartbeats 1000000 in
set_option maxRecDepth 100000 in
theorem areFields_no (a : Option Addr) (fs : List FieldL) (c : Nat) (w : World) (hs : SlF w a fs) (hm : fs.length ≤ maxLen) (h : ¬ fOk fs fs.length) :
    Calls Tryz.prog 181 #[.slice a fs.length c] w fun e w' => e = .returned (.bool false) ∧ Below w.heap.size w w' := by
  unfold maxLen at hm
  have H := Lib.hid h
  have HS := Lib.hid hs
  clear h hs
  obtain ⟨n, hn⟩ : ∃ n, n = fs.length := ⟨_, rfl⟩
  have HN := Lib.hid hn
  rw [← hn] at hm ⊢
  clear hn
  go_enter Tryz.func181, Tryz.ntmps181
  go_wp2_with fail
  go_loopw [7] (fun i wr => ∃ k : Nat, k ≤ n ∧ i = .int .i64 k ∧ Below w.heap.size w wr ∧ Hid (fOk fs k)) (fun i _ => n - (intOf i).toNat)
  case atStart => exact ⟨0, Nat.zero_le _, rfl, Below.refl _ _, fun i f hi => absurd hi (Nat.not_lt_zero i)⟩
  case round =>
    obtain ⟨k, hk, rfl, hB, HO⟩ := hrel
    by_cases hlt : k < n
    · obtain ⟨f, hf⟩ : ∃ f, fs[k]? = some f := ⟨_, List.getElem?_eq_getElem (by rw [← HN.out]; exact hlt)⟩
      obtain ⟨b, off, rfl, h1, h2⟩ := HS.out k f hf
      have c1 : wr.cell? ⟨b, off + k * 2, none⟩ = some (.string f.key) := (hB.cell (p := ⟨b, off + k * 2, none⟩) (cell_lt h1)).trans h1
      have c2 : wr.cell? ⟨b, off + k * 2 + 1, none⟩ = some (.string f.val) := (hB.cell (p := ⟨b, off + k * 2 + 1, none⟩) (cell_lt h2)).trans h2
      have HF := Lib.hid hf
      clear hf h1 h2
      go_wp2_with fail
      obtain ⟨W, hW⟩ : ∃ W, W = wr.alloc (.cells #[.string f.key, .string f.val] 41) := ⟨_, rfl⟩
      have hbW : Below w.heap.size w W := by rw [hW]; exact hB.alloc hB.size _
      have k0 : W.cell? ⟨wr.heap.size, 0, none⟩ = some (.string f.key) := by rw [hW]; simp [go_sem]
      have k1 : W.cell? ⟨wr.heap.size, 1, none⟩ = some (.string f.val) := by rw [hW]; simp [go_sem]
      rw [← hW]
      clear hW
      have q0 := cell_regrown k0
      have q1 := cell_regrown k1
      clear k0 k1 c1 c2
      cases hfd : isFd f with
      | false =>
        have HD := Lib.hid hfd
        clear hfd
        have cF : ∀ d os, Calls Tryz.prog 125 #[f.v] (grow (redrawn W d) os) fun e w'' => e = .returned (.bool false) ∧ ∃ p : Regrown, w'' = grow (redrawn W p.d) p.os := fun d os => Calls.regrown_of (isField_is f _ HD.out)
        refine region_below_lit (by kernel_rfl) (by kernel_rfl) ?_
        repeat (go_big_quiet_step (exact cF _ _))
        refine wpQuiet_nil ?_
        intro _ hw'
        obtain ⟨⟨dq, osq⟩, hw''⟩ := hw'
        subst hw''
        have hbq := hbW.trans ((below_regrown W dq osq).mono hbW.size)
        generalize grow (redrawn W dq) osq = w1 at hbq ⊢
        clear q0 q1 cF
        go_wp2_with fail
        go_ret
        exact ⟨rfl, hbq⟩
      | true =>
        have HD := Lib.hid hfd
        clear hfd
        have cF : ∀ d os, Calls Tryz.prog 125 #[f.v] (grow (redrawn W d) os) fun e w'' => e = .returned (.bool true) ∧ ∃ p : Regrown, w'' = grow (redrawn W p.d) p.os := fun d os => Calls.regrown_of (isField_is f _ HD.out)
        cases k with
        | zero =>
          refine region_below_lit (by kernel_rfl) (by kernel_rfl) ?_
          repeat (go_big_quiet_step (exact cF _ _))
          refine wpQuiet_nil ?_
          intro _ hw'
          obtain ⟨⟨dq, osq⟩, hw''⟩ := hw'
          subst hw''
          have hbq := hbW.trans ((below_regrown W dq osq).mono hbW.size)
          generalize grow (redrawn W dq) osq = w1 at hbq ⊢
          clear q0 q1 cF
          go_wp2_with fail
          go_roundw
          case rel => exact ⟨0 + 1, by omega, by go_num, hbq, fOk_succ HO.out HF.out HD.out (fun j g e => by omega)⟩
          case measure => simp [intOf]; omega
        | succ j =>
          obtain ⟨g, hg⟩ : ∃ g, fs[j]? = some g := ⟨_, List.getElem?_eq_getElem (by rw [← HN.out]; omega)⟩
          obtain ⟨b', off', e', h1, h2⟩ := HS.out j g hg
          cases e'
          have d1 : W.cell? ⟨b, off + j * 2, none⟩ = some (.string g.key) := (hbW.cell (p := ⟨b, off + j * 2, none⟩) (cell_lt h1)).trans h1
          have p1 := cell_regrown d1
          have HG := Lib.hid hg
          clear h1 h2 hg d1
          cases hl : sLt g.key f.key with
          | true =>
            obtain ⟨l1, l2⟩ := le_no hl
            have HL := Lib.hid hl
            clear hl
            refine region_below_lit (by kernel_rfl) (by kernel_rfl) ?_
            repeat (go_big_quiet_step (exact cF _ _))
            refine wpQuiet_nil ?_
            intro _ hw'
            obtain ⟨⟨dq, osq⟩, hw''⟩ := hw'
            subst hw''
            have hbq := hbW.trans ((below_regrown W dq osq).mono hbW.size)
            generalize grow (redrawn W dq) osq = w1 at hbq ⊢
            clear q0 q1 cF
            clear p1
            go_wp2_with fail
            go_roundw
            case rel =>
              refine ⟨j + 1 + 1, by omega, by go_num, hbq, fOk_succ HO.out HF.out HD.out (fun j' g' e hg' => ?_)⟩
              obtain rfl : j' = j := by omega
              have := HG.out
              rw [hg'] at this
              cases this
              exact HL.out
            case measure => simp [intOf]; omega
          | false =>
            have hll := le_yes hl
            clear hl
            rcases hll with ⟨l1, l2⟩ | ⟨l1, l2⟩
            all_goals
              refine region_below_lit (by kernel_rfl) (by kernel_rfl) ?_
              repeat (go_big_quiet_step (exact cF _ _))
              refine wpQuiet_nil ?_
              intro _ hw'
              obtain ⟨⟨dq, osq⟩, hw''⟩ := hw'
              subst hw''
              have hbq := hbW.trans ((below_regrown W dq osq).mono hbW.size)
              generalize grow (redrawn W dq) osq = w1 at hbq ⊢
              clear q0 q1 cF
              clear p1
              go_wp2_with fail
              go_ret
              exact ⟨rfl, hbq⟩
    · obtain rfl : k = n := by omega
      exact absurd (by rw [← HN.out]; exact HO.out) H.out

set_option maxHeartbeats 1000000 in
theorem areRefs_yes (a : Option Addr) (rs : List ByteArray) (c : Nat) (w : World) (hs : SlS w a rs) (hm : rs.length ≤ maxLen) (h : rOk rs rs.length) :
    Calls Tryz.prog 182 #[.slice a rs.length c] w fun e w' => e = .returned (.bool true) ∧ Below w.heap.size w w' := by
  unfold maxLen at hm
  have H := Lib.hid h
  have HS := Lib.hid hs
  clear h hs
  obtain ⟨n, hn⟩ : ∃ n, n = rs.length := ⟨_, rfl⟩
  have HN := Lib.hid hn
  rw [← hn] at hm ⊢
  clear hn
  go_enter Tryz.func182, Tryz.ntmps182
  go_wp2_with fail
  go_loopw [7] (fun i wr => ∃ k : Nat, k ≤ n ∧ i = .int .i64 k ∧ Below w.heap.size w wr) (fun i _ => n - (intOf i).toNat)
  case atStart => exact ⟨0, Nat.zero_le _, rfl, Below.refl _ _⟩
  case round =>
    obtain ⟨k, hk, rfl, hB⟩ := hrel
    by_cases hlt : k < n
    · obtain ⟨s, hf⟩ : ∃ s, rs[k]? = some s := ⟨_, List.getElem?_eq_getElem (by rw [← HN.out]; exact hlt)⟩
      obtain ⟨b, off, rfl, h1⟩ := HS.out k s hf
      obtain ⟨hfd, hlt2⟩ := H.out k s (by rw [← HN.out]; exact hlt) hf
      have c1 : wr.cell? ⟨b, off + k, none⟩ = some (.string s) := (hB.cell (p := ⟨b, off + k, none⟩) (cell_lt h1)).trans h1
      have HF := Lib.hid hf
      have HD := Lib.hid hfd
      have HL := Lib.hid hlt2
      clear hf hfd hlt2 h1
      cases k with
      | zero =>
        rw [Nat.add_zero] at c1
        go_wp2_with fail
        refine (id_is s _ HD.out).mono ?_
        rintro e w1 ⟨rfl, hb1⟩
        have hB1 := hB.trans (hb1.mono hB.size)
        go_wp2_with fail
        go_roundw
        case rel => exact ⟨0 + 1, by omega, by go_num, hB1⟩
        case measure => simp [intOf]; omega
      | succ j =>
        obtain ⟨t, ht⟩ : ∃ t, rs[j]? = some t := ⟨_, List.getElem?_eq_getElem (by rw [← HN.out]; omega)⟩
        obtain ⟨b', off', e', h1⟩ := HS.out j t ht
        cases e'
        have hll := le_no (HL.out j t rfl ht)
        obtain ⟨l1, l2⟩ := hll
        go_wp2_with fail
        refine (id_is s _ HD.out).mono ?_
        rintro e w1 ⟨rfl, hb1⟩
        have hB1 := hB.trans (hb1.mono hB.size)
        have d1 : w1.cell? ⟨b, off + j, none⟩ = some (.string t) := (hB1.cell (p := ⟨b, off + j, none⟩) (cell_lt h1)).trans h1
        go_wp2_with fail
        go_roundw
        case rel => exact ⟨j + 1 + 1, by omega, by go_num, hB1⟩
        case measure => simp [intOf]; omega
    · go_wp2_with fail
      go_ret
      exact ⟨rfl, hB⟩

set_option maxHeartbeats 1000000 in
theorem areRefs_no (a : Option Addr) (rs : List ByteArray) (c : Nat) (w : World) (hs : SlS w a rs) (hm : rs.length ≤ maxLen) (h : ¬ rOk rs rs.length) :
    Calls Tryz.prog 182 #[.slice a rs.length c] w fun e w' => e = .returned (.bool false) ∧ Below w.heap.size w w' := by
  unfold maxLen at hm
  have H := Lib.hid h
  have HS := Lib.hid hs
  clear h hs
  obtain ⟨n, hn⟩ : ∃ n, n = rs.length := ⟨_, rfl⟩
  have HN := Lib.hid hn
  rw [← hn] at hm ⊢
  clear hn
  go_enter Tryz.func182, Tryz.ntmps182
  go_wp2_with fail
  go_loopw [7] (fun i wr => ∃ k : Nat, k ≤ n ∧ i = .int .i64 k ∧ Below w.heap.size w wr ∧ Hid (rOk rs k)) (fun i _ => n - (intOf i).toNat)
  case atStart => exact ⟨0, Nat.zero_le _, rfl, Below.refl _ _, fun i f hi => absurd hi (Nat.not_lt_zero i)⟩
  case round =>
    obtain ⟨k, hk, rfl, hB, HO⟩ := hrel
    by_cases hlt : k < n
    · obtain ⟨s, hf⟩ : ∃ s, rs[k]? = some s := ⟨_, List.getElem?_eq_getElem (by rw [← HN.out]; exact hlt)⟩
      obtain ⟨b, off, rfl, h1⟩ := HS.out k s hf
      have c1 : wr.cell? ⟨b, off + k, none⟩ = some (.string s) := (hB.cell (p := ⟨b, off + k, none⟩) (cell_lt h1)).trans h1
      have HF := Lib.hid hf
      clear hf h1
      cases hfd : isNm s with
      | false =>
        have HD := Lib.hid hfd
        clear hfd
        go_wp2_with fail
        refine (id_is s _ HD.out).mono ?_
        rintro e w1 ⟨rfl, hb1⟩
        have hB1 := hB.trans (hb1.mono hB.size)
        go_wp2_with fail
        go_ret
        exact ⟨rfl, hB1⟩
      | true =>
        have HD := Lib.hid hfd
        clear hfd
        cases k with
        | zero =>
          rw [Nat.add_zero] at c1
          go_wp2_with fail
          refine (id_is s _ HD.out).mono ?_
          rintro e w1 ⟨rfl, hb1⟩
          have hB1 := hB.trans (hb1.mono hB.size)
          go_wp2_with fail
          go_roundw
          case rel => exact ⟨0 + 1, by omega, by go_num, hB1, rOk_succ HO.out HF.out HD.out (fun j g e => by omega)⟩
          case measure => simp [intOf]; omega
        | succ j =>
          obtain ⟨t, ht⟩ : ∃ t, rs[j]? = some t := ⟨_, List.getElem?_eq_getElem (by rw [← HN.out]; omega)⟩
          obtain ⟨b', off', e', h1⟩ := HS.out j t ht
          cases e'
          have HG := Lib.hid ht
          clear ht
          cases hl : sLt t s with
          | true =>
            obtain ⟨l1, l2⟩ := le_no hl
            have HL := Lib.hid hl
            clear hl
            go_wp2_with fail
            refine (id_is s _ HD.out).mono ?_
            rintro e w1 ⟨rfl, hb1⟩
            have hB1 := hB.trans (hb1.mono hB.size)
            have d1 : w1.cell? ⟨b, off + j, none⟩ = some (.string t) := (hB1.cell (p := ⟨b, off + j, none⟩) (cell_lt h1)).trans h1
            go_wp2_with fail
            go_roundw
            case rel =>
              refine ⟨j + 1 + 1, by omega, by go_num, hB1, rOk_succ HO.out HF.out HD.out (fun j' g' e hg' => ?_)⟩
              obtain rfl : j' = j := by omega
              have := HG.out
              rw [hg'] at this
              cases this
              exact HL.out
            case measure => simp [intOf]; omega
          | false =>
            have hll := le_yes hl
            clear hl
            rcases hll with ⟨l1, l2⟩ | ⟨l1, l2⟩
            all_goals
              go_wp2_with fail
              refine (id_is s _ HD.out).mono ?_
              rintro e w1 ⟨rfl, hb1⟩
              have hB1 := hB.trans (hb1.mono hB.size)
              have d1 : w1.cell? ⟨b, off + j, none⟩ = some (.string t) := (hB1.cell (p := ⟨b, off + j, none⟩) (cell_lt h1)).trans h1
              go_wp2_with fail
              go_ret
              exact ⟨rfl, hB1⟩
    · obtain rfl : k = n := by omega
      exact absurd (by rw [← HN.out]; exact HO.out) H.out
end Go.Proofs.YtepenlciaanoeaaGreatDoor
