/- Contracts of slices.Equal over fields and strings, and of wyref.SameRecord. -/
import Derived.Test.YtepenlciaanoeaaGreatDoorRNe
import Derived.Test.YtepenlciaanoeaaGreatDoorRCheck
set_option linter.unusedVariables false
set_option linter.unusedSimpArgs false
set_option maxRecDepth 100000
namespace Go.Proofs.YtepenlciaanoeaaGreatDoor
open Go.RowKit Go.Sort


set_option maxHeartbeats 2000000 in
set_option maxRecDepth 100000 in
theorem eqF_any (a a' : Option Addr) (fs gs : List FieldL) (c c' : Nat) (w : World) (hs : SlF w a fs) (hs' : SlF w a' gs) (hm : fs.length ≤ maxLen) (hm' : gs.length ≤ maxLen) :
    Calls Tryz.prog 162 #[.slice a fs.length c, .slice a' gs.length c'] w fun e w' => e = .returned (.bool (decide (fs = gs))) ∧ Below w.heap.size w w' := by
  unfold maxLen at hm hm'
  have HS := Lib.hid hs
  have HS' := Lib.hid hs'
  obtain ⟨n, hn⟩ : ∃ n, n = fs.length := ⟨_, rfl⟩
  obtain ⟨m, hm2⟩ : ∃ m, m = gs.length := ⟨_, rfl⟩
  have HN := Lib.hid hn
  have HM := Lib.hid hm2
  rw [← hn] at hm ⊢
  rw [← hm2] at hm' ⊢
  clear hn hm2 hs hs'
  by_cases hl : n = m
  · subst hl
    go_enter Tryz.func162, Tryz.ntmps162
    go_wp2_with fail
    go_loopw [13] (fun i wr => ∃ k : Nat, k ≤ n ∧ i = .int .i64 k ∧ Below w.heap.size w wr ∧ Hid (fs.take k = gs.take k)) (fun i _ => n - (intOf i).toNat)
    case atStart => exact ⟨0, Nat.zero_le _, rfl, Below.refl _ _, rfl⟩
    case round =>
      obtain ⟨k, hk, rfl, hB, HK⟩ := hrel
      by_cases hlt : k < n
      · obtain ⟨f, hf⟩ : ∃ f, fs[k]? = some f := ⟨_, List.getElem?_eq_getElem (by rw [← HN.out]; exact hlt)⟩
        obtain ⟨g, hg⟩ : ∃ g, gs[k]? = some g := ⟨_, List.getElem?_eq_getElem (by rw [← HM.out]; exact hlt)⟩
        obtain ⟨b, off, rfl, h1, h2⟩ := HS.out k f hf
        obtain ⟨b', off', rfl, h3, h4⟩ := HS'.out k g hg
        have c1 : wr.cell? ⟨b, off + k * 2, none⟩ = some (.string f.key) := (hB.cell (p := ⟨b, off + k * 2, none⟩) (cell_lt h1)).trans h1
        have c2 : wr.cell? ⟨b, off + k * 2 + 1, none⟩ = some (.string f.val) := (hB.cell (p := ⟨b, off + k * 2 + 1, none⟩) (cell_lt h2)).trans h2
        have c3 : wr.cell? ⟨b', off' + k * 2, none⟩ = some (.string g.key) := (hB.cell (p := ⟨b', off' + k * 2, none⟩) (cell_lt h3)).trans h3
        have c4 : wr.cell? ⟨b', off' + k * 2 + 1, none⟩ = some (.string g.val) := (hB.cell (p := ⟨b', off' + k * 2 + 1, none⟩) (cell_lt h4)).trans h4
        clear h1 h2 h3 h4
        have HF := Lib.hid hf
        have HG := Lib.hid hg
        have j1 : (0 : Int) ≤ (k : Int) := by omega
        have j2 : (k : Int) < (n : Int) := by omega
        clear hf hg
        by_cases he : f = g
        · subst he
          obtain ⟨l1, l2⟩ := eq_field f
          go_wp2_with fail
          go_quiet (fail)
          go_wp2_with fail
          go_roundw
          case rel =>
            refine ⟨k + 1, by omega, by go_num, hB.trans ((drewn_below wr _).mono hB.size), ?_⟩
            show fs.take (k + 1) = gs.take (k + 1)
            rw [List.take_add_one, List.take_add_one, HK.out, HF.out, HG.out]
          case measure => simp [intOf]; omega
        · have HE := Lib.hid he
          have hne := ne_field he
          clear he
          rcases hne with l1 | ⟨l1, l2⟩
          all_goals
            go_wp2_with fail
            go_quiet (fail)
            go_wp2_with fail
            go_ret
            refine ⟨ret_bool ?_, hB.trans ((drewn_below wr _).mono hB.size)⟩
            symm
            rw [decide_eq_false_iff_not]
            intro e
            rw [e, HG.out] at HF
            exact HE.out (Option.some.inj HF.out).symm
      · go_wp2_with fail
        go_ret
        refine ⟨ret_bool ?_, hB⟩
        symm
        rw [decide_eq_true_eq]
        have h1 := HK.out
        rw [List.take_of_length_le (by rw [← HN.out]; omega), List.take_of_length_le (by rw [← HM.out]; omega)] at h1
        exact h1
  · have hl2 : ((n : Int) == (m : Int)) = false := by simp; omega
    have hl3 : ¬ (n : Int) = (m : Int) := by omega
    go_enter Tryz.func162, Tryz.ntmps162
    go_wp2_with fail
    go_ret
    refine ⟨ret_bool ?_, Below.refl _ _⟩
    symm
    rw [decide_eq_false_iff_not]
    intro e
    apply hl
    rw [HN.out, HM.out, e]

set_option maxHeartbeats 2000000 in
set_option maxRecDepth 100000 in
theorem eqS_any (a a' : Option Addr) (fs gs : List ByteArray) (c c' : Nat) (w : World) (hs : SlS w a fs) (hs' : SlS w a' gs) (hm : fs.length ≤ maxLen) (hm' : gs.length ≤ maxLen) :
    Calls Tryz.prog 44 #[.slice a fs.length c, .slice a' gs.length c'] w fun e w' => e = .returned (.bool (decide (fs = gs))) ∧ Below w.heap.size w w' := by
  unfold maxLen at hm hm'
  have HS := Lib.hid hs
  have HS' := Lib.hid hs'
  obtain ⟨n, hn⟩ : ∃ n, n = fs.length := ⟨_, rfl⟩
  obtain ⟨m, hm2⟩ : ∃ m, m = gs.length := ⟨_, rfl⟩
  have HN := Lib.hid hn
  have HM := Lib.hid hm2
  rw [← hn] at hm ⊢
  rw [← hm2] at hm' ⊢
  clear hn hm2 hs hs'
  by_cases hl : n = m
  · subst hl
    go_enter Tryz.func44, Tryz.ntmps44
    go_wp2_with fail
    go_loopw [13] (fun i wr => ∃ k : Nat, k ≤ n ∧ i = .int .i64 k ∧ Below w.heap.size w wr ∧ Hid (fs.take k = gs.take k)) (fun i _ => n - (intOf i).toNat)
    case atStart => exact ⟨0, Nat.zero_le _, rfl, Below.refl _ _, rfl⟩
    case round =>
      obtain ⟨k, hk, rfl, hB, HK⟩ := hrel
      by_cases hlt : k < n
      · obtain ⟨f, hf⟩ : ∃ f, fs[k]? = some f := ⟨_, List.getElem?_eq_getElem (by rw [← HN.out]; exact hlt)⟩
        obtain ⟨g, hg⟩ : ∃ g, gs[k]? = some g := ⟨_, List.getElem?_eq_getElem (by rw [← HM.out]; exact hlt)⟩
        obtain ⟨b, off, rfl, h1⟩ := HS.out k f hf
        obtain ⟨b', off', rfl, h3⟩ := HS'.out k g hg
        have c1 : wr.cell? ⟨b, off + k, none⟩ = some (.string f) := (hB.cell (p := ⟨b, off + k, none⟩) (cell_lt h1)).trans h1
        have c3 : wr.cell? ⟨b', off' + k, none⟩ = some (.string g) := (hB.cell (p := ⟨b', off' + k, none⟩) (cell_lt h3)).trans h3
        clear h1 h3
        have HF := Lib.hid hf
        have HG := Lib.hid hg
        have j1 : (0 : Int) ≤ (k : Int) := by omega
        have j2 : (k : Int) < (n : Int) := by omega
        clear hf hg
        by_cases he : f = g
        · subst he
          have l1 : (f.toList == f.toList) = true := sEq_iff.2 rfl
          go_wp2_with fail
          go_quiet (fail)
          go_wp2_with fail
          go_roundw
          case rel =>
            refine ⟨k + 1, by omega, by go_num, hB.trans ((drewn_below wr _).mono hB.size), ?_⟩
            show fs.take (k + 1) = gs.take (k + 1)
            rw [List.take_add_one, List.take_add_one, HK.out, HF.out, HG.out]
          case measure => simp [intOf]; omega
        · have HE := Lib.hid he
          have hne := ne_str he
          clear he
          rcases hne with l1 | ⟨l1, l2⟩
          all_goals
            go_wp2_with fail
            go_quiet (fail)
            go_wp2_with fail
            go_ret
            refine ⟨ret_bool ?_, hB.trans ((drewn_below wr _).mono hB.size)⟩
            symm
            rw [decide_eq_false_iff_not]
            intro e
            rw [e, HG.out] at HF
            exact HE.out (Option.some.inj HF.out).symm
      · go_wp2_with fail
        go_ret
        refine ⟨ret_bool ?_, hB⟩
        symm
        rw [decide_eq_true_eq]
        have h1 := HK.out
        rw [List.take_of_length_le (by rw [← HN.out]; omega), List.take_of_length_le (by rw [← HM.out]; omega)] at h1
        exact h1
  · have hl2 : ((n : Int) == (m : Int)) = false := by simp; omega
    have hl3 : ¬ (n : Int) = (m : Int) := by omega
    go_enter Tryz.func44, Tryz.ntmps44
    go_wp2_with fail
    go_ret
    refine ⟨ret_bool ?_, Below.refl _ _⟩
    symm
    rw [decide_eq_false_iff_not]
    intro e
    apply hl
    rw [HN.out, HM.out, e]

theorem eqF_is {b : Bool} (a a' : Option Addr) (fs gs : List FieldL) (c c' : Nat) (w : World) (hs : SlF w a fs) (hs' : SlF w a' gs) (hm : fs.length ≤ maxLen) (hm' : gs.length ≤ maxLen) (h : decide (fs = gs) = b) :
    Calls Tryz.prog 162 #[.slice a fs.length c, .slice a' gs.length c'] w fun e w' => e = .returned (.bool b) ∧ Below w.heap.size w w' := h ▸ eqF_any a a' fs gs c c' w hs hs' hm hm'
theorem eqS_is {b : Bool} (a a' : Option Addr) (fs gs : List ByteArray) (c c' : Nat) (w : World) (hs : SlS w a fs) (hs' : SlS w a' gs) (hm : fs.length ≤ maxLen) (hm' : gs.length ≤ maxLen) (h : decide (fs = gs) = b) :
    Calls Tryz.prog 44 #[.slice a fs.length c, .slice a' gs.length c'] w fun e w' => e = .returned (.bool b) ∧ Below w.heap.size w w' := h ▸ eqS_any a a' fs gs c c' w hs hs' hm hm'

set_option maxHeartbeats 2000000 in
/-- are two records the same? -/
theorem same_any (r q : RecL) (p p' : At) (w : World) (hi : r.in_ p w) (hi' : q.in_ p' w) :
    Calls Tryz.prog 96 #[r.v p, q.v p'] w fun e w' => e = .returned (.bool (decide (r = q))) ∧ Below w.heap.size w w' := by
  have HI := Lib.hid hi
  have HI' := Lib.hid hi'
  clear hi hi'
  have hA : Below w.heap.size w ((r.box p w).alloc (.cells #[.string q.id, .int .i64 q.cats, .slice p'.fa q.fs.length p'.fc, .slice p'.ra q.rs.length p'.rc] 39)) := ((Below.refl _ _).alloc (Nat.le_refl _) _).alloc (by simp) _
  have hne : ∀ {P : Prop}, ¬ P → (r = q → P) → decide (r = q) = false := fun h k => by rw [decide_eq_false_iff_not]; exact fun e => h (k e)
  by_cases h1 : r.id = q.id
  · have l1 : (r.id.toList == q.id.toList) = true := sEq_iff.2 h1
    have H1 := Lib.hid h1
    clear h1
    by_cases h2 : r.cats = q.cats
    · have l2 : (r.cats == q.cats) = true := by simpa using h2
      have H2 := Lib.hid h2
      clear h2
      by_cases h3 : r.fs = q.fs
      · have H3 := Lib.hid h3
        clear h3
        have e : decide (r = q) = decide (r.rs = q.rs) := by
          rw [decide_eq_decide]
          constructor
          · intro e; rw [e]
          · intro e
            obtain ⟨a, b, c, d⟩ := r
            obtain ⟨a', b', c', d'⟩ := q
            have := H1.out; have := H2.out; have := H3.out
            simp_all
        obtain ⟨b, hbb⟩ : ∃ b, decide (r.rs = q.rs) = b := ⟨_, rfl⟩
        rw [e, hbb]
        have HBB := Lib.hid hbb
        clear e hne hbb
        go_enter Tryz.func96, Tryz.ntmps96
        go_wp2_with fail
        refine (eqF_is p.fa p'.fa r.fs q.fs p.fc p'.fc _ (HI.out.hf.below hA) (HI'.out.hf.below hA) (Nat.le_trans HI.out.fl HI.out.fm) (Nat.le_trans HI'.out.fl HI'.out.fm) (b := true) (by simpa using H3.out)).mono ?_
        rintro e w1 ⟨rfl, hb1⟩
        have hB1 : Below w.heap.size w w1 := hA.trans (hb1.mono hA.size)
        have z1 : w.heap.size < w1.heap.size := by have := hb1.size; simp at this; omega
        have z2 : w.heap.size + 1 < w1.heap.size := by have := hb1.size; simp at this; omega
        obtain ⟨hc1, hf1⟩ := bcell hb1
        go_wp2_with fail
        refine (eqS_is p.ra p'.ra r.rs q.rs p.rc p'.rc _ (HI.out.hr.below hB1) (HI'.out.hr.below hB1) (Nat.le_trans HI.out.rl HI.out.rm) (Nat.le_trans HI'.out.rl HI'.out.rm) HBB.out).mono ?_
        rintro e w2 ⟨rfl, hb2⟩
        have hB2 : Below w.heap.size w w2 := hB1.trans (hb2.mono hB1.size)
        go_wp2_with fail
        go_ret
        exact ⟨rfl, hB2⟩
      · rw [hne h3 (fun e => by rw [e])]
        have H3 := Lib.hid h3
        clear h3 hne
        go_enter Tryz.func96, Tryz.ntmps96
        go_wp2_with fail
        refine (eqF_is p.fa p'.fa r.fs q.fs p.fc p'.fc _ (HI.out.hf.below hA) (HI'.out.hf.below hA) (Nat.le_trans HI.out.fl HI.out.fm) (Nat.le_trans HI'.out.fl HI'.out.fm) (b := false) (by simpa using H3.out)).mono ?_
        rintro e w1 ⟨rfl, hb1⟩
        have hB1 : Below w.heap.size w w1 := hA.trans (hb1.mono hA.size)
        go_wp2_with fail
        go_ret
        exact ⟨rfl, hB1⟩
    · rw [hne h2 (fun e => by rw [e])]
      have l2 : (r.cats == q.cats) = false := by simpa using h2
      clear hne
      go_enter Tryz.func96, Tryz.ntmps96
      go_wp2_with fail
      go_ret
      exact ⟨rfl, hA⟩
  · rw [hne h1 (fun e => by rw [e])]
    have l1 : (r.id.toList == q.id.toList) = false := sEq_false.2 h1
    clear hne
    go_enter Tryz.func96, Tryz.ntmps96
    go_wp2_with fail
    go_ret
    exact ⟨rfl, hA⟩
theorem same_is {b : Bool} (r q : RecL) (p p' : At) (w : World) (hi : r.in_ p w) (hi' : q.in_ p' w) (h : decide (r = q) = b) :
    Calls Tryz.prog 96 #[r.v p, q.v p'] w fun e w' => e = .returned (.bool b) ∧ Below w.heap.size w w' := h ▸ same_any r q p p' w hi hi'
end Go.Proofs.YtepenlciaanoeaaGreatDoor
