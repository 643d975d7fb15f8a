/- The contract of log.Check. -/
import Derived.Test.YtepenlciaanoeaaGreatDoorLPure
import Derived.Test.YtepenlciaanoeaaGreatDoorRCheck
import Derived.Test.YtepenlciaanoeaaGreatDoorRuleB
set_option linter.unusedVariables false
set_option linter.unusedSimpArgs false
set_option maxRecDepth 100000
namespace Go.Proofs.YtepenlciaanoeaaGreatDoor
open Go.RowKit Go.Sort

/-- the block of an operation that a call is handed -/
abbrev OpL.box (o : OpL) (P : OpP) (w : World) : World := w.alloc (.cells #[.int .i64 o.kind, .int .i64 o.who.role, .int .i64 o.who.why, .int .i64 o.who.time, .slice P.ra o.n P.rc, .string o.r.id, .int .i64 o.r.cats, .slice P.p.fa o.r.fs.length P.p.fc, .slice P.p.ra o.r.rs.length P.p.rc, .string o.id, .string o.f.key, .string o.f.val] 43)
theorem OpL.box_below (o : OpL) (P : OpP) (w : World) : Below w.heap.size w (o.box P w) := (Below.refl _ _).alloc (Nat.le_refl _) _

theorem labCheck_is {b : Bool} (c : Int) (w : World) (h : decide (0 ≤ c ∧ c ≤ 255) = b) :
    Calls Tryz.prog 170 #[.agg #[.int .i64 0, .int .i64 c]] w fun e w' => e = .returned (.int .i64 (if b then 0 else 1)) ∧ Below w.heap.size w w' := by
  cases b with
  | true =>
    obtain ⟨h1, h2⟩ := of_decide_eq_true h
    exact (check_ok 0 c w (by omega) (by omega) h1 h2).mono fun e w' h => ⟨h.1, h.2.1⟩
  | false =>
    have := of_decide_eq_false h
    exact (check_bad 0 c w (by omega)).mono fun e w' h => ⟨h.1, h.2.1⟩
theorem who_is {b : Bool} (x : WhoL) (w : World) (h : decide x.ok = b) :
    Calls Tryz.prog 169 #[x.v] w fun e w' => e = .returned (.bool b) ∧ Below w.heap.size w w' := h ▸ who_any x w

set_option maxHeartbeats 2000000 in
theorem logCheck_any (o : OpL) (P : OpP) (w : World) (hi : o.in_ P w) :
    Calls Tryz.prog 101 #[o.v P] w fun e w' => e = .returned (.int .i64 (logErr o)) ∧ Below w.heap.size w w' := by
  have hA := o.box_below P w
  have HI := Lib.hid (hi.below hA)
  obtain ⟨E, hE⟩ : ∃ E, E = logErr o := ⟨_, rfl⟩
  rw [← hE]
  have HE := Lib.hid hE
  have HA := Lib.hid hA
  clear hE hi hA
  obtain ⟨kind, who, n, rs, r, id, f⟩ := o
  obtain ⟨ra, rc, p⟩ := P
  by_cases h1 : kind = 1
  · subst h1
    have HE1 : Hid (rulesErr n rs = E) := by rw [HE.out]; unfold logErr; exact (if_pos rfl).symm
    go_enter Tryz.func101, Tryz.ntmps101
    go_wp2_with fail
    refine (rules_any ra n rc rs _ HI.out.rs (Nat.le_trans HI.out.rl HI.out.rm)).mono ?_
    rintro e w1 ⟨rfl, hb⟩
    rw [HE1.out]
    have hB := HA.out.trans (hb.mono HA.out.size)
    have HB := Lib.hid hB
    clear hb hB
    go_wp2_with fail
    go_ret
    exact ⟨rfl, HB.out⟩
  · have h1f : (kind == 1) = false := by simpa using h1
    by_cases h2 : kind = 2
    · subst h2
      obtain ⟨bw, hbw⟩ : ∃ bw, decide who.ok = bw := ⟨_, rfl⟩
      have HBW := Lib.hid hbw
      have HE1 : Hid (E = if bw = true then r.err else 1) := by
        show _ = _
        rw [HE.out]
        unfold logErr
        rw [if_neg (show ¬ (2 : Int) = 1 by decide), if_pos rfl, ← hbw]
        by_cases hw : who.ok
        · rw [if_pos hw, if_pos (decide_eq_true hw)]
        · rw [if_neg hw, if_neg (by simpa using hw)]
      clear hbw
      go_enter Tryz.func101, Tryz.ntmps101
      go_wp2_with fail
      refine (who_is who _ HBW.out).mono ?_
      rintro e w1 ⟨rfl, hb⟩
      have hB := HA.out.trans (hb.mono HA.out.size)
      have HI1 := Lib.hid (HI.out.below hb)
      have HB := Lib.hid hB
      obtain ⟨hc, hf⟩ := bcell hb
      clear hb hB
      cases bw with
      | false =>
        have he : E = 1 := HE1.out
        subst he
        go_wp2_with fail
        go_ret
        exact ⟨rfl, HB.out⟩
      | true =>
        have he : r.err = E := HE1.out.symm
        have HER := Lib.hid he
        clear he
        go_wp2_with fail
        refine (recCheck_is r p _ HI1.out.r HER.out).mono ?_
        rintro e w2 ⟨rfl, hb2⟩
        have hB2 := HB.out.trans (hb2.mono HB.out.size)
        clear hc hf hb2
        go_wp2_with fail
        go_ret
        exact ⟨rfl, hB2⟩
    · have h2f : (kind == 2) = false := by simpa using h2
      by_cases h3 : kind = 3
      · subst h3
        obtain ⟨bw, hbw⟩ : ∃ bw, decide who.ok = bw := ⟨_, rfl⟩
        obtain ⟨bc, hbc⟩ : ∃ bc, decide (0 ≤ r.cats ∧ r.cats ≤ 255) = bc := ⟨_, rfl⟩
        obtain ⟨bi, hbi⟩ : ∃ bi, isNm id = bi := ⟨_, rfl⟩
        have HBW := Lib.hid hbw
        have HBC := Lib.hid hbc
        have HBI := Lib.hid hbi
        have HE1 : Hid (E = if bw = true then (if bc = true then (if bi = true then 0 else 3) else 1) else 1) := by
          show _ = _
          rw [HE.out]
          unfold logErr
          rw [if_neg (show ¬ (3 : Int) = 1 by decide), if_neg (show ¬ (3 : Int) = 2 by decide), if_pos rfl, ← hbw, ← hbc, ← hbi]
          by_cases hw : who.ok
          · rw [if_pos (decide_eq_true hw)]
            by_cases hcc : 0 ≤ r.cats ∧ r.cats ≤ 255
            · rw [if_pos ⟨hw, hcc⟩, if_pos (decide_eq_true hcc)]
            · rw [if_neg (fun k => hcc k.2), if_neg (by simpa using hcc)]
          · rw [if_neg (fun k => hw k.1), if_neg (by simpa using hw)]
        clear hbw hbc hbi
        go_enter Tryz.func101, Tryz.ntmps101
        go_wp2_with fail
        refine (who_is who _ HBW.out).mono ?_
        rintro e w1 ⟨rfl, hb⟩
        have hB := HA.out.trans (hb.mono HA.out.size)
        have HB := Lib.hid hB
        obtain ⟨hc, hf⟩ := bcell hb
        clear hb hB
        cases bw with
        | false =>
          have he : E = 1 := HE1.out
          subst he
          go_wp2_with fail
          go_ret
          exact ⟨rfl, HB.out⟩
        | true =>
          have HLC := Lib.hid (fun W => labCheck_is (b := bc) r.cats W HBC.out)
          cases bc with
          | false =>
            have he : E = 1 := HE1.out
            subst he
            go_wp2_with fail
            refine (HLC.out _).mono ?_
            rintro e w2 ⟨rfl, hb2⟩
            have hB2 := HB.out.trans (hb2.mono HB.out.size)
            go_wp2_with fail
            go_ret
            exact ⟨rfl, hB2⟩
          | true =>
            have he : E = if bi = true then 0 else 3 := HE1.out
            have HEI := Lib.hid he
            clear he
            go_wp2_with fail
            refine (HLC.out _).mono ?_
            rintro e w2 ⟨rfl, hb2⟩
            have hB2 := HB.out.trans (hb2.mono HB.out.size)
            have HB2 := Lib.hid hB2
            have hx1 : w1.cell? ⟨w.heap.size, 9, none⟩ = some (.string id) := by
              rw [hc w.heap.size 9 (by simp)]
              simp [go_sem]
            have hx2 : w2.cell? ⟨w.heap.size, 9, none⟩ = some (.string id) := ((bcell hb2).1 _ _ (cell_lt hx1)).trans hx1
            clear hc hf hb2 hB2 hx1
            go_wp2_with fail
            refine (id_is id _ HBI.out).mono ?_
            rintro e w3 ⟨rfl, hb3⟩
            have hB3 := HB2.out.trans (hb3.mono HB2.out.size)
            cases bi with
            | true =>
              have he : E = 0 := HEI.out
              subst he
              go_wp2_with fail
              go_ret
              exact ⟨rfl, hB3⟩
            | false =>
              have he : E = 3 := HEI.out
              subst he
              go_wp2_with fail
              go_ret
              exact ⟨rfl, hB3⟩
      · have h3f : (kind == 3) = false := by simpa using h3
        have he : E = 3 := by
          rw [HE.out]
          unfold logErr
          exact (if_neg h1).trans ((if_neg h2).trans (if_neg h3))
        subst he
        go_enter Tryz.func101, Tryz.ntmps101
        go_wp2_with fail
        go_ret
        exact ⟨rfl, HA.out⟩
theorem logCheck_is {n : Int} (o : OpL) (P : OpP) (w : World) (hi : o.in_ P w) (h : logErr o = n) :
    Calls Tryz.prog 101 #[o.v P] w fun e w' => e = .returned (.int .i64 n) ∧ Below w.heap.size w w' := h ▸ logCheck_any o P w hi
end Go.Proofs.YtepenlciaanoeaaGreatDoor
