/- The walk of RoleAll. -/
import Derived.Test.YthbimgibpiejcaaRole2
import Derived.Deep.Cut
set_option linter.unusedVariables false
set_option linter.unusedSimpArgs false
namespace Go.Proofs.Ythbimgibpiejcaa
open Go.RowKit

theorem sub_of_imp {a b : Nat} (ha : a < 256) (hb : b < 256) (h : ∀ i, a.testBit i = true → b.testBit i = true) : bits .andNot .i64 (a : Int) (b : Int) = 0 := by
  rw [i64_andNot a b (by omega) (by omega), (sub_zero (by omega) (by omega)).2 h]
  rfl
theorem bit_asked (m k : Nat) : (bits .and .i64 ((m : Int) / 2 ^ k) 1 == 1) = m.testBit k := by
  have h := i64_and_any ((m : Int) / 2 ^ k) 1 1 rfl (by omega)
  have e : ((m : Int) / 2 ^ k) % (2 ^ 1 : Int) = ((m / 2 ^ k % 2 : Nat) : Int) := by simp
  rw [show ((1 : Nat) : Int) = 1 from rfl] at h
  rw [h, e, ← bit_eq]
  exact cast_eq_one _

set_option maxHeartbeats 400000 in
theorem roleAll_empty (a0 : Option Addr) (cap0 : Nat) (a1 a2 a3 : Int) (w : World) (hcap : cap0 ≤ maxLen) :
    Calls Try.prog 8 #[.slice a0 0 cap0, .int .i64 a1, .int .i64 a2, .int .i64 a3] w fun e w' => e = .returned (.bool true) ∧ Below w.heap.size w w' := by
  have h3 := slv_three w 0 1 2 (by omega) (by omega) (by omega)
  go_enter Try.func8, Try.ntmps8
  go_wp2_with fail
  refine (all_valid 3 2 _ h3 (by omega)).mono ?_
  rintro e w' ⟨rfl, rfl⟩
  rw [show allU (fun k => [0, 1, 2].getD k 0) 2 = 7 from by decide]
  go_wp2_with fail
  refine (ups_zero a0 cap0 (fun _ => 0) _ hcap).mono ?_
  rintro e w2 ⟨rfl, hb2⟩
  go_wp2_with fail
  go_ret
  exact ⟨rfl, ((Below.refl _ _).alloc (Nat.le_refl _) _).trans (hb2.mono (by simp))⟩

set_option maxRecDepth 100000 in
set_option maxHeartbeats 4000000 in
theorem roleAll_pos (a0 : Option Addr) (n cap0 : Nat) (z : Nat → Int) (a1 a2 a3 : Int) (w : World) (hs : Sl w a0 n z) (h0 : 0 < n) (hn : n ≤ cap0) (hcap : cap0 ≤ maxLen) :
    Calls Try.prog 8 #[.slice a0 n cap0, .int .i64 a1, .int .i64 a2, .int .i64 a3] w fun e w' => e = .returned (.bool true) ∧ Below w.heap.size w w' := by
  have h3 := slv_three w 0 1 2 (by omega) (by omega) (by omega)
  obtain ⟨m, hm⟩ : ∃ m, min n 8 = m := ⟨_, rfl⟩
  obtain ⟨i, hi⟩ : ∃ i, wit a1 (m : Int) = i := ⟨_, rfl⟩
  obtain ⟨j, hj⟩ : ∃ j, wit a2 (m : Int) = j := ⟨_, rfl⟩
  obtain ⟨k, hk⟩ : ∃ k, wit a3 (m : Int) = k := ⟨_, rfl⟩
  have hmp : 0 < m := by omega
  have hm8 : m ≤ 8 := by omega
  have hil : i < m := by have := wit_lt a1 m (by omega); omega
  have hjl : j < m := by have := wit_lt a2 m (by omega); omega
  have hkl : k < m := by have := wit_lt a3 m (by omega); omega
  have hup := fun w' (hb : Below w.heap.size w w') => ups_pos a0 n cap0 z w' (hs.below hb) h0 hn hcap
  rw [hm] at hup
  have HI := Lib.hid hi; have HJ := Lib.hid hj; have HK := Lib.hid hk
  have HS := Lib.hid hs; have HU := Lib.hid hup
  clear hi hj hk hs hup hm
  go_enter Try.func8, Try.ntmps8
  go_wp2_with fail
  refine (all_valid 3 2 _ h3 (by omega)).mono ?_
  rintro e w' ⟨rfl, rfl⟩
  rw [show allU (fun k => [0, 1, 2].getD k 0) 2 = 7 from by decide]
  go_wp2_with fail
  refine (HU.out _ ((Below.refl _ _).alloc (Nat.le_refl _) _)).mono ?_
  rintro e w2 ⟨g, c, rfl, hat, hb2⟩
  have hB2 : Below w.heap.size w w2 := ((Below.refl _ _).alloc (Nat.le_refl _) _).trans (hb2.mono (by simp))
  have hsl := hat.slv
  have hval := hsl.2
  clear hat hb2 h3 HU HS
  go_wp2_with fail
  refine (within_to HI.out _ (by omega) (by omega)).mono ?_
  rintro e w' ⟨rfl, rfl⟩
  go_wp2_with fail
  refine (within_to HJ.out _ (by omega) (by omega)).mono ?_
  rintro e w' ⟨rfl, rfl⟩
  go_wp2_with fail
  refine (within_to HK.out _ (by omega) (by omega)).mono ?_
  rintro e w' ⟨rfl, rfl⟩
  go_wp2_with fail
  refine (has_valid c i j _ hsl hil hjl).mono ?_
  rintro e w' ⟨rfl, rfl⟩
  go_wp2_with fail
  refine (has_valid c j k _ hsl hjl hkl).mono ?_
  rintro e w' ⟨rfl, rfl⟩
  go_wp2_with fail
  refine (has_valid c i k _ hsl hil hkl).mono ?_
  rintro e w' ⟨rfl, rfl⟩
  go_wp2_with fail
  refine (has_valid c j i _ hsl hjl hil).mono ?_
  rintro e w' ⟨rfl, rfl⟩
  go_wp2_with fail
  refine (has_valid c i i _ hsl hil hil).mono ?_
  rintro e w' ⟨rfl, rfl⟩
  go_wp2_with fail
  refine (all_valid c i _ hsl hil).mono ?_
  rintro e w' ⟨rfl, rfl⟩
  go_wp2_with fail
  refine (all_valid c j _ hsl hjl).mono ?_
  rintro e w' ⟨rfl, rfl⟩
  go_wp2_with fail
  refine wp_loop_rounds 8 ?_
  repeat any_goals (rw [rounds_succ]; go_upto_region 21 with (fail))
  have hd : Below w.heap.size w (w2.alloc (Obj.cells #[.int .i64 0, .int .i64 0, .int .i64 0, .int .i64 0, .int .i64 0, .int .i64 0, .int .i64 0] 24)) := hB2.alloc hB2.size _
  have own : (allU (uz z) i).testBit i = true := (allU_spec hval hil i).2 (.refl _)
  have hx := bit_asked (allU (uz z) i) k
  have lx := allU_lt hval hil
  have ly := allU_lt hval hjl
  cases ha : (allU (uz z) i).testBit j
  · cases hb : (allU (uz z) j).testBit k
    · cases hc : (allU (uz z) i).testBit k
      · cases hd' : (allU (uz z) j).testBit i
        · have hij : (i == j) = false := by
            simp
            intro e
            subst e
            rw [own] at ha hd'
            cases ha
          have hij' : ((i : Int) == (j : Int)) = false := by
            simp at hij ⊢
            omega
          rw [hc] at hx
          clear hsl hval lx ly HI HJ HK
          go_wp2
          go_ret
          exact ⟨rfl, hd⟩
        · have hij : (i == j) = false := by
            simp
            intro e
            subst e
            rw [own] at ha hd'
            cases ha
          have hij' : ((i : Int) == (j : Int)) = false := by
            simp at hij ⊢
            omega
          rw [hc] at hx
          clear hsl hval lx ly HI HJ HK
          go_wp2
          go_ret
          exact ⟨rfl, hd⟩
      · cases hd' : (allU (uz z) j).testBit i
        · have hij : (i == j) = false := by
            simp
            intro e
            subst e
            rw [own] at ha hd'
            cases ha
          have hij' : ((i : Int) == (j : Int)) = false := by
            simp at hij ⊢
            omega
          rw [hc] at hx
          clear hsl hval lx ly HI HJ HK
          go_wp2
          go_ret
          exact ⟨rfl, hd⟩
        · have hij : (i == j) = false := by
            simp
            intro e
            subst e
            rw [own] at ha hd'
            cases ha
          have hij' : ((i : Int) == (j : Int)) = false := by
            simp at hij ⊢
            omega
          rw [hc] at hx
          clear hsl hval lx ly HI HJ HK
          go_wp2
          go_ret
          exact ⟨rfl, hd⟩
    · cases hc : (allU (uz z) i).testBit k
      · cases hd' : (allU (uz z) j).testBit i
        · have hij : (i == j) = false := by
            simp
            intro e
            subst e
            rw [own] at ha hd'
            cases ha
          have hij' : ((i : Int) == (j : Int)) = false := by
            simp at hij ⊢
            omega
          rw [hc] at hx
          clear hsl hval lx ly HI HJ HK
          go_wp2
          go_ret
          exact ⟨rfl, hd⟩
        · have hij : (i == j) = false := by
            simp
            intro e
            subst e
            rw [own] at ha hd'
            cases ha
          have hij' : ((i : Int) == (j : Int)) = false := by
            simp at hij ⊢
            omega
          rw [hc] at hx
          clear hsl hval lx ly HI HJ HK
          go_wp2
          go_ret
          exact ⟨rfl, hd⟩
      · cases hd' : (allU (uz z) j).testBit i
        · have hij : (i == j) = false := by
            simp
            intro e
            subst e
            rw [own] at ha hd'
            cases ha
          have hij' : ((i : Int) == (j : Int)) = false := by
            simp at hij ⊢
            omega
          rw [hc] at hx
          clear hsl hval lx ly HI HJ HK
          go_wp2
          go_ret
          exact ⟨rfl, hd⟩
        · have hij : (i == j) = false := by
            simp
            intro e
            subst e
            rw [own] at ha hd'
            cases ha
          have hij' : ((i : Int) == (j : Int)) = false := by
            simp at hij ⊢
            omega
          rw [hc] at hx
          clear hsl hval lx ly HI HJ HK
          go_wp2
          go_ret
          exact ⟨rfl, hd⟩
  · cases hb : (allU (uz z) j).testBit k
    · cases hc : (allU (uz z) i).testBit k
      · cases hd' : (allU (uz z) j).testBit i
        · have hsub : bits .andNot .i64 (allU (uz z) j : Int) (allU (uz z) i : Int) = 0 := sub_of_imp ly lx fun l hl => (allU_spec hval hil l).2 (((allU_spec hval hil j).1 ha).trans ((allU_spec hval hjl l).1 hl))
          have hij : (i == j) = false := by
            simp
            intro e
            subst e
            rw [own] at ha hd'
            cases hd'
          have hij' : ((i : Int) == (j : Int)) = false := by
            simp at hij ⊢
            omega
          rw [hc] at hx
          clear hsl hval lx ly HI HJ HK
          go_wp2
          go_ret
          exact ⟨rfl, hd⟩
        · have hsub : bits .andNot .i64 (allU (uz z) j : Int) (allU (uz z) i : Int) = 0 := sub_of_imp ly lx fun l hl => (allU_spec hval hil l).2 (((allU_spec hval hil j).1 ha).trans ((allU_spec hval hjl l).1 hl))
          have e1 := Reach.le hval ((allU_spec hval hil j).1 ha) hil
          have e2 := Reach.le hval ((allU_spec hval hjl i).1 hd') hjl
          obtain rfl : i = j := by omega
          rw [hc] at hx
          clear hsl hval lx ly HI HJ HK
          go_wp2
          go_ret
          exact ⟨rfl, hd⟩
      · cases hd' : (allU (uz z) j).testBit i
        · have hsub : bits .andNot .i64 (allU (uz z) j : Int) (allU (uz z) i : Int) = 0 := sub_of_imp ly lx fun l hl => (allU_spec hval hil l).2 (((allU_spec hval hil j).1 ha).trans ((allU_spec hval hjl l).1 hl))
          have hij : (i == j) = false := by
            simp
            intro e
            subst e
            rw [own] at ha hd'
            cases hd'
          have hij' : ((i : Int) == (j : Int)) = false := by
            simp at hij ⊢
            omega
          rw [hc] at hx
          clear hsl hval lx ly HI HJ HK
          go_wp2
          go_ret
          exact ⟨rfl, hd⟩
        · have hsub : bits .andNot .i64 (allU (uz z) j : Int) (allU (uz z) i : Int) = 0 := sub_of_imp ly lx fun l hl => (allU_spec hval hil l).2 (((allU_spec hval hil j).1 ha).trans ((allU_spec hval hjl l).1 hl))
          have e1 := Reach.le hval ((allU_spec hval hil j).1 ha) hil
          have e2 := Reach.le hval ((allU_spec hval hjl i).1 hd') hjl
          obtain rfl : i = j := by omega
          rw [hc] at hx
          clear hsl hval lx ly HI HJ HK
          go_wp2
          go_ret
          exact ⟨rfl, hd⟩
    · cases hc : (allU (uz z) i).testBit k
      · cases hd' : (allU (uz z) j).testBit i
        · exact absurd ((allU_spec hval hil k).2 (((allU_spec hval hil j).1 ha).trans ((allU_spec hval hjl k).1 hb))) (by rw [hc]; decide)
        · exact absurd ((allU_spec hval hil k).2 (((allU_spec hval hil j).1 ha).trans ((allU_spec hval hjl k).1 hb))) (by rw [hc]; decide)
      · cases hd' : (allU (uz z) j).testBit i
        · have hsub : bits .andNot .i64 (allU (uz z) j : Int) (allU (uz z) i : Int) = 0 := sub_of_imp ly lx fun l hl => (allU_spec hval hil l).2 (((allU_spec hval hil j).1 ha).trans ((allU_spec hval hjl l).1 hl))
          have hij : (i == j) = false := by
            simp
            intro e
            subst e
            rw [own] at ha hd'
            cases hd'
          have hij' : ((i : Int) == (j : Int)) = false := by
            simp at hij ⊢
            omega
          rw [hc] at hx
          clear hsl hval lx ly HI HJ HK
          go_wp2
          go_ret
          exact ⟨rfl, hd⟩
        · have hsub : bits .andNot .i64 (allU (uz z) j : Int) (allU (uz z) i : Int) = 0 := sub_of_imp ly lx fun l hl => (allU_spec hval hil l).2 (((allU_spec hval hil j).1 ha).trans ((allU_spec hval hjl l).1 hl))
          have e1 := Reach.le hval ((allU_spec hval hil j).1 ha) hil
          have e2 := Reach.le hval ((allU_spec hval hjl i).1 hd') hjl
          obtain rfl : i = j := by omega
          rw [hc] at hx
          clear hsl hval lx ly HI HJ HK
          go_wp2
          go_ret
          exact ⟨rfl, hd⟩

theorem roleAll_walk (a0 : Option Addr) (n cap0 : Nat) (zs : List Int) (a1 a2 a3 : Int) (w : World) (h : IsRow .i64 w a0 n cap0 zs) :
    Calls Try.prog 8 #[.slice a0 n cap0, .int .i64 a1, .int .i64 a2, .int .i64 a3] w fun e w' => e = .returned (.bool true) ∧ Below w.heap.size w w' := by
  obtain ⟨hs, hn, hcap⟩ := h.sl
  rcases Nat.eq_zero_or_pos n with rfl | h0
  · exact roleAll_empty a0 cap0 a1 a2 a3 w hcap
  · exact roleAll_pos a0 n cap0 _ a1 a2 a3 w hs h0 hn hcap
end Go.Proofs.Ythbimgibpiejcaa
