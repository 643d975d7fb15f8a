/- The walk of RoleMore. -/
import Derived.Test.YthbimgibpiejcaaRoleAll
import Derived.Test.YthbimgibpiejcaaClone
import Derived.Deep.CutRange
import Derived.Deep.RegionWith
set_option linter.unusedVariables false
set_option linter.unusedSimpArgs false
namespace Go.Proofs.Ythbimgibpiejcaa
open Go.RowKit

/-- with role l, that comes with role i, besides -/
def withOne (u : Nat → Nat) (i l : Nat) (k : Nat) : Nat := if k = i then u i ||| 2 ^ l else u k

theorem withOne_valid {m : Nat} {u : Nat → Nat} (hv : Valid m u) {i l : Nat} (hl : l < i) : Valid m (withOne u i l) :=
  ⟨hv.1, fun k hk => by
    unfold withOne
    split
    · rename_i e
      subst e
      exact Nat.or_lt_two_pow (hv.2 k hk) (Nat.pow_lt_pow_right (show 1 < 2 by omega) hl)
    · exact hv.2 k hk⟩

theorem withOne_reach {u : Nat → Nat} {i l a b : Nat} (h : Reach u a b) : Reach (withOne u i l) a b := by
  induction h with
  | refl _ => exact .refl _
  | @step a k b hb _ ih =>
    refine .step (k := k) ?_ ih
    unfold withOne
    split
    · rename_i e
      subst e
      rw [Nat.testBit_or, hb]
      rfl
    · exact hb

theorem SlV.less {w : World} {a : Option Addr} {n n' : Nat} {u : Nat → Nat} (h : SlV w a n u) (hn : n' ≤ n) : SlV w a n' u :=
  ⟨fun k hk => h.1 k (by omega), by have := h.2.1; omega, fun k hk => h.2.2 k (by omega)⟩

/-- what the statement that writes leaves -/
def MoreIs (w : World) (g g' m : Nat) (u u' : Nat → Nat) (wc : World) : Prop :=
  SlV wc (some ⟨g, 0, none⟩) m u ∧ SlV wc (some ⟨g', 0, none⟩) m u' ∧ Below w.heap.size w wc

theorem moreIs_of {w w2 w3 : World} {g g' m i l : Nat} {u : Nat → Nat} {v : Value} (hil : i < m) (hll : l < i) (hB3 : Below w.heap.size w w3) (hslb : SlV w3 (some ⟨g, 0, none⟩) m u) (hgg : g < w2.heap.size) (hg' : w2.heap.size ≤ g') (hw : w.heap.size ≤ w2.heap.size)
    (hc : ∀ k, k < m → w3.cell? ⟨g', k, none⟩ = some (.int .i64 (u k : Nat))) (hv : v = .int .i64 ((u i ||| 2 ^ l : Nat) : Int)) : MoreIs w g g' m u (withOne u i l) (w3.drew.setCell ⟨g', i, none⟩ v) := by
  refine ⟨⟨fun k hk => ?_, hslb.2⟩, ⟨fun k hk => ⟨g', 0, rfl, ?_⟩, withOne_valid hslb.2 hll⟩, hB3.drew.setCell (by show w.heap.size ≤ g'; omega) _⟩
  · obtain ⟨b, off, he, hcell⟩ := hslb.1 k hk
    refine ⟨b, off, he, ?_⟩
    cases he
    rw [World.cell?_setCell_other]
    · exact hcell
    · intro e
      have := congrArg Addr.block e
      simp at this
      omega
  · rw [Nat.zero_add]
    have hcc : w3.drew.cell? ⟨g', k, none⟩ = some (.int .i64 (u k : Nat)) := hc k hk
    show (w3.drew.setCell ⟨g', i, none⟩ v).cell? ⟨g', k, none⟩ = some (Value.int .i64 ((withOne u i l k : Nat) : Int))
    by_cases hki : k = i
    · subst hki
      rw [World.cell?_setCell_same _ _ _ hcc, hv]
      unfold withOne
      rw [if_pos rfl]
    · rw [World.cell?_setCell_other]
      · unfold withOne
        rw [if_neg hki]
        exact hcc
      · intro e
        have := congrArg Addr.off e
        simp at this
        omega

set_option maxHeartbeats 400000 in
theorem roleMore_empty (a0 : Option Addr) (cap0 : Nat) (a1 a2 : Int) (w : World) (hcap : cap0 ≤ maxLen) :
    Calls Try.prog 9 #[.slice a0 0 cap0, .int .i64 a1, .int .i64 a2] w fun e w' => e = .returned (.bool true) ∧ Below w.heap.size w w' := by
  have h3 := slv_two w 0 0 (by omega) (by omega)
  go_enter Try.func9, Try.ntmps9
  go_wp2_with fail
  refine (all_valid 2 1 _ h3 (by omega)).mono ?_
  rintro e w' ⟨rfl, rfl⟩
  rw [show allU (fun k => [0, 0].getD k 0) 1 = 2 from by decide]
  go_wp2_with fail
  refine (ups_zero a0 cap0 (fun _ => 0) _ hcap).mono ?_
  rintro e w2 ⟨rfl, hb2⟩
  go_wp2_with fail
  go_ret
  exact ⟨rfl, ((Below.refl _ _).alloc (Nat.le_refl _) _).trans (hb2.mono (by simp))⟩

set_option maxRecDepth 100000 in
set_option maxHeartbeats 2000000 in
theorem roleMore_pos (a0 : Option Addr) (n cap0 : Nat) (z : Nat → Int) (a1 a2 : Int) (w : World) (hs : Sl w a0 n z) (h0 : 0 < n) (hn : n ≤ cap0) (hcap : cap0 ≤ maxLen) :
    Calls Try.prog 9 #[.slice a0 n cap0, .int .i64 a1, .int .i64 a2] w fun e w' => e = .returned (.bool true) ∧ Below w.heap.size w w' := by
  have h3 := slv_two w 0 0 (by omega) (by omega)
  obtain ⟨m, hm⟩ : ∃ m, min n 8 = m := ⟨_, rfl⟩
  obtain ⟨i, hi⟩ : ∃ i, wit a1 (m : Int) = i := ⟨_, rfl⟩
  obtain ⟨j, hj⟩ : ∃ j, wit a2 (m : Int) = j := ⟨_, rfl⟩
  obtain ⟨l, hl⟩ : ∃ l, wit a2 (i : Int) = l := ⟨_, rfl⟩
  have hmp : 0 < m := by omega
  have hm8 : m ≤ 8 := by omega
  have hil : i < m := by have := wit_lt a1 m (by omega); omega
  have hjl : j < m := by have := wit_lt a2 m (by omega); omega
  have hup := fun w' (hb : Below w.heap.size w w') => ups_pos a0 n cap0 z w' (hs.below hb) h0 hn hcap
  rw [hm] at hup
  have HI := Lib.hid hi; have HJ := Lib.hid hj; have HL := Lib.hid hl
  have HS := Lib.hid hs; have HU := Lib.hid hup
  clear hi hj hl hs hup hm
  go_enter Try.func9, Try.ntmps9
  go_wp2_with fail
  refine (all_valid 2 1 _ h3 (by omega)).mono ?_
  rintro e w' ⟨rfl, rfl⟩
  rw [show allU (fun k => [0, 0].getD k 0) 1 = 2 from by decide]
  go_wp2_with fail
  refine (HU.out _ ((Below.refl _ _).alloc (Nat.le_refl _) _)).mono ?_
  rintro e w2 ⟨g, c, rfl, hat, hb2⟩
  have hB2 : Below w.heap.size w w2 := ((Below.refl _ _).alloc (Nat.le_refl _) _).trans (hb2.mono (by simp))
  have hsl := hat.slv
  have hval := hsl.2
  have hglt := hat.hi
  have hgcells := hat.row.cells (g := g) rfl
  have hmc := hat.le
  have hmx := hat.max
  unfold maxLen at hmx
  have hz2 := hB2.size
  have HG := Lib.hid hgcells
  clear hat hb2 h3 HU HS hgcells
  go_wp2_with fail
  refine (within_to HI.out _ (by omega) (by omega)).mono ?_
  rintro e w' ⟨rfl, rfl⟩
  go_wp2_with fail
  refine (clone_any g m c (uvals z m) w2 hmp hm8 (by simp [uvals]) (by intro u hu; simp [uvals] at hu; obtain ⟨_, _, rfl⟩ := hu; rfl) HG.out hglt).mono ?_
  rintro e w3 ⟨g', c', rfl, hown', hb3⟩
  have hB3 : Below w.heap.size w w3 := hB2.trans (hb3.mono hz2)
  have hslb := hsl.below hb3
  have hg' := (hown'.lt g' rfl)
  have hz3 := hB3.size
  have hc' : ∀ k, k < m → w3.cell? ⟨g', k, none⟩ = some (.int .i64 (uz z k : Nat)) := fun k hk => by
    have := hown'.cells (g := g') rfl k _ (uvals_get hk)
    have hadd : (⟨g', 0, none⟩ : Addr).add k = ⟨g', k, none⟩ := by unfold Addr.add; split <;> simp_all
    rw [hadd] at this
    exact this
  have hf : w3.frozen? ⟨g', i, none⟩ = false := hown'.frozenAt i
  have ci := hc' i hil
  have HC := Lib.hid hc'
  have HS2 := Lib.hid hslb
  clear hc' hown' hslb hsl HG hb3
  by_cases hi0 : 0 < i
  · have hll : l < i := by have := wit_lt a2 i (by omega); have := HL.out; omega
    have hi0' : (0 : Int) < i := by omega
    have hsh : Hid (bits .or .i64 (uz z i : Int) (wrap64 ((2 : Int) ^ l)) = ((uz z i ||| 2 ^ l : Nat) : Int)) := by
      have h1 := hval.2 i hil
      have h2 := pow_le_128 (k := i) (by omega)
      have h3 := pow_le_128 (k := l) (by omega)
      show _ = _
      rw [shl_one (by omega), i64_or _ _ (by omega) (by omega)]
    go_upto_region 10 with (fail)
    go_cut [] from 44 to 53 (fun wc => MoreIs w g g' m (uz z) (withOne (uz z) i l) wc)
    case first =>
      go_region_with (go_at_call 33; refine (within_to HL.out _ (by omega) (by omega)).mono ?_; rintro e w' ⟨rfl, rfl⟩)
      all_goals (go_wp2_with fail; go_meet)
      all_goals
        case rel => exact moreIs_of hil hll hB3 HS2.out hglt hg'.1 hz2 HC.out (by rw [IntWalk.i64_left, hsh.out])
    case rest =>
      obtain ⟨s1, s2, hBc⟩ := hcut
      have hV2 := s2.2
      have hsub : bits .andNot .i64 (allU (uz z) j : Int) (allU (withOne (uz z) i l) j : Int) = 0 :=
        sub_of_imp (allU_lt hval hjl) (allU_lt hV2 hjl) fun b hb => (allU_spec hV2 hjl b).2 (withOne_reach ((allU_spec hval hjl b).1 hb))
      go_wp2_with fail
      refine (within_to HJ.out _ (by omega) (by omega)).mono ?_
      rintro e w' ⟨rfl, rfl⟩
      go_wp2_with fail
      refine (all_valid c j _ s1 hjl).mono ?_
      rintro e w' ⟨rfl, rfl⟩
      go_wp2_with fail
      refine (all_valid c' j _ s2 hjl).mono ?_
      rintro e w' ⟨rfl, rfl⟩
      go_wp2_with fail
      refine (all_valid c i _ (s1.less (n' := i + 1) (by omega)) (by omega)).mono ?_
      rintro e w' ⟨rfl, rfl⟩
      go_wp2_with fail
      refine (all_valid c i _ s1 hil).mono ?_
      rintro e w' ⟨rfl, rfl⟩
      go_wp2_with fail
      go_ret
      exact ⟨rfl, hBc⟩
  · have hi0' : ¬ (0 : Int) < i := by omega
    have s2 : SlV w3 (some ⟨g', 0, none⟩) m (uz z) := ⟨fun k hk => ⟨g', 0, rfl, by rw [Nat.zero_add]; exact HC.out k hk⟩, hval⟩
    have hsub : bits .andNot .i64 (allU (uz z) j : Int) (allU (uz z) j : Int) = 0 :=
      sub_of_imp (allU_lt hval hjl) (allU_lt hval hjl) fun b hb => hb
    have HS3 := Lib.hid s2
    clear s2 hi0
    go_wp2_with fail
    refine (within_to HJ.out _ (by omega) (by omega)).mono ?_
    rintro e w' ⟨rfl, rfl⟩
    go_wp2_with fail
    refine (all_valid c j _ HS2.out hjl).mono ?_
    rintro e w' ⟨rfl, rfl⟩
    go_wp2_with fail
    refine (all_valid c' j _ HS3.out hjl).mono ?_
    rintro e w' ⟨rfl, rfl⟩
    go_wp2_with fail
    refine (all_valid c i _ (HS2.out.less (n' := i + 1) (by omega)) (by omega)).mono ?_
    rintro e w' ⟨rfl, rfl⟩
    go_wp2_with fail
    refine (all_valid c i _ HS2.out hil).mono ?_
    rintro e w' ⟨rfl, rfl⟩
    go_wp2_with fail
    go_ret
    exact ⟨rfl, hB3⟩

theorem roleMore_walk (a0 : Option Addr) (n cap0 : Nat) (zs : List Int) (a1 a2 : Int) (w : World) (h : IsRow .i64 w a0 n cap0 zs) :
    Calls Try.prog 9 #[.slice a0 n cap0, .int .i64 a1, .int .i64 a2] w fun e w' => e = .returned (.bool true) ∧ Below w.heap.size w w' := by
  obtain ⟨hs, hn, hcap⟩ := h.sl
  rcases Nat.eq_zero_or_pos n with rfl | h0
  · exact roleMore_empty a0 cap0 a1 a2 w hcap
  · exact roleMore_pos a0 n cap0 _ a1 a2 w hs h0 hn hcap
end Go.Proofs.Ythbimgibpiejcaa
