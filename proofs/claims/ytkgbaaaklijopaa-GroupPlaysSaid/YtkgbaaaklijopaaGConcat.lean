/- slices.Concat of lists of strings. -/
import Derived.Test.YtkgbaaaklijopaaGBase
set_option linter.unusedVariables false
set_option linter.unusedSimpArgs false
set_option maxRecDepth 100000
namespace Go.Proofs.Ytkgbaaaklijopaa
open Go.RowKit Go.Sort

theorem growS_any (k : Nat) (w : World) (hk : k ≤ 100000) : Calls Try.prog 40 #[.slice none 0 0, .int .i64 k] w (NewS w.heap.size [] w) := by
  obtain ⟨i0, hi, hz0, hz1, hz2⟩ := info_parts Try.infoStr
  have h1 : ¬ ((k : Int) < 0) := by omega
  by_cases h0 : k = 0
  · subst h0
    go_enter Try.func40, Try.ntmps40
    go_wp2_with fail
    go_ret
    exact ⟨none, 0, rfl, World.ownsRow_nil _ _ _ _, Below.refl _ _⟩
  · have h2 : (k : Int) > 0 := by omega
    have hrz : ∀ ty, (Builtin.append_ #[23, 3] ty #[.slice none 0 0, .int .i64 (k : Int)]).run Try.prog w = .ok (.slice (some ⟨w.heap.size, 0, none⟩) k (grownCap w k 0 9)) (w.drew.alloc (.cells (#[] ++ Builtin.zeroCells (Value.cells (.string ⟨#[]⟩)) k ++ Builtin.zeroCells (Value.cells (.string ⟨#[]⟩)) (grownCap w k 0 9 - k)) 9)) := fun ty => by
      have h := Lib.run_append_grow_zeros w 23 3 ty 9 i0 _ .i64 .i64 Try.underlying23 Try.underlying3 hi hz0 none 0 0 [] (run_firstCells_none w.drew i0.size 0 0 0) k (by omega) (by omega) (by omega) (by omega) (by rw [hz2]; omega) (by rw [nextslicecap_zero (by omega), hz2]; omega)
      simpa using h
    obtain ⟨C, hC⟩ : ∃ C, grownCap w k 0 9 = C := ⟨_, rfl⟩
    have hCk : k ≤ C := by rw [← hC]; have := grownCap_ge w k 0 9; omega
    have hC63 : C ≤ maxLen := by rw [← hC]; exact grownCap_le_maxLen w k 0 9 (by unfold maxLen; omega)
    rw [hC] at hrz
    obtain ⟨cs, hcs⟩ : ∃ cs, #[] ++ Builtin.zeroCells (Value.cells (.string ⟨#[]⟩)) k ++ Builtin.zeroCells (Value.cells (.string ⟨#[]⟩)) (C - k) = cs := ⟨_, rfl⟩
    have hsz : cs.size = C * 1 := by
      rw [← hcs, Array.size_append, Array.size_append, size_zeroCells, size_zeroCells]
      simp [Value.cells]
      omega
    rw [hcs] at hrz
    have HZ := Lib.hid hrz
    clear hrz hcs hC
    have hC' : (C : Int) ≤ 9223372036854775807 := by unfold maxLen at hC63; omega
    go_enter Try.func40, Try.ntmps40
    go_wp2_with (at_builtin; refine Lib.wpList_append_run _ rfl _ _ _ _ rfl _ _ rfl rfl _ _ (HZ.out _) ?_)
    go_ret
    refine ⟨some ⟨w.heap.size, 0, none⟩, C, rfl, ?_, ?_⟩
    · exact World.ownsRow_made w.drew cs C (Nat.le_refl _) hC63 hsz
    · exact Below.alloc (⟨rfl, rfl, rfl, Nat.le_refl _, fun _ _ => rfl⟩ : Below w.heap.size w w.drew) (Nat.le_refl _) _

def joinS (q : List (List ByteArray)) (k : Nat) : List ByteArray := (q.take k).flatten
theorem joinS_succ {q : List (List ByteArray)} {k : Nat} {l : List ByteArray} (h : q[k]? = some l) : joinS q (k + 1) = joinS q k ++ l := by
  unfold joinS
  rw [List.take_add_one, h, List.flatten_append]
  simp
theorem joinS_le {q : List (List ByteArray)} (h : ∀ l ∈ q, l.length ≤ 10000) : ∀ k, (joinS q k).length ≤ k * 10000
  | 0 => by simp [joinS]
  | k + 1 => by
    have ih := joinS_le h k
    cases e : q[k]? with
    | none =>
      have : joinS q (k + 1) = joinS q k := by
        unfold joinS
        rw [List.take_add_one, e]
        simp
      rw [this]
      omega
    | some l =>
      rw [joinS_succ e, List.length_append]
      have := h l (List.mem_of_getElem? e)
      omega

theorem concatS_any (g : Nat) (q : List (List ByteArray)) (A : Nat → Option Addr) (cs : Nat → Nat) (w : World) (hN : q.length ≤ 5) (hn : ∀ l ∈ q, l.length ≤ 10000)
    (hs : ∀ i l, q[i]? = some l → SlS w (A i) l ∧ w.cell? ⟨g, i, none⟩ = some (.slice (A i) l.length (cs i))) :
    Calls Try.prog 31 #[.slice (some ⟨g, 0, none⟩) q.length q.length] w (NewS w.heap.size q.flatten w) := by
  have hle := joinS_le hn
  have hsum : ∀ k, k ≤ q.length → (joinS q k).length ≤ 50000 := fun k hk => by
    have := hle k
    omega
  have hall : joinS q q.length = q.flatten := by unfold joinS; rw [List.take_length]
  have HG := Lib.hid (growS_any (joinS q q.length).length w (by have := hsum q.length (Nat.le_refl _); omega))
  have HS := Lib.hid hs; have HSUM := Lib.hid hsum; have HNS := Lib.hid hn; have HALL := Lib.hid hall
  clear hs hsum hn hle hall
  obtain ⟨N, hNq⟩ : ∃ N, N = q.length := ⟨_, rfl⟩
  have HNQ := Lib.hid hNq
  rw [← hNq] at hN ⊢
  clear hNq
  go_enter Try.func31, Try.ntmps31
  go_wp2_with fail
  go_loop [3, 11] (fun s i => ∃ k : Nat, k ≤ N ∧ i = .int .i64 k ∧ s = .int .i64 ((joinS q k).length : Nat)) (fun _ i => N - (intOf i).toNat)
  case atStart => exact ⟨0, Nat.zero_le _, rfl, rfl⟩
  case round =>
    obtain ⟨k, hk, rfl, rfl⟩ := hrel
    have hs1 := HSUM.out k (by rw [← HNQ.out]; exact hk)
    obtain ⟨S, hS⟩ : ∃ S, (joinS q k).length = S := ⟨_, rfl⟩
    rw [hS] at hs1 ⊢
    by_cases hlt : k < N
    · obtain ⟨l, hl⟩ : ∃ l, q[k]? = some l := ⟨_, List.getElem?_eq_getElem (by rw [← HNQ.out]; exact hlt)⟩
      obtain ⟨_, hck⟩ := HS.out k l hl
      have hnk := HNS.out l (List.mem_of_getElem? hl)
      have hst : Hid ((joinS q (k + 1)).length = S + l.length) := by show (joinS q (k + 1)).length = _; rw [joinS_succ hl, List.length_append, hS]
      clear hS hl
      have b1 : ¬ ((S : Int) + (l.length : Int) < 0) := by omega
      go_wp2_with fail
      go_round
      case rel => exact ⟨k + 1, by omega, by go_num, by rw [hst.out]; go_num⟩
      case measure => simp [intOf]; omega
    · obtain rfl : k = N := by omega
      have HSS := Lib.hid hS
      clear hS
      rw [← HNQ.out, HSS.out] at HG
      go_wp2_with fail
      refine HG.out.mono ?_
      rintro e w1 ⟨A1, c1, rfl, ho1, hb1⟩
      have HO1 := Lib.hid ho1
      clear ho1
      go_wp2_with fail
      go_loopw [6, 27] (fun s i wr => ∃ (j : Nat) (A' : Option Addr) (c' : Nat), j ≤ k ∧ i = .int .i64 j ∧ s = .slice A' (joinS q j).length c' ∧ Hid (OwnS w.heap.size wr (.slice A' (joinS q j).length c') (joinS q j)) ∧ Below w.heap.size w wr) (fun _ i _ => k - (intOf i).toNat)
      case atStart => exact ⟨0, A1, c1, Nat.zero_le _, rfl, rfl, HO1.out, hb1⟩
      case round =>
        obtain ⟨j, A', c', hj, rfl, rfl, hO, hB⟩ := hrel
        by_cases hjk : j < k
        · obtain ⟨l, hl⟩ : ∃ l, q[j]? = some l := ⟨_, List.getElem?_eq_getElem (by rw [← HNQ.out]; exact hjk)⟩
          obtain ⟨hsl, hcl⟩ := HS.out j l hl
          have hcj := (hB.cell (p := ⟨g, j, none⟩) (cell_lt hcl)).trans hcl
          have hnj := HNS.out l (List.mem_of_getElem? hl)
          obtain ⟨A2, c2, w2, hrun, ho2, hb2⟩ := run_appS (c := cs j) 23 hO.out (hsl.below hB) (by have := HSUM.out j (by rw [← HNQ.out]; omega); omega) hB.size
          rw [← joinS_succ hl] at hrun ho2
          have HO2 := Lib.hid ho2
          have hB2 : Below w.heap.size w w2 := hB.trans hb2
          have HR := Lib.hid hrun
          clear ho2 hb2 hrun hsl hcl hl
          go_wp2_with (at_builtin; refine Lib.wpList_append_run _ rfl _ _ _ _ rfl _ _ rfl rfl _ _ HR.out ?_)
          go_roundw
          case rel => exact ⟨j + 1, A2, c2, by omega, by go_num, rfl, HO2.out, hB2⟩
          case measure => simp [intOf]; omega
        · obtain rfl : j = k := by omega
          have hO2 := hO.out
          rw [HNQ.out, HALL.out] at hO2
          have HOO := Lib.hid hO2
          rw [HNQ.out, HALL.out]
          clear hO2
          go_wp2_with fail
          go_ret
          exact ⟨A', c', rfl, HOO.out, hB⟩
theorem concatS_two (bs n1 n2 : Nat) (q1 q2 : List ByteArray) (A1 A2 : Option Addr) (c1 c2 : Nat) (W : World) (l1 : q1.length = n1) (l2 : q2.length = n2) (h1 : SlS W A1 q1) (h2 : SlS W A2 q2) (m1 : n1 ≤ 10000) (m2 : n2 ≤ 10000)
    (e1 : W.cell? ⟨bs, 0, none⟩ = some (.slice A1 n1 c1)) (e2 : W.cell? ⟨bs, 1, none⟩ = some (.slice A2 n2 c2)) :
    Calls Try.prog 31 #[.slice (some ⟨bs, 0, none⟩) 2 2] W (NewS W.heap.size (q1 ++ q2) W) := by
  have h := concatS_any bs [q1, q2] (fun i => if i = 0 then A1 else A2) (fun i => if i = 0 then c1 else c2) W (by simp) (fun l hl => by
    rcases List.mem_cons.1 hl with rfl | hl
    · omega
    · rw [List.mem_singleton.1 hl]
      omega) (fun i l hl => by
    match i, hl with
    | 0, hl =>
      have e : l = q1 := by simpa using hl.symm
      subst e
      exact ⟨h1, by simpa [l1] using e1⟩
    | 1, hl =>
      have e : l = q2 := by simpa using hl.symm
      subst e
      exact ⟨h2, by simpa [l2] using e2⟩
    | i + 2, hl => simp at hl)
  simpa using h
theorem concatS_is (bs n1 n2 : Nat) (L q1 q2 : List ByteArray) (A1 A2 : Option Addr) (c1 c2 : Nat) (W : World) (hL : q1 ++ q2 = L) (l1 : q1.length = n1) (l2 : q2.length = n2) (h1 : SlS W A1 q1) (h2 : SlS W A2 q2) (m1 : n1 ≤ 10000) (m2 : n2 ≤ 10000)
    (e1 : W.cell? ⟨bs, 0, none⟩ = some (.slice A1 n1 c1)) (e2 : W.cell? ⟨bs, 1, none⟩ = some (.slice A2 n2 c2)) :
    Calls Try.prog 31 #[.slice (some ⟨bs, 0, none⟩) 2 2] W (NewS W.heap.size L W) := by
  subst hL
  exact concatS_two bs n1 n2 q1 q2 A1 A2 c1 c2 W l1 l2 h1 h2 m1 m2 e1 e2
end Go.Proofs.Ytkgbaaaklijopaa
