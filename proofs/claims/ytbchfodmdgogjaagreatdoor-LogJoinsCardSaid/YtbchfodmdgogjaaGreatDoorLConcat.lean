/- slices.Grow and slices.Concat at lists of operations. -/
import Derived.Test.YtbchfodmdgogjaaGreatDoorLOpsR
import Derived.Test.YtbchfodmdgogjaaGreatDoorFApp
set_option linter.unusedVariables false
set_option linter.unusedSimpArgs false
set_option maxRecDepth 100000
namespace Go.Proofs.YtbchfodmdgogjaaGreatDoor
open Go.RowKit Go.Sort

theorem SlO.len0 {w : World} {l : List OO} (h : SlO w none l) : l = [] := by
  cases l with
  | nil => rfl
  | cons x r =>
    obtain ⟨_, b, off, e, _⟩ := h 0 x rfl
    cases e
theorem cellsO_of : ∀ {l : List OO} {j : Nat} {u : Value}, (cellsO l)[j]? = some u → ∃ k x i, l[k]? = some x ∧ j = k * 12 + i ∧ x.cells[i]? = some u
  | [], j, u, h => by simp [cellsO] at h
  | x :: r, j, u, h => by
    rw [cellsO_cons] at h
    by_cases hj : j < 12
    · rw [List.getElem?_append_left (by show j < 12; exact hj)] at h
      exact ⟨0, x, j, rfl, by omega, h⟩
    · rw [List.getElem?_append_right (by show 12 ≤ j; omega)] at h
      obtain ⟨k, y, i, h1, h2, h3⟩ := cellsO_of h
      have e : x.cells.length = 12 := rfl
      rw [e] at h2
      exact ⟨k + 1, y, i, h1, by omega, h3⟩
theorem SlO.cells {w : World} {ad : Addr} {l : List OO} (h : SlO w (some ad) l) : ∀ j u, (cellsO l)[j]? = some u → w.cell? (ad.add j) = some u := fun j u hj => by
  obtain ⟨k, x, i, hx, rfl, hu⟩ := cellsO_of hj
  obtain ⟨_, b, off, e, h0, h1, h2, h3, h4, h5, h6, h7, h8, h9, h10, h11⟩ := h k x hx
  cases e
  have hadd : (⟨b, off, none⟩ : Addr).add (k * 12 + i) = ⟨b, off + k * 12 + i, none⟩ := by
    unfold Addr.add
    split <;> simp_all <;> omega
  rw [hadd]
  match i, hu with
  | 0, hu => cases hu; exact h0
  | 1, hu => cases hu; exact h1
  | 2, hu => cases hu; exact h2
  | 3, hu => cases hu; exact h3
  | 4, hu => cases hu; exact h4
  | 5, hu => cases hu; exact h5
  | 6, hu => cases hu; exact h6
  | 7, hu => cases hu; exact h7
  | 8, hu => cases hu; exact h8
  | 9, hu => cases hu; exact h9
  | 10, hu => cases hu; exact h10
  | 11, hu => cases hu; exact h11
  | i + 12, hu => simp [OO.cells] at hu
def NewOps (B : Nat) (fs : List OO) (w : World) (e : Ending) (w' : World) : Prop := ∃ A c, e = .returned (.slice A fs.length c) ∧ OwnO B w' (.slice A fs.length c) fs ∧ Below B w w'

/-- append of whatever list of fields, nil or not, onto one's own -/
theorem run_appOp {w : World} (ty : TypeId) {B c : Nat} {v : Value} {fs q : List OO} {A : Option Addr} (hown : OwnO B w v fs) (hq : SlO w A q) (hn : fs.length + q.length ≤ 40000) (hB : B ≤ w.heap.size) :
    ∃ A' c' w', (Builtin.append_ #[36, 36] ty #[v, .slice A q.length c]).run Tryz.prog w = .ok (.slice A' (fs ++ q).length c') w' ∧ OwnO B w' (.slice A' (fs ++ q).length c') (fs ++ q) ∧ Below B w w' := by
  obtain ⟨i0, hi, hz0, hz1, hz2⟩ := info_parts Tryz.infoOp
  cases A with
  | none =>
    have h0 : q = [] := by
      exact hq.len0
    subst h0
    obtain ⟨A', c', rfl⟩ := hown.form
    refine ⟨A', c', w, ?_, by simpa using hown, Below.refl _ _⟩
    rcases hown.2 with ⟨e, h0⟩ | ⟨g, cap, cur, e, _, _, hnc, _⟩
    · injection e with e1 e2 e3
      subst e1 e3
      simp [Builtin.append_, run_underlying Tryz.underlying36, sizeOf, typeInfo, hi, Builtin.lenOf, Builtin.firstCells, h0]
    · cases e
      simp [Builtin.append_, run_underlying Tryz.underlying36, sizeOf, typeInfo, hi, Builtin.lenOf, Builtin.firstCells, hnc, storeCells]
  | some ad =>
    obtain ⟨v', w', hrun, hown', hgrow, _⟩ := run_append_own (P := Tryz.prog) w B 36 ty 32 i0 _ 12 176 Tryz.underlying36 hi hz0 hz1 hz2 rfl (by decide) v fs.length (cellsO fs) hown ad q.length c (cellsO q) (cellsO_len q) hq.cells (cellsO_one q) (by unfold maxLen; omega) (by omega) hB
    have ho : OwnO B w' v' (fs ++ q) := by
      unfold OwnO
      rw [cellsO_append, List.length_append]
      exact hown'
    obtain ⟨A', c', rfl⟩ := ho.form
    refine ⟨A', c', w', hrun, ho, hgrow.os, hgrow.tape, hgrow.output, hgrow.size, fun i hi => hgrow.block i (by omega) fun e => ?_⟩
    have := (World.ownsRow.lt hown i e.symm).1
    omega

set_option maxHeartbeats 1000000 in
theorem growOp_any (k : Nat) (w : World) (hk : k ≤ 40000) : Calls Tryz.prog 42 #[.slice none 0 0, .int .i64 k] w (NewOps w.heap.size [] w) := by
  obtain ⟨i0, hi, hz0, hz1, hz2⟩ := info_parts Tryz.infoOp
  have h1 : ¬ ((k : Int) < 0) := by omega
  by_cases h0 : k = 0
  · subst h0
    go_enter Tryz.func42, Tryz.ntmps42
    go_wp2_with fail
    go_ret
    exact ⟨none, 0, rfl, World.ownsRow_nil _ _ _ _, Below.refl _ _⟩
  · have h2 : (k : Int) > 0 := by omega
    have hrz : ∀ ty, (Builtin.append_ #[36, 3] ty #[.slice none 0 0, .int .i64 (k : Int)]).run Tryz.prog w = .ok (.slice (some ⟨w.heap.size, 0, none⟩) k (grownCap w k 0 32)) (w.drew.alloc (.cells (#[] ++ Builtin.zeroCells (Value.cells (.agg #[.int .i64 0, .int .i64 0, .int .i64 0, .int .i64 0, .slice none 0 0, .string ⟨#[]⟩, .int .i64 0, .slice none 0 0, .slice none 0 0, .string ⟨#[]⟩, .string ⟨#[]⟩, .string ⟨#[]⟩])) k ++ Builtin.zeroCells (Value.cells (.agg #[.int .i64 0, .int .i64 0, .int .i64 0, .int .i64 0, .slice none 0 0, .string ⟨#[]⟩, .int .i64 0, .slice none 0 0, .slice none 0 0, .string ⟨#[]⟩, .string ⟨#[]⟩, .string ⟨#[]⟩])) (grownCap w k 0 32 - k)) 32)) := fun ty => by
      have h := Lib.run_append_grow_zeros w 36 3 ty 32 i0 _ .i64 .i64 Tryz.underlying36 Tryz.underlying3 hi hz0 none 0 0 [] (run_firstCells_none w.drew i0.size 0 0 0) k (by omega) (by omega) (by omega) (by omega) (by rw [hz2]; omega) (by rw [nextslicecap_zero (by omega), hz2]; omega)
      simpa using h
    obtain ⟨C, hC⟩ : ∃ C, grownCap w k 0 32 = C := ⟨_, rfl⟩
    have hCk : k ≤ C := by rw [← hC]; have := grownCap_ge w k 0 32; omega
    have hC63 : C ≤ maxLen := by rw [← hC]; exact grownCap_le_maxLen w k 0 32 (by unfold maxLen; omega)
    rw [hC] at hrz
    obtain ⟨cs, hcs⟩ : ∃ cs, #[] ++ Builtin.zeroCells (Value.cells (.agg #[.int .i64 0, .int .i64 0, .int .i64 0, .int .i64 0, .slice none 0 0, .string ⟨#[]⟩, .int .i64 0, .slice none 0 0, .slice none 0 0, .string ⟨#[]⟩, .string ⟨#[]⟩, .string ⟨#[]⟩])) k ++ Builtin.zeroCells (Value.cells (.agg #[.int .i64 0, .int .i64 0, .int .i64 0, .int .i64 0, .slice none 0 0, .string ⟨#[]⟩, .int .i64 0, .slice none 0 0, .slice none 0 0, .string ⟨#[]⟩, .string ⟨#[]⟩, .string ⟨#[]⟩])) (C - k) = cs := ⟨_, rfl⟩
    have hsz : cs.size = C * 12 := by
      rw [← hcs, Array.size_append, Array.size_append, size_zeroCells, size_zeroCells]
      simp [Value.cells]
      omega
    rw [hcs] at hrz
    have HZ := Lib.hid hrz
    clear hrz hcs hC
    have hC' : (C : Int) ≤ 9223372036854775807 := by unfold maxLen at hC63; omega
    go_enter Tryz.func42, Tryz.ntmps42
    go_wp2_with (at_builtin; refine Lib.wpList_append_run _ rfl _ _ _ _ rfl _ _ rfl rfl _ _ (HZ.out _) ?_)
    go_ret
    refine ⟨some ⟨w.heap.size, 0, none⟩, C, rfl, ?_, ?_⟩
    · exact World.ownsRow_made w.drew cs C (Nat.le_refl _) hC63 hsz
    · exact Below.alloc (⟨rfl, rfl, rfl, Nat.le_refl _, fun _ _ => rfl⟩ : Below w.heap.size w w.drew) (Nat.le_refl _) _

/-- the first k lists, one behind the other -/
def joinOps (q : List (List OO)) (k : Nat) : List OO := (q.take k).flatten
theorem joinOps_succ {q : List (List OO)} {k : Nat} {l : List OO} (h : q[k]? = some l) : joinOps q (k + 1) = joinOps q k ++ l := by
  unfold joinOps
  rw [List.take_add_one, h, List.flatten_append]
  simp
theorem joinOps_le {q : List (List OO)} (h : ∀ l ∈ q, l.length ≤ 5200) : ∀ k, (joinOps q k).length ≤ k * 5200
  | 0 => by simp [joinOps]
  | k + 1 => by
    have ih := joinOps_le h k
    cases e : q[k]? with
    | none =>
      have : joinOps q (k + 1) = joinOps q k := by
        unfold joinOps
        rw [List.take_add_one, e]
        simp
      rw [this]
      omega
    | some l =>
      rw [joinOps_succ e, List.length_append]
      have := h l (List.mem_of_getElem? e)
      omega

set_option maxRecDepth 100000 in
set_option maxHeartbeats 4000000 in
theorem concatOp_any (g : Nat) (q : List (List OO)) (A : Nat → Option Addr) (cs : Nat → Nat) (w : World) (hN : q.length ≤ 5) (hn : ∀ l ∈ q, l.length ≤ 5200)
    (hs : ∀ i l, q[i]? = some l → SlO w (A i) l ∧ w.cell? ⟨g, i, none⟩ = some (.slice (A i) l.length (cs i))) :
    Calls Tryz.prog 22 #[.slice (some ⟨g, 0, none⟩) q.length q.length] w (NewOps w.heap.size q.flatten w) := by
  have hle := joinOps_le hn
  have hsum : ∀ k, k ≤ q.length → (joinOps q k).length ≤ 26000 := fun k hk => by
    have := hle k
    omega
  have hall : joinOps q q.length = q.flatten := by unfold joinOps; rw [List.take_length]
  have HG := Lib.hid (growOp_any (joinOps q q.length).length w (by have := hsum q.length (Nat.le_refl _); omega))
  have HS := Lib.hid hs; have HSUM := Lib.hid hsum; have HNS := Lib.hid hn; have HALL := Lib.hid hall
  clear hs hsum hn hle hall
  obtain ⟨N, hNq⟩ : ∃ N, N = q.length := ⟨_, rfl⟩
  have HNQ := Lib.hid hNq
  rw [← hNq] at hN ⊢
  clear hNq
  go_enter Tryz.func22, Tryz.ntmps22
  go_wp2_with fail
  go_loop [3, 11] (fun s i => ∃ k : Nat, k ≤ N ∧ i = .int .i64 k ∧ s = .int .i64 ((joinOps q k).length : Nat)) (fun _ i => N - (intOf i).toNat)
  case atStart => exact ⟨0, Nat.zero_le _, rfl, rfl⟩
  case round =>
    obtain ⟨k, hk, rfl, rfl⟩ := hrel
    have hs1 := HSUM.out k (by rw [← HNQ.out]; exact hk)
    obtain ⟨S, hS⟩ : ∃ S, (joinOps q k).length = S := ⟨_, rfl⟩
    rw [hS] at hs1 ⊢
    by_cases hlt : k < N
    · obtain ⟨l, hl⟩ : ∃ l, q[k]? = some l := ⟨_, List.getElem?_eq_getElem (by rw [← HNQ.out]; exact hlt)⟩
      obtain ⟨_, hck⟩ := HS.out k l hl
      have hnk := HNS.out l (List.mem_of_getElem? hl)
      have hst : Hid ((joinOps q (k + 1)).length = S + l.length) := by show (joinOps q (k + 1)).length = _; rw [joinOps_succ hl, List.length_append, hS]
      clear hS hl
      have b1 : ¬ ((S : Int) + (l.length : Int) < 0) := by omega
      go_wp2_with fail
      go_round
      case rel => exact ⟨k + 1, by omega, by go_num, by rw [hst.out]; go_num⟩
      case measure => simp [intOf]; omega
    · obtain rfl : k = N := by omega
      have HSS := Lib.hid hS
      clear hS
      rw [← HNQ.out, HSS.out] at HG
      go_wp2_with fail
      refine HG.out.mono ?_
      rintro e w1 ⟨A1, c1, rfl, ho1, hb1⟩
      have HO1 := Lib.hid ho1
      clear ho1
      go_wp2_with fail
      go_loopw [6, 27] (fun s i wr => ∃ (j : Nat) (A' : Option Addr) (c' : Nat), j ≤ k ∧ i = .int .i64 j ∧ s = .slice A' (joinOps q j).length c' ∧ Hid (OwnO w.heap.size wr (.slice A' (joinOps q j).length c') (joinOps q j)) ∧ Below w.heap.size w wr) (fun _ i _ => k - (intOf i).toNat)
      case atStart => exact ⟨0, A1, c1, Nat.zero_le _, rfl, rfl, HO1.out, hb1⟩
      case round =>
        obtain ⟨j, A', c', hj, rfl, rfl, hO, hB⟩ := hrel
        by_cases hjk : j < k
        · obtain ⟨l, hl⟩ : ∃ l, q[j]? = some l := ⟨_, List.getElem?_eq_getElem (by rw [← HNQ.out]; exact hjk)⟩
          obtain ⟨hsl, hcl⟩ := HS.out j l hl
          have hcj := (hB.cell (p := ⟨g, j, none⟩) (cell_lt hcl)).trans hcl
          have hnj := HNS.out l (List.mem_of_getElem? hl)
          obtain ⟨A2, c2, w2, hrun, ho2, hb2⟩ := run_appOp (c := cs j) 36 hO.out (hsl.below hB) (by have := HSUM.out j (by rw [← HNQ.out]; omega); omega) hB.size
          rw [← joinOps_succ hl] at hrun ho2
          have HO2 := Lib.hid ho2
          have hB2 : Below w.heap.size w w2 := hB.trans hb2
          have HR := Lib.hid hrun
          clear ho2 hb2 hrun hsl hcl hl
          go_wp2_with (at_builtin; refine Lib.wpList_append_run _ rfl _ _ _ _ rfl _ _ rfl rfl _ _ HR.out ?_)
          go_roundw
          case rel => exact ⟨j + 1, A2, c2, by omega, by go_num, rfl, HO2.out, hB2⟩
          case measure => simp [intOf]; omega
        · obtain rfl : j = k := by omega
          have hO2 := hO.out
          rw [HNQ.out, HALL.out] at hO2
          have HOO := Lib.hid hO2
          rw [HNQ.out, HALL.out]
          clear hO2
          go_wp2_with fail
          go_ret
          exact ⟨A', c', rfl, HOO.out, hB⟩
end Go.Proofs.YtbchfodmdgogjaaGreatDoor
