/- Contracts of append, slices.Grow and slices.Concat at lists of strings. -/
import Derived.Test.YtodlabohijabnaaDoorROwn
import Derived.Lib.AppendZeros
import Derived.Lib.AppendZerosOnto
import Derived.Lib.SliceRun
set_option linter.unusedVariables false
set_option linter.unusedSimpArgs false
set_option maxRecDepth 100000
namespace Go.Proofs.YtodlabohijabnaaDoor
open Go.RowKit Go.Sort

theorem cellsS_append (a b : List ByteArray) : cellsS (a ++ b) = cellsS a ++ cellsS b := by unfold cellsS; rw [List.map_append]

/-- the same, and what is owned by another stays -/
theorem run_appS' {w : World} (ty : TypeId) {B c : Nat} {v : Value} {fs q : List ByteArray} {A : Option Addr} (hown : OwnS B w v fs) (hq : SlS w A q) (hn : fs.length + q.length ≤ 100000) (hB : B ≤ w.heap.size) :
    ∃ A' c' w', (Builtin.append_ #[25, 25] ty #[v, .slice A q.length c]).run Tryd.prog w = .ok (.slice A' (fs ++ q).length c') w' ∧ OwnS B w' (.slice A' (fs ++ q).length c') (fs ++ q) ∧ Below B w w' ∧ ∀ i, i < w.heap.size → v.ownBlock ≠ some i → w'.heap[i]? = w.heap[i]? := by
  obtain ⟨i0, hi, hz0, hz1, hz2⟩ := info_parts Tryd.infoStr
  cases A with
  | none =>
    have h0 : q = [] := by
      cases q with
      | nil => rfl
      | cons f q =>
        obtain ⟨b, off, e, _⟩ := hq 0 f rfl
        cases e
    subst h0
    obtain ⟨A', c', rfl⟩ := hown.form
    refine ⟨A', c', w, ?_, by simpa using hown, Below.refl _ _, fun _ _ _ => rfl⟩
    rcases hown.2 with ⟨e, h0⟩ | ⟨g, cap, cur, e, _, _, hnc, _⟩
    · injection e with e1 e2 e3
      subst e1 e3
      simp [Builtin.append_, run_underlying Tryd.underlying25, sizeOf, typeInfo, hi, Builtin.lenOf, Builtin.firstCells, h0]
    · cases e
      simp [Builtin.append_, run_underlying Tryd.underlying25, sizeOf, typeInfo, hi, Builtin.lenOf, Builtin.firstCells, hnc, storeCells]
  | some ad =>
    obtain ⟨v', w', hrun, hown', hgrow, _⟩ := run_append_own (P := Tryd.prog) w B 25 ty 9 i0 _ 1 16 Tryd.underlying25 hi hz0 hz1 hz2 rfl (by decide) v fs.length (cellsS fs) hown ad q.length c (cellsS q) (cellsS_len q) hq.cells (cellsS_one q) (by unfold maxLen; omega) (by omega) hB
    have ho : OwnS B w' v' (fs ++ q) := by
      unfold OwnS
      rw [cellsS_append, List.length_append]
      exact hown'
    obtain ⟨A', c', rfl⟩ := ho.form
    refine ⟨A', c', w', hrun, ho, ⟨hgrow.os, hgrow.tape, hgrow.output, hgrow.size, fun i hi => hgrow.block i (by omega) fun e => ?_⟩, fun i h1 h2 => hgrow.block i h1 fun e => h2 e.symm⟩
    have := (World.ownsRow.lt hown i e.symm).1
    omega


/-- a list that another owns, from a later block on, stays where one appends -/
theorem SlS.off {w w' : World} {B2 B3 : Nat} {v : Value} {A : Option Addr} {c : Nat} {L : List ByteArray} (ho : OwnS B3 w (.slice A L.length c) L) (hv : ∀ i, v.ownBlock = some i → i < B2) (hB : B2 ≤ B3) (hk : ∀ i, i < w.heap.size → v.ownBlock ≠ some i → w'.heap[i]? = w.heap[i]?) : SlS w' A L := by
  have hs := (OwnS.sl ho).1
  rcases ho.2 with ⟨e, h0⟩ | ⟨g, cap, cur, e, hlo, hg, h1, h2, h3, h4⟩
  · rw [List.eq_nil_of_length_eq_zero h0]
    exact SlS.nil _ _
  · injection e with e1 _ e3
    subst e1
    intro k s hk2
    obtain ⟨b, off, e4, h5⟩ := hs k s hk2
    cases e4
    refine ⟨_, _, rfl, ?_⟩
    have hlt := cell_lt h5
    have hb := hk _ hlt fun e => by have := hv _ e; omega
    rw [← h5]
    simp only [World.cell?, hb]

/-- append of whatever list of strings, nil or not, onto one's own -/
theorem run_appS {w : World} (ty : TypeId) {B c : Nat} {v : Value} {fs q : List ByteArray} {A : Option Addr} (hown : OwnS B w v fs) (hq : SlS w A q) (hn : fs.length + q.length ≤ 100000) (hB : B ≤ w.heap.size) :
    ∃ A' c' w', (Builtin.append_ #[25, 25] ty #[v, .slice A q.length c]).run Tryd.prog w = .ok (.slice A' (fs ++ q).length c') w' ∧ OwnS B w' (.slice A' (fs ++ q).length c') (fs ++ q) ∧ Below B w w' := by
  obtain ⟨A', c', w', h1, h2, h3, _⟩ := run_appS' (c := c) ty hown hq hn hB
  exact ⟨A', c', w', h1, h2, h3⟩
end Go.Proofs.YtodlabohijabnaaDoor

namespace Go.Proofs.YtodlabohijabnaaDoor
open Go.RowKit Go.Sort

set_option maxHeartbeats 1000000 in
theorem growS_any (k : Nat) (w : World) (hk : k ≤ 100000) : Calls Tryd.prog 68 #[.slice none 0 0, .int .i64 k] w (NewS w.heap.size [] w) := by
  obtain ⟨i0, hi, hz0, hz1, hz2⟩ := info_parts Tryd.infoStr
  have h1 : ¬ ((k : Int) < 0) := by omega
  by_cases h0 : k = 0
  · subst h0
    go_enter Tryd.func68, Tryd.ntmps68
    go_wp2_with fail
    go_ret
    exact ⟨none, 0, rfl, World.ownsRow_nil _ _ _ _, Below.refl _ _⟩
  · have h2 : (k : Int) > 0 := by omega
    have hrz : ∀ ty, (Builtin.append_ #[25, 3] ty #[.slice none 0 0, .int .i64 (k : Int)]).run Tryd.prog w = .ok (.slice (some ⟨w.heap.size, 0, none⟩) k (grownCap w k 0 9)) (w.drew.alloc (.cells (#[] ++ Builtin.zeroCells (Value.cells (.string ⟨#[]⟩)) k ++ Builtin.zeroCells (Value.cells (.string ⟨#[]⟩)) (grownCap w k 0 9 - k)) 9)) := fun ty => by
      have h := Lib.run_append_grow_zeros w 25 3 ty 9 i0 _ .i64 .i64 Tryd.underlying25 Tryd.underlying3 hi hz0 none 0 0 [] (run_firstCells_none w.drew i0.size 0 0 0) k (by omega) (by omega) (by omega) (by omega) (by rw [hz2]; omega) (by rw [nextslicecap_zero (by omega), hz2]; omega)
      simpa using h
    obtain ⟨C, hC⟩ : ∃ C, grownCap w k 0 9 = C := ⟨_, rfl⟩
    have hCk : k ≤ C := by rw [← hC]; have := grownCap_ge w k 0 9; omega
    have hC63 : C ≤ maxLen := by rw [← hC]; exact grownCap_le_maxLen w k 0 9 (by unfold maxLen; omega)
    rw [hC] at hrz
    obtain ⟨cs, hcs⟩ : ∃ cs, #[] ++ Builtin.zeroCells (Value.cells (.string ⟨#[]⟩)) k ++ Builtin.zeroCells (Value.cells (.string ⟨#[]⟩)) (C - k) = cs := ⟨_, rfl⟩
    have hsz : cs.size = C * 1 := by
      rw [← hcs, Array.size_append, Array.size_append, size_zeroCells, size_zeroCells]
      simp [Value.cells]
      omega
    rw [hcs] at hrz
    have HZ := Lib.hid hrz
    clear hrz hcs hC
    have hC' : (C : Int) ≤ 9223372036854775807 := by unfold maxLen at hC63; omega
    go_enter Tryd.func68, Tryd.ntmps68
    go_wp2_with (at_builtin; refine Lib.wpList_append_run _ rfl _ _ _ _ rfl _ _ rfl rfl _ _ (HZ.out _) ?_)
    go_ret
    refine ⟨some ⟨w.heap.size, 0, none⟩, C, rfl, ?_, ?_⟩
    · exact World.ownsRow_made w.drew cs C (Nat.le_refl _) hC63 hsz
    · exact Below.alloc (⟨rfl, rfl, rfl, Nat.le_refl _, fun _ _ => rfl⟩ : Below w.heap.size w w.drew) (Nat.le_refl _) _

/-- the first k lists, one behind the other -/
def joinS (q : List (List ByteArray)) (k : Nat) : List ByteArray := (q.take k).flatten
theorem joinS_succ {q : List (List ByteArray)} {k : Nat} {l : List ByteArray} (h : q[k]? = some l) : joinS q (k + 1) = joinS q k ++ l := by
  unfold joinS
  rw [List.take_add_one, h, List.flatten_append]
  simp
theorem joinS_le {q : List (List ByteArray)} (h : ∀ l ∈ q, l.length ≤ 10000) : ∀ k, (joinS q k).length ≤ k * 10000
  | 0 => by simp [joinS]
  | k + 1 => by
    have ih := joinS_le h k
    cases e : q[k]? with
    | none =>
      have : joinS q (k + 1) = joinS q k := by
        unfold joinS
        rw [List.take_add_one, e]
        simp
      rw [this]
      omega
    | some l =>
      rw [joinS_succ e, List.length_append]
      have := h l (List.mem_of_getElem? e)
      omega

set_option maxRecDepth 100000 in
set_option maxHeartbeats 4000000 in
theorem concatS_any (g : Nat) (q : List (List ByteArray)) (A : Nat → Option Addr) (cs : Nat → Nat) (w : World) (hN : q.length ≤ 5) (hn : ∀ l ∈ q, l.length ≤ 10000)
    (hs : ∀ i l, q[i]? = some l → SlS w (A i) l ∧ w.cell? ⟨g, i, none⟩ = some (.slice (A i) l.length (cs i))) :
    Calls Tryd.prog 33 #[.slice (some ⟨g, 0, none⟩) q.length q.length] w (NewS w.heap.size q.flatten w) := by
  have hle := joinS_le hn
  have hsum : ∀ k, k ≤ q.length → (joinS q k).length ≤ 50000 := fun k hk => by
    have := hle k
    omega
  have hall : joinS q q.length = q.flatten := by unfold joinS; rw [List.take_length]
  have HG := Lib.hid (growS_any (joinS q q.length).length w (by have := hsum q.length (Nat.le_refl _); omega))
  have HS := Lib.hid hs; have HSUM := Lib.hid hsum; have HNS := Lib.hid hn; have HALL := Lib.hid hall
  clear hs hsum hn hle hall
  obtain ⟨N, hNq⟩ : ∃ N, N = q.length := ⟨_, rfl⟩
  have HNQ := Lib.hid hNq
  rw [← hNq] at hN ⊢
  clear hNq
  go_enter Tryd.func33, Tryd.ntmps33
  go_wp2_with fail
  go_loop [3, 11] (fun s i => ∃ k : Nat, k ≤ N ∧ i = .int .i64 k ∧ s = .int .i64 ((joinS q k).length : Nat)) (fun _ i => N - (intOf i).toNat)
  case atStart => exact ⟨0, Nat.zero_le _, rfl, rfl⟩
  case round =>
    obtain ⟨k, hk, rfl, rfl⟩ := hrel
    have hs1 := HSUM.out k (by rw [← HNQ.out]; exact hk)
    obtain ⟨S, hS⟩ : ∃ S, (joinS q k).length = S := ⟨_, rfl⟩
    rw [hS] at hs1 ⊢
    by_cases hlt : k < N
    · obtain ⟨l, hl⟩ : ∃ l, q[k]? = some l := ⟨_, List.getElem?_eq_getElem (by rw [← HNQ.out]; exact hlt)⟩
      obtain ⟨_, hck⟩ := HS.out k l hl
      have hnk := HNS.out l (List.mem_of_getElem? hl)
      have hst : Hid ((joinS q (k + 1)).length = S + l.length) := by show (joinS q (k + 1)).length = _; rw [joinS_succ hl, List.length_append, hS]
      clear hS hl
      have b1 : ¬ ((S : Int) + (l.length : Int) < 0) := by omega
      go_wp2_with fail
      go_round
      case rel => exact ⟨k + 1, by omega, by go_num, by rw [hst.out]; go_num⟩
      case measure => simp [intOf]; omega
    · obtain rfl : k = N := by omega
      have HSS := Lib.hid hS
      clear hS
      rw [← HNQ.out, HSS.out] at HG
      go_wp2_with fail
      refine HG.out.mono ?_
      rintro e w1 ⟨A1, c1, rfl, ho1, hb1⟩
      have HO1 := Lib.hid ho1
      clear ho1
      go_wp2_with fail
      go_loopw [6, 27] (fun s i wr => ∃ (j : Nat) (A' : Option Addr) (c' : Nat), j ≤ k ∧ i = .int .i64 j ∧ s = .slice A' (joinS q j).length c' ∧ Hid (OwnS w.heap.size wr (.slice A' (joinS q j).length c') (joinS q j)) ∧ Below w.heap.size w wr) (fun _ i _ => k - (intOf i).toNat)
      case atStart => exact ⟨0, A1, c1, Nat.zero_le _, rfl, rfl, HO1.out, hb1⟩
      case round =>
        obtain ⟨j, A', c', hj, rfl, rfl, hO, hB⟩ := hrel
        by_cases hjk : j < k
        · obtain ⟨l, hl⟩ : ∃ l, q[j]? = some l := ⟨_, List.getElem?_eq_getElem (by rw [← HNQ.out]; exact hjk)⟩
          obtain ⟨hsl, hcl⟩ := HS.out j l hl
          have hcj := (hB.cell (p := ⟨g, j, none⟩) (cell_lt hcl)).trans hcl
          have hnj := HNS.out l (List.mem_of_getElem? hl)
          obtain ⟨A2, c2, w2, hrun, ho2, hb2⟩ := run_appS (c := cs j) 25 hO.out (hsl.below hB) (by have := HSUM.out j (by rw [← HNQ.out]; omega); omega) hB.size
          rw [← joinS_succ hl] at hrun ho2
          have HO2 := Lib.hid ho2
          have hB2 : Below w.heap.size w w2 := hB.trans hb2
          have HR := Lib.hid hrun
          clear ho2 hb2 hrun hsl hcl hl
          go_wp2_with (at_builtin; refine Lib.wpList_append_run _ rfl _ _ _ _ rfl _ _ rfl rfl _ _ HR.out ?_)
          go_roundw
          case rel => exact ⟨j + 1, A2, c2, by omega, by go_num, rfl, HO2.out, hB2⟩
          case measure => simp [intOf]; omega
        · obtain rfl : j = k := by omega
          have hO2 := hO.out
          rw [HNQ.out, HALL.out] at hO2
          have HOO := Lib.hid hO2
          rw [HNQ.out, HALL.out]
          clear hO2
          go_wp2_with fail
          go_ret
          exact ⟨A', c', rfl, HOO.out, hB⟩
theorem concatS_two (bs n1 n2 : Nat) (q1 q2 : List ByteArray) (A1 A2 : Option Addr) (c1 c2 : Nat) (W : World) (l1 : q1.length = n1) (l2 : q2.length = n2) (h1 : SlS W A1 q1) (h2 : SlS W A2 q2) (m1 : n1 ≤ 10000) (m2 : n2 ≤ 10000)
    (e1 : W.cell? ⟨bs, 0, none⟩ = some (.slice A1 n1 c1)) (e2 : W.cell? ⟨bs, 1, none⟩ = some (.slice A2 n2 c2)) :
    Calls Tryd.prog 33 #[.slice (some ⟨bs, 0, none⟩) 2 2] W (NewS W.heap.size (q1 ++ q2) W) := by
  have h := concatS_any bs [q1, q2] (fun i => if i = 0 then A1 else A2) (fun i => if i = 0 then c1 else c2) W (by simp) (fun l hl => by
    rcases List.mem_cons.1 hl with rfl | hl
    · omega
    · rw [List.mem_singleton.1 hl]
      omega) (fun i l hl => by
    match i, hl with
    | 0, hl =>
      have e : l = q1 := by simpa using hl.symm
      subst e
      exact ⟨h1, by simpa [l1] using e1⟩
    | 1, hl =>
      have e : l = q2 := by simpa using hl.symm
      subst e
      exact ⟨h2, by simpa [l2] using e2⟩
    | i + 2, hl => simp at hl)
  simpa using h
theorem concatS_is (bs n1 n2 : Nat) (L q1 q2 : List ByteArray) (A1 A2 : Option Addr) (c1 c2 : Nat) (W : World) (hL : q1 ++ q2 = L) (l1 : q1.length = n1) (l2 : q2.length = n2) (h1 : SlS W A1 q1) (h2 : SlS W A2 q2) (m1 : n1 ≤ 10000) (m2 : n2 ≤ 10000)
    (e1 : W.cell? ⟨bs, 0, none⟩ = some (.slice A1 n1 c1)) (e2 : W.cell? ⟨bs, 1, none⟩ = some (.slice A2 n2 c2)) :
    Calls Tryd.prog 33 #[.slice (some ⟨bs, 0, none⟩) 2 2] W (NewS W.heap.size L W) := by
  subst hL
  exact concatS_two bs n1 n2 q1 q2 A1 A2 c1 c2 W l1 l2 h1 h2 m1 m2 e1 e2
end Go.Proofs.YtodlabohijabnaaDoor
