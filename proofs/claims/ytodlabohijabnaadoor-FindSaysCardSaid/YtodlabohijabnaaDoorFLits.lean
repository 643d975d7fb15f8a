/- What By and With answer: of small stores that the laws write out; names that are all of a list; append, slices.Grow and slices.Concat at lists of names. -/
import Derived.Test.YtodlabohijabnaaDoorROwn
import Derived.Lib.AppendZeros
import Derived.Lib.AppendZerosOnto
import Derived.Lib.SliceRun
import Derived.Test.YtodlabohijabnaaDoorFAll
import Derived.Test.YtodlabohijabnaaDoorSStrs
import Derived.Test.YtodlabohijabnaaDoorSFine
set_option linter.unusedVariables false
set_option linter.unusedSimpArgs false
set_option maxRecDepth 100000
namespace Go.Proofs.YtodlabohijabnaaDoor
open Go.RowKit Go.Sort

theorem cellsS_append (a b : List ByteArray) : cellsS (a ++ b) = cellsS a ++ cellsS b := by unfold cellsS; rw [List.map_append]

/-- the same, and what is owned by another stays -/
theorem run_appS' {w : World} (ty : TypeId) {B c : Nat} {v : Value} {fs q : List ByteArray} {A : Option Addr} (hown : OwnS B w v fs) (hq : SlS w A q) (hn : fs.length + q.length ≤ 100000) (hB : B ≤ w.heap.size) :
    ∃ A' c' w', (Builtin.append_ #[25, 25] ty #[v, .slice A q.length c]).run Tryd.prog w = .ok (.slice A' (fs ++ q).length c') w' ∧ OwnS B w' (.slice A' (fs ++ q).length c') (fs ++ q) ∧ Below B w w' ∧ ∀ i, i < w.heap.size → v.ownBlock ≠ some i → w'.heap[i]? = w.heap[i]? := by
  obtain ⟨i0, hi, hz0, hz1, hz2⟩ := info_parts Tryd.infoStr
  cases A with
  | none =>
    have h0 : q = [] := by
      cases q with
      | nil => rfl
      | cons f q =>
        obtain ⟨b, off, e, _⟩ := hq 0 f rfl
        cases e
    subst h0
    obtain ⟨A', c', rfl⟩ := hown.form
    refine ⟨A', c', w, ?_, by simpa using hown, Below.refl _ _, fun _ _ _ => rfl⟩
    rcases hown.2 with ⟨e, h0⟩ | ⟨g, cap, cur, e, _, _, hnc, _⟩
    · injection e with e1 e2 e3
      subst e1 e3
      simp [Builtin.append_, run_underlying Tryd.underlying25, sizeOf, typeInfo, hi, Builtin.lenOf, Builtin.firstCells, h0]
    · cases e
      simp [Builtin.append_, run_underlying Tryd.underlying25, sizeOf, typeInfo, hi, Builtin.lenOf, Builtin.firstCells, hnc, storeCells]
  | some ad =>
    obtain ⟨v', w', hrun, hown', hgrow, _⟩ := run_append_own (P := Tryd.prog) w B 25 ty 9 i0 _ 1 16 Tryd.underlying25 hi hz0 hz1 hz2 rfl (by decide) v fs.length (cellsS fs) hown ad q.length c (cellsS q) (cellsS_len q) hq.cells (cellsS_one q) (by unfold maxLen; omega) (by omega) hB
    have ho : OwnS B w' v' (fs ++ q) := by
      unfold OwnS
      rw [cellsS_append, List.length_append]
      exact hown'
    obtain ⟨A', c', rfl⟩ := ho.form
    refine ⟨A', c', w', hrun, ho, ⟨hgrow.os, hgrow.tape, hgrow.output, hgrow.size, fun i hi => hgrow.block i (by omega) fun e => ?_⟩, fun i h1 h2 => hgrow.block i h1 fun e => h2 e.symm⟩
    have := (World.ownsRow.lt hown i e.symm).1
    omega


/-- a list that another owns, from a later block on, stays where one appends -/
theorem SlS.off {w w' : World} {B2 B3 : Nat} {v : Value} {A : Option Addr} {c : Nat} {L : List ByteArray} (ho : OwnS B3 w (.slice A L.length c) L) (hv : ∀ i, v.ownBlock = some i → i < B2) (hB : B2 ≤ B3) (hk : ∀ i, i < w.heap.size → v.ownBlock ≠ some i → w'.heap[i]? = w.heap[i]?) : SlS w' A L := by
  have hs := (OwnS.sl ho).1
  rcases ho.2 with ⟨e, h0⟩ | ⟨g, cap, cur, e, hlo, hg, h1, h2, h3, h4⟩
  · rw [List.eq_nil_of_length_eq_zero h0]
    exact SlS.nil _ _
  · injection e with e1 _ e3
    subst e1
    intro k s hk2
    obtain ⟨b, off, e4, h5⟩ := hs k s hk2
    cases e4
    refine ⟨_, _, rfl, ?_⟩
    have hlt := cell_lt h5
    have hb := hk _ hlt fun e => by have := hv _ e; omega
    rw [← h5]
    simp only [World.cell?, hb]

/-- append of whatever list of strings, nil or not, onto one's own -/
theorem run_appS {w : World} (ty : TypeId) {B c : Nat} {v : Value} {fs q : List ByteArray} {A : Option Addr} (hown : OwnS B w v fs) (hq : SlS w A q) (hn : fs.length + q.length ≤ 100000) (hB : B ≤ w.heap.size) :
    ∃ A' c' w', (Builtin.append_ #[25, 25] ty #[v, .slice A q.length c]).run Tryd.prog w = .ok (.slice A' (fs ++ q).length c') w' ∧ OwnS B w' (.slice A' (fs ++ q).length c') (fs ++ q) ∧ Below B w w' := by
  obtain ⟨A', c', w', h1, h2, h3, _⟩ := run_appS' (c := c) ty hown hq hn hB
  exact ⟨A', c', w', h1, h2, h3⟩
end Go.Proofs.YtodlabohijabnaaDoor

namespace Go.Proofs.YtodlabohijabnaaDoor
open Go.RowKit Go.Sort

set_option maxHeartbeats 1000000 in
theorem growS_any (k : Nat) (w : World) (hk : k ≤ 100000) : Calls Tryd.prog 68 #[.slice none 0 0, .int .i64 k] w (NewS w.heap.size [] w) := by
  obtain ⟨i0, hi, hz0, hz1, hz2⟩ := info_parts Tryd.infoStr
  have h1 : ¬ ((k : Int) < 0) := by omega
  by_cases h0 : k = 0
  · subst h0
    go_enter Tryd.func68, Tryd.ntmps68
    go_wp2_with fail
    go_ret
    exact ⟨none, 0, rfl, World.ownsRow_nil _ _ _ _, Below.refl _ _⟩
  · have h2 : (k : Int) > 0 := by omega
    have hrz : ∀ ty, (Builtin.append_ #[25, 3] ty #[.slice none 0 0, .int .i64 (k : Int)]).run Tryd.prog w = .ok (.slice (some ⟨w.heap.size, 0, none⟩) k (grownCap w k 0 9)) (w.drew.alloc (.cells (#[] ++ Builtin.zeroCells (Value.cells (.string ⟨#[]⟩)) k ++ Builtin.zeroCells (Value.cells (.string ⟨#[]⟩)) (grownCap w k 0 9 - k)) 9)) := fun ty => by
      have h := Lib.run_append_grow_zeros w 25 3 ty 9 i0 _ .i64 .i64 Tryd.underlying25 Tryd.underlying3 hi hz0 none 0 0 [] (run_firstCells_none w.drew i0.size 0 0 0) k (by omega) (by omega) (by omega) (by omega) (by rw [hz2]; omega) (by rw [nextslicecap_zero (by omega), hz2]; omega)
      simpa using h
    obtain ⟨C, hC⟩ : ∃ C, grownCap w k 0 9 = C := ⟨_, rfl⟩
    have hCk : k ≤ C := by rw [← hC]; have := grownCap_ge w k 0 9; omega
    have hC63 : C ≤ maxLen := by rw [← hC]; exact grownCap_le_maxLen w k 0 9 (by unfold maxLen; omega)
    rw [hC] at hrz
    obtain ⟨cs, hcs⟩ : ∃ cs, #[] ++ Builtin.zeroCells (Value.cells (.string ⟨#[]⟩)) k ++ Builtin.zeroCells (Value.cells (.string ⟨#[]⟩)) (C - k) = cs := ⟨_, rfl⟩
    have hsz : cs.size = C * 1 := by
      rw [← hcs, Array.size_append, Array.size_append, size_zeroCells, size_zeroCells]
      simp [Value.cells]
      omega
    rw [hcs] at hrz
    have HZ := Lib.hid hrz
    clear hrz hcs hC
    have hC' : (C : Int) ≤ 9223372036854775807 := by unfold maxLen at hC63; omega
    go_enter Tryd.func68, Tryd.ntmps68
    go_wp2_with (at_builtin; refine Lib.wpList_append_run _ rfl _ _ _ _ rfl _ _ rfl rfl _ _ (HZ.out _) ?_)
    go_ret
    refine ⟨some ⟨w.heap.size, 0, none⟩, C, rfl, ?_, ?_⟩
    · exact World.ownsRow_made w.drew cs C (Nat.le_refl _) hC63 hsz
    · exact Below.alloc (⟨rfl, rfl, rfl, Nat.le_refl _, fun _ _ => rfl⟩ : Below w.heap.size w w.drew) (Nat.le_refl _) _

/-- the first k lists, one behind the other -/
def joinS (q : List (List ByteArray)) (k : Nat) : List ByteArray := (q.take k).flatten
theorem joinS_succ {q : List (List ByteArray)} {k : Nat} {l : List ByteArray} (h : q[k]? = some l) : joinS q (k + 1) = joinS q k ++ l := by
  unfold joinS
  rw [List.take_add_one, h, List.flatten_append]
  simp
theorem joinS_le {q : List (List ByteArray)} (h : ∀ l ∈ q, l.length ≤ 10000) : ∀ k, (joinS q k).length ≤ k * 10000
  | 0 => by simp [joinS]
  | k + 1 => by
    have ih := joinS_le h k
    cases e : q[k]? with
    | none =>
      have : joinS q (k + 1) = joinS q k := by
        unfold joinS
        rw [List.take_add_one, e]
        simp
      rw [this]
      omega
    | some l =>
      rw [joinS_succ e, List.length_append]
      have := h l (List.mem_of_getElem? e)
      omega

set_option maxRecDepth 100000 in
set_option maxHeartbeats 4000000 in
theorem concatS_any (g : Nat) (q : List (List ByteArray)) (A : Nat → Option Addr) (cs : Nat → Nat) (w : World) (hN : q.length ≤ 5) (hn : ∀ l ∈ q, l.length ≤ 10000)
    (hs : ∀ i l, q[i]? = some l → SlS w (A i) l ∧ w.cell? ⟨g, i, none⟩ = some (.slice (A i) l.length (cs i))) :
    Calls Tryd.prog 33 #[.slice (some ⟨g, 0, none⟩) q.length q.length] w (NewS w.heap.size q.flatten w) := by
  have hle := joinS_le hn
  have hsum : ∀ k, k ≤ q.length → (joinS q k).length ≤ 50000 := fun k hk => by
    have := hle k
    omega
  have hall : joinS q q.length = q.flatten := by unfold joinS; rw [List.take_length]
  have HG := Lib.hid (growS_any (joinS q q.length).length w (by have := hsum q.length (Nat.le_refl _); omega))
  have HS := Lib.hid hs; have HSUM := Lib.hid hsum; have HNS := Lib.hid hn; have HALL := Lib.hid hall
  clear hs hsum hn hle hall
  obtain ⟨N, hNq⟩ : ∃ N, N = q.length := ⟨_, rfl⟩
  have HNQ := Lib.hid hNq
  rw [← hNq] at hN ⊢
  clear hNq
  go_enter Tryd.func33, Tryd.ntmps33
  go_wp2_with fail
  go_loop [3, 11] (fun s i => ∃ k : Nat, k ≤ N ∧ i = .int .i64 k ∧ s = .int .i64 ((joinS q k).length : Nat)) (fun _ i => N - (intOf i).toNat)
  case atStart => exact ⟨0, Nat.zero_le _, rfl, rfl⟩
  case round =>
    obtain ⟨k, hk, rfl, rfl⟩ := hrel
    have hs1 := HSUM.out k (by rw [← HNQ.out]; exact hk)
    obtain ⟨S, hS⟩ : ∃ S, (joinS q k).length = S := ⟨_, rfl⟩
    rw [hS] at hs1 ⊢
    by_cases hlt : k < N
    · obtain ⟨l, hl⟩ : ∃ l, q[k]? = some l := ⟨_, List.getElem?_eq_getElem (by rw [← HNQ.out]; exact hlt)⟩
      obtain ⟨_, hck⟩ := HS.out k l hl
      have hnk := HNS.out l (List.mem_of_getElem? hl)
      have hst : Hid ((joinS q (k + 1)).length = S + l.length) := by show (joinS q (k + 1)).length = _; rw [joinS_succ hl, List.length_append, hS]
      clear hS hl
      have b1 : ¬ ((S : Int) + (l.length : Int) < 0) := by omega
      go_wp2_with fail
      go_round
      case rel => exact ⟨k + 1, by omega, by go_num, by rw [hst.out]; go_num⟩
      case measure => simp [intOf]; omega
    · obtain rfl : k = N := by omega
      have HSS := Lib.hid hS
      clear hS
      rw [← HNQ.out, HSS.out] at HG
      go_wp2_with fail
      refine HG.out.mono ?_
      rintro e w1 ⟨A1, c1, rfl, ho1, hb1⟩
      have HO1 := Lib.hid ho1
      clear ho1
      go_wp2_with fail
      go_loopw [6, 27] (fun s i wr => ∃ (j : Nat) (A' : Option Addr) (c' : Nat), j ≤ k ∧ i = .int .i64 j ∧ s = .slice A' (joinS q j).length c' ∧ Hid (OwnS w.heap.size wr (.slice A' (joinS q j).length c') (joinS q j)) ∧ Below w.heap.size w wr) (fun _ i _ => k - (intOf i).toNat)
      case atStart => exact ⟨0, A1, c1, Nat.zero_le _, rfl, rfl, HO1.out, hb1⟩
      case round =>
        obtain ⟨j, A', c', hj, rfl, rfl, hO, hB⟩ := hrel
        by_cases hjk : j < k
        · obtain ⟨l, hl⟩ : ∃ l, q[j]? = some l := ⟨_, List.getElem?_eq_getElem (by rw [← HNQ.out]; exact hjk)⟩
          obtain ⟨hsl, hcl⟩ := HS.out j l hl
          have hcj := (hB.cell (p := ⟨g, j, none⟩) (cell_lt hcl)).trans hcl
          have hnj := HNS.out l (List.mem_of_getElem? hl)
          obtain ⟨A2, c2, w2, hrun, ho2, hb2⟩ := run_appS (c := cs j) 25 hO.out (hsl.below hB) (by have := HSUM.out j (by rw [← HNQ.out]; omega); omega) hB.size
          rw [← joinS_succ hl] at hrun ho2
          have HO2 := Lib.hid ho2
          have hB2 : Below w.heap.size w w2 := hB.trans hb2
          have HR := Lib.hid hrun
          clear ho2 hb2 hrun hsl hcl hl
          go_wp2_with (at_builtin; refine Lib.wpList_append_run _ rfl _ _ _ _ rfl _ _ rfl rfl _ _ HR.out ?_)
          go_roundw
          case rel => exact ⟨j + 1, A2, c2, by omega, by go_num, rfl, HO2.out, hB2⟩
          case measure => simp [intOf]; omega
        · obtain rfl : j = k := by omega
          have hO2 := hO.out
          rw [HNQ.out, HALL.out] at hO2
          have HOO := Lib.hid hO2
          rw [HNQ.out, HALL.out]
          clear hO2
          go_wp2_with fail
          go_ret
          exact ⟨A', c', rfl, HOO.out, hB⟩
theorem concatS_two (bs n1 n2 : Nat) (q1 q2 : List ByteArray) (A1 A2 : Option Addr) (c1 c2 : Nat) (W : World) (l1 : q1.length = n1) (l2 : q2.length = n2) (h1 : SlS W A1 q1) (h2 : SlS W A2 q2) (m1 : n1 ≤ 10000) (m2 : n2 ≤ 10000)
    (e1 : W.cell? ⟨bs, 0, none⟩ = some (.slice A1 n1 c1)) (e2 : W.cell? ⟨bs, 1, none⟩ = some (.slice A2 n2 c2)) :
    Calls Tryd.prog 33 #[.slice (some ⟨bs, 0, none⟩) 2 2] W (NewS W.heap.size (q1 ++ q2) W) := by
  have h := concatS_any bs [q1, q2] (fun i => if i = 0 then A1 else A2) (fun i => if i = 0 then c1 else c2) W (by simp) (fun l hl => by
    rcases List.mem_cons.1 hl with rfl | hl
    · omega
    · rw [List.mem_singleton.1 hl]
      omega) (fun i l hl => by
    match i, hl with
    | 0, hl =>
      have e : l = q1 := by simpa using hl.symm
      subst e
      exact ⟨h1, by simpa [l1] using e1⟩
    | 1, hl =>
      have e : l = q2 := by simpa using hl.symm
      subst e
      exact ⟨h2, by simpa [l2] using e2⟩
    | i + 2, hl => simp at hl)
  simpa using h
theorem concatS_is (bs n1 n2 : Nat) (L q1 q2 : List ByteArray) (A1 A2 : Option Addr) (c1 c2 : Nat) (W : World) (hL : q1 ++ q2 = L) (l1 : q1.length = n1) (l2 : q2.length = n2) (h1 : SlS W A1 q1) (h2 : SlS W A2 q2) (m1 : n1 ≤ 10000) (m2 : n2 ≤ 10000)
    (e1 : W.cell? ⟨bs, 0, none⟩ = some (.slice A1 n1 c1)) (e2 : W.cell? ⟨bs, 1, none⟩ = some (.slice A2 n2 c2)) :
    Calls Tryd.prog 33 #[.slice (some ⟨bs, 0, none⟩) 2 2] W (NewS W.heap.size L W) := by
  subst hL
  exact concatS_two bs n1 n2 q1 q2 A1 A2 c1 c2 W l1 l2 h1 h2 m1 m2 e1 e2
end Go.Proofs.YtodlabohijabnaaDoor

namespace Go.Proofs.YtodlabohijabnaaDoor
open Go.RowKit Go.Sort

/-- a box with a list of names -/
structure Boxed (b0 : Nat) (A : Option Addr) (n c : Nat) (ids : List ByteArray) (w : World) : Prop where
  c0 : w.cell? ⟨b0, 0, none⟩ = some (.slice A n c)
  sl : SlS w A ids
  ln : ids.length = n
  mx : n ≤ maxLen
theorem Boxed.below {b0 n c : Nat} {A : Option Addr} {ids : List ByteArray} {w w' : World} (h : Boxed b0 A n c ids w) (hb : Below w.heap.size w w') : Boxed b0 A n c ids w' :=
  ⟨(hb.cell (p := ⟨b0, 0, none⟩) (cell_lt h.c0)).trans h.c0, h.sl.below hb, h.ln, h.mx⟩

set_option maxHeartbeats 1000000 in
theorem closH_is (b0 : Nat) (A : Option Addr) (n c : Nat) (ids : List ByteArray) (s : ByteArray) (w : World) (h : Boxed b0 A n c ids w) (hs : s ∈ ids) :
    Calls Tryd.prog 41 #[.string s, .pointer (some ⟨b0, 0, none⟩)] w fun e w' => e = .returned (.bool false) ∧ Below w.heap.size w w' := by
  have hc := h.c0
  have HC := Lib.hid (contains_is (b := true) A ids c s w h.sl h.ln h.mx (by simp [hs]))
  clear h hs
  go_enter Tryd.func41, Tryd.ntmps41
  go_wp2_with fail
  refine HC.out.mono ?_
  rintro e w1 ⟨rfl, hb1⟩
  have HB1 := Lib.hid hb1
  clear hb1
  go_wp2_with fail
  go_ret
  exact ⟨rfl, HB1.out⟩

set_option maxHeartbeats 2000000 in
theorem indexH_no (a : Option Addr) (L : List ByteArray) (cL b0 : Nat) (A : Option Addr) (n c : Nat) (ids : List ByteArray) (w : World) (hs : SlS w a L) (hm : L.length ≤ maxLen) (h : Boxed b0 A n c ids w) (hin : ∀ s ∈ L, s ∈ ids) :
    Calls Tryd.prog 71 #[.slice a L.length cL, .func (.func 41) #[] #[.pointer (some ⟨b0, 0, none⟩)]] w
      fun e w' => e = .returned (.int .i64 (-1)) ∧ Below w.heap.size w w' := by
  unfold maxLen at hm
  have HS := Lib.hid hs
  have HC := Lib.hid h
  have HIN := Lib.hid hin
  clear hs h hin
  go_enter Tryd.func71, Tryd.ntmps71
  go_wp2_with fail
  go_loopw [8] (fun i wr => ∃ k : Nat, k ≤ L.length ∧ i = .int .i64 k ∧ Below w.heap.size w wr) (fun i _ => L.length - (intOf i).toNat)
  case atStart => exact ⟨0, Nat.zero_le _, rfl, Below.refl _ _⟩
  case round =>
    obtain ⟨k, hk, rfl, hB⟩ := hrel
    by_cases hlt : k < L.length
    · obtain ⟨s, hsk⟩ : ∃ s, L[k]? = some s := ⟨_, List.getElem?_eq_getElem hlt⟩
      obtain ⟨ab, off, rfl, c1⟩ := (HS.out.below hB) k s hsk
      have HCL := Lib.hid (closH_is b0 A n c ids s wr (HC.out.below hB) (HIN.out s (List.mem_of_getElem? hsk)))
      have i1 : (0 : Int) ≤ (k : Int) := by omega
      clear hsk
      go_wp2_with fail
      refine HCL.out.mono ?_
      rintro e w1 ⟨rfl, hb1⟩
      have hB1 := hB.trans (hb1.mono hB.size)
      go_wp2_with fail
      go_roundw
      case rel => exact ⟨k + 1, by omega, by go_num, hB1⟩
      case measure => simp [intOf]; omega
    · obtain rfl : k = L.length := by omega
      go_wp2_with fail
      go_ret
      exact ⟨rfl, hB⟩

set_option maxHeartbeats 1000000 in
theorem noneH_is (a : Option Addr) (L : List ByteArray) (m cL b0 : Nat) (A : Option Addr) (n c : Nat) (ids : List ByteArray) (w : World) (hl : L.length = m) (hs : SlS w a L) (hm : m ≤ maxLen) (h : Boxed b0 A n c ids w) (hin : ∀ s ∈ L, s ∈ ids) :
    Calls Tryd.prog 37 #[.slice a m cL, .func (.func 41) #[] #[.pointer (some ⟨b0, 0, none⟩)]] w
      fun e w' => e = .returned (.bool false) ∧ Below w.heap.size w w' := by
  subst hl
  have HI := Lib.hid (indexH_no a L cL b0 A n c ids w hs hm h hin)
  clear hs hm h hin
  go_enter Tryd.func37, Tryd.ntmps37
  go_wp2_with fail
  refine HI.out.mono ?_
  rintro e w1 ⟨rfl, hb1⟩
  go_wp2_with fail
  go_ret
  exact ⟨rfl, hb1⟩

set_option maxHeartbeats 1000000 in
theorem closW_is (b0 : Nat) (A : Option Addr) (n c : Nat) (ids : List ByteArray) (s : ByteArray) (w : World) (h : Boxed b0 A n c ids w) (hs : s ∈ ids) :
    Calls Tryd.prog 38 #[.string s, .pointer (some ⟨b0, 0, none⟩)] w fun e w' => e = .returned (.bool false) ∧ Below w.heap.size w w' := by
  have hc := h.c0
  have HC := Lib.hid (contains_is (b := true) A ids c s w h.sl h.ln h.mx (by simp [hs]))
  clear h hs
  go_enter Tryd.func38, Tryd.ntmps38
  go_wp2_with fail
  refine HC.out.mono ?_
  rintro e w1 ⟨rfl, hb1⟩
  have HB1 := Lib.hid hb1
  clear hb1
  go_wp2_with fail
  go_ret
  exact ⟨rfl, HB1.out⟩

set_option maxHeartbeats 2000000 in
theorem indexW_no (a : Option Addr) (L : List ByteArray) (cL b0 : Nat) (A : Option Addr) (n c : Nat) (ids : List ByteArray) (w : World) (hs : SlS w a L) (hm : L.length ≤ maxLen) (h : Boxed b0 A n c ids w) (hin : ∀ s ∈ L, s ∈ ids) :
    Calls Tryd.prog 71 #[.slice a L.length cL, .func (.func 38) #[] #[.pointer (some ⟨b0, 0, none⟩)]] w
      fun e w' => e = .returned (.int .i64 (-1)) ∧ Below w.heap.size w w' := by
  unfold maxLen at hm
  have HS := Lib.hid hs
  have HC := Lib.hid h
  have HIN := Lib.hid hin
  clear hs h hin
  go_enter Tryd.func71, Tryd.ntmps71
  go_wp2_with fail
  go_loopw [8] (fun i wr => ∃ k : Nat, k ≤ L.length ∧ i = .int .i64 k ∧ Below w.heap.size w wr) (fun i _ => L.length - (intOf i).toNat)
  case atStart => exact ⟨0, Nat.zero_le _, rfl, Below.refl _ _⟩
  case round =>
    obtain ⟨k, hk, rfl, hB⟩ := hrel
    by_cases hlt : k < L.length
    · obtain ⟨s, hsk⟩ : ∃ s, L[k]? = some s := ⟨_, List.getElem?_eq_getElem hlt⟩
      obtain ⟨ab, off, rfl, c1⟩ := (HS.out.below hB) k s hsk
      have HCL := Lib.hid (closW_is b0 A n c ids s wr (HC.out.below hB) (HIN.out s (List.mem_of_getElem? hsk)))
      have i1 : (0 : Int) ≤ (k : Int) := by omega
      clear hsk
      go_wp2_with fail
      refine HCL.out.mono ?_
      rintro e w1 ⟨rfl, hb1⟩
      have hB1 := hB.trans (hb1.mono hB.size)
      go_wp2_with fail
      go_roundw
      case rel => exact ⟨k + 1, by omega, by go_num, hB1⟩
      case measure => simp [intOf]; omega
    · obtain rfl : k = L.length := by omega
      go_wp2_with fail
      go_ret
      exact ⟨rfl, hB⟩

set_option maxHeartbeats 1000000 in
theorem noneW_is (a : Option Addr) (L : List ByteArray) (m cL b0 : Nat) (A : Option Addr) (n c : Nat) (ids : List ByteArray) (w : World) (hl : L.length = m) (hs : SlS w a L) (hm : m ≤ maxLen) (h : Boxed b0 A n c ids w) (hin : ∀ s ∈ L, s ∈ ids) :
    Calls Tryd.prog 37 #[.slice a m cL, .func (.func 38) #[] #[.pointer (some ⟨b0, 0, none⟩)]] w
      fun e w' => e = .returned (.bool false) ∧ Below w.heap.size w w' := by
  subst hl
  have HI := Lib.hid (indexW_no a L cL b0 A n c ids w hs hm h hin)
  clear hs hm h hin
  go_enter Tryd.func37, Tryd.ntmps37
  go_wp2_with fail
  refine HI.out.mono ?_
  rintro e w1 ⟨rfl, hb1⟩
  go_wp2_with fail
  go_ret
  exact ⟨rfl, hb1⟩
end Go.Proofs.YtodlabohijabnaaDoor

namespace Go.Proofs.YtodlabohijabnaaDoor
open Go.RowKit Go.Sort Go.Maps

/-- By, of names that are handed on -/
theorem byF_fine {n : Nat} {er : Int} {L : List ByteArray} {a : Option Addr} {vs : List VerL} (c : Nat) (f : FieldL) (w : World) (h : VsAt w a n vs) (hst : stErr vs = 0) (hL : byR vs f = L) (he : byErr vs f = er) :
    Calls Tryd.prog 11 #[.slice a n c, f.v] w (StrsTo L er w) :=
  by_is c f w h (by have := h.len; have := (stErr_ok.1 hst).1; unfold maxLen; omega) hL he


/-- With, of names that are handed on -/
theorem with_fine {n m : Nat} {er : Int} {L : List ByteArray} {a a2 : Option Addr} {vs : List VerL} (c c2 : Nat) (ids : List ByteArray) (w : World) (h : VsAt w a n vs) (hst : stErr vs = 0) (hs : SlS w a2 ids) (hl : ids.length = m) (hL : withR vs ids = L) (he : withErr vs ids = er) :
    Calls Tryd.prog 12 #[.slice a n c, .slice a2 m c2] w (StrsTo L er w) :=
  with_is c c2 ids w h (by have := h.len; have := (stErr_ok.1 hst).1; unfold maxLen; omega) hs hl hL he
theorem with_small {vs : List VerL} {ids : List ByteArray} (h : stErr vs = 0) (hl : ids.length ≤ 60) : withErr vs ids = 0 ∧ withR vs ids = withL vs ids := by
  have h0 : withErr vs ids = 0 := by unfold withErr; rw [if_neg (fun k => k h), if_neg (by omega)]
  refine ⟨h0, ?_⟩
  unfold withR
  rw [if_pos h0]

abbrev recAB : RecL := ⟨sA, 0, [], [sB]⟩
theorem okAB : recAB.Ok := ⟨nameA, Int.le_refl _, by decide, by simp, by simp, fOk_mk (by simp [Asc]) (fun f hf => by cases hf), fun i s hi hs => by
  have h0 : i = 0 := by have : i < 1 := hi; omega
  subst h0
  have hs2 : s = sB := by simpa using hs.symm
  subst hs2
  exact ⟨nameB, fun j t e => by omega⟩⟩
theorem withH_lit {B : Nat} (w0 : World) (hB : w0.heap.size = B) :
    Calls Tryd.prog 12 #[.slice (some ⟨B + 1, 0, none⟩) 1 1, .slice (some ⟨B + 2, 0, none⟩) 1 1]
      (((w0.alloc (.cells #[.string sB] 9)).alloc (.cells #[.string sA, .int .i64 0, .slice none 0 0, .slice (some ⟨B, 0, none⟩) 1 1, .bool false] 34)).alloc (.cells #[.string sA] 9))
      fun e w' => ∃ A c, e = .returned (.tuple #[.slice A 1 c, .int .i64 0]) ∧ Hid (SlS w' A [sA]) ∧ Hid (Below B w0 w') := by
  subst hB
  have hin : (⟨⟨recAB, false⟩, ⟨none, 0, some ⟨w0.heap.size, 0, none⟩, 1⟩⟩ : PV).in_ (w0.alloc (.cells #[.string sB] 9)) :=
    ⟨SlF.nil _ _, sl_one w0 9 [sB], by simp, by simp, by simp, by unfold maxLen; simp⟩
  obtain ⟨he, hr⟩ := with_small (ids := [sA]) (st_one okAB) (by simp)
  have hw : withR [⟨recAB, false⟩] [sA] = [sA] := hr.trans (with_one (r := recAB) (fun s hs => by rw [List.mem_singleton] at hs; subst hs; decide))
  have h1 : Below w0.heap.size w0 ((w0.alloc (.cells #[.string sB] 9)).alloc (.cells #[.string sA, .int .i64 0, .slice none 0 0, .slice (some ⟨w0.heap.size, 0, none⟩) 1 1, .bool false] 34)) := ((Below.refl _ _).alloc (Nat.le_refl _) _).alloc (by simp) _
  have hv := (vs_one _ _ hin).below ((Below.refl _ _).alloc (Nat.le_refl _) (.cells #[.string sA] 9))
  have hids := sl_one ((w0.alloc (.cells #[.string sB] 9)).alloc (.cells #[.string sA, .int .i64 0, .slice none 0 0, .slice (some ⟨w0.heap.size, 0, none⟩) 1 1, .bool false] 34)) 9 [sA]
  have hlit := with_fine 1 1 [sA] _ hv (st_one okAB) hids rfl hw he
  simp only [World.size_alloc, Nat.add_assoc, Nat.reduceAdd] at hlit
  refine hlit.mono ?_
  rintro e w1 ⟨A, k, c, rfl, hk, ho, hb⟩
  obtain rfl : k = 1 := hk.symm
  have h2 := h1.alloc (by simp; omega) (.cells #[.string sA] 9)
  exact ⟨A, c, rfl, (OwnS.at_ ho rfl).1, h2.trans (hb.mono h2.size)⟩
end Go.Proofs.YtodlabohijabnaaDoor

namespace Go.Proofs.YtodlabohijabnaaDoor
open Go.RowKit Go.Sort Go.Maps

abbrev recB : RecL := ⟨sB, 0, [], []⟩
theorem okB : recB.Ok := ⟨nameB, Int.le_refl _, by decide, by simp, by simp, fOk_mk (by simp [Asc]) (fun f hf => by cases hf), fun i s hi => absurd hi (Nat.not_lt_zero i)⟩
theorem st_two : stErr [⟨recAB, false⟩, ⟨recB, false⟩] = 0 := stErr_ok.2 ⟨by simp, (StOk.put (StOk.put stOk_nil okAB (by simp [same_nil]) : StOk ([] ++ [⟨recAB, false⟩])) okB (by have := same_le ([] ++ [⟨recAB, false⟩]) recB.cats; simp at this ⊢; omega) : StOk ([⟨recAB, false⟩] ++ [⟨recB, false⟩]))⟩
theorem getV_two {s : ByteArray} {v : VerL} : getV [⟨recAB, false⟩, ⟨recB, false⟩] s = some v ↔ (s = sA ∧ v = ⟨recAB, false⟩) ∨ (s = sB ∧ v = ⟨recB, false⟩) := by
  have e : ([⟨recAB, false⟩, ⟨recB, false⟩] : List VerL) = [⟨recAB, false⟩] ++ [⟨recB, false⟩] := rfl
  have hne : sA ≠ sB := by decide
  rw [e]
  by_cases h : s = recB.id
  · subst h
    rw [getV_put]
    exact ⟨fun k => .inr ⟨rfl, (Option.some.inj k).symm⟩, fun k => k.elim (fun k => absurd k.1.symm hne) fun k => by rw [k.2]⟩
  · rw [getV_other h, getV_one]
    exact ⟨fun k => .inl k, fun k => k.elim id fun k => absurd k.1 h⟩
theorem with_two : withL [⟨recAB, false⟩, ⟨recB, false⟩] [sA] = [sA, sB] :=
  asc_ext (picked_asc _ _) (by unfold Asc; simp [lAB]) fun s => by
    show s ∈ withL _ _ ↔ _
    rw [mem_withL]
    constructor
    · rintro ⟨⟨v, hv⟩, _⟩
      rcases getV_two.1 hv with ⟨e, _⟩ | ⟨e, _⟩ <;> simp [e]
    · intro h
      simp only [List.mem_cons, List.not_mem_nil, or_false] at h
      rcases h with e | e
      · exact ⟨⟨_, getV_two.2 (.inl ⟨e, rfl⟩)⟩, .inl (by simp [e])⟩
      · exact ⟨⟨_, getV_two.2 (.inr ⟨e, rfl⟩)⟩, .inr ⟨sA, _, by simp, getV_two.2 (.inl ⟨rfl, rfl⟩), by simp [e]⟩⟩
theorem withW_lit {B : Nat} (w0 : World) (hB : w0.heap.size = B) :
    Calls Tryd.prog 12 #[.slice (some ⟨B + 1, 0, none⟩) 2 2, .slice (some ⟨B + 2, 0, none⟩) 1 1]
      (((w0.alloc (.cells #[.string sB] 9)).alloc (.cells #[.string sA, .int .i64 0, .slice none 0 0, .slice (some ⟨B, 0, none⟩) 1 1, .bool false, .string sB, .int .i64 0, .slice none 0 0, .slice none 0 0, .bool false] 34)).alloc (.cells #[.string sA] 9))
      fun e w' => ∃ A c, e = .returned (.tuple #[.slice A 2 c, .int .i64 0]) ∧ Hid (SlS w' A [sA, sB]) ∧ Hid (Below B w0 w') := by
  subst hB
  have hin : (⟨⟨recAB, false⟩, ⟨none, 0, some ⟨w0.heap.size, 0, none⟩, 1⟩⟩ : PV).in_ (w0.alloc (.cells #[.string sB] 9)) :=
    ⟨SlF.nil _ _, sl_one w0 9 [sB], by simp, by simp, by simp, by unfold maxLen; simp⟩
  have hin2 : (⟨⟨recB, false⟩, ⟨none, 0, none, 0⟩⟩ : PV).in_ (w0.alloc (.cells #[.string sB] 9)) :=
    ⟨SlF.nil _ _, SlS.nil _ _, by simp, by simp, by simp, by simp⟩
  obtain ⟨he, hr⟩ := with_small (ids := [sA]) st_two (by simp)
  have hw := hr.trans with_two
  have h1 : Below w0.heap.size w0 ((w0.alloc (.cells #[.string sB] 9)).alloc (.cells #[.string sA, .int .i64 0, .slice none 0 0, .slice (some ⟨w0.heap.size, 0, none⟩) 1 1, .bool false, .string sB, .int .i64 0, .slice none 0 0, .slice none 0 0, .bool false] 34)) := ((Below.refl _ _).alloc (Nat.le_refl _) _).alloc (by simp) _
  have hv := (vs_two _ _ _ hin hin2).below ((Below.refl _ _).alloc (Nat.le_refl _) (.cells #[.string sA] 9))
  have hids := sl_one ((w0.alloc (.cells #[.string sB] 9)).alloc (.cells #[.string sA, .int .i64 0, .slice none 0 0, .slice (some ⟨w0.heap.size, 0, none⟩) 1 1, .bool false, .string sB, .int .i64 0, .slice none 0 0, .slice none 0 0, .bool false] 34)) 9 [sA]
  have hlit := with_fine 2 1 [sA] _ hv st_two hids rfl hw he
  simp only [World.size_alloc, Nat.add_assoc, Nat.reduceAdd] at hlit
  refine hlit.mono ?_
  rintro e w1 ⟨A, k, c, rfl, hk, ho, hb⟩
  obtain rfl : k = 2 := hk.symm
  have h2 := h1.alloc (by simp; omega) (.cells #[.string sA] 9)
  exact ⟨A, c, rfl, (OwnS.at_ ho rfl).1, h2.trans (hb.mono h2.size)⟩
end Go.Proofs.YtodlabohijabnaaDoor
