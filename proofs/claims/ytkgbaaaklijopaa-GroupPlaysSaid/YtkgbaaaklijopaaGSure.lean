/- Sure: what more than half of all nodes told. -/
import Derived.Test.YtkgbaaaklijopaaGAdd
import Derived.Test.YtkgbaaaklijopaaGSureM
import Derived.Test.YtkgbaaaklijopaaShelf
import Derived.Sort.OwnSortedInts
set_option linter.unusedVariables false
set_option linter.unusedSimpArgs false
set_option maxRecDepth 100000
namespace Go.Proofs.Ytkgbaaaklijopaa
open Go.RowKit Go.Sort Go.Shelf

theorem Try.infoInt : (Try.prog.info? 3).map (fun i => (i.zero, i.size, i.bytes)) = some (some (.int .i64 0), 1, 8) := by kernel_rfl

/-- the value v owns, from block B on, these numbers -/
def OwnZ (B : Nat) (w : World) (v : Value) (zs : List Int) : Prop := w.ownsRow B 3 1 v zs.length (zs.map (Value.int .i64))
theorem OwnZ.below {B : Nat} {w w' : World} {v : Value} {zs : List Int} (h : OwnZ B w v zs) (hb : Below w.heap.size w w') : OwnZ B w' v zs := own_below h hb
theorem own_cell {w : World} {B g n c : Nat} {zs : List Int} (h : OwnZ B w (.slice (some ⟨g, 0, none⟩) n c) zs) {k : Nat} {z : Int} (hk : zs[k]? = some z) : w.cell? ⟨g, k, none⟩ = some (.int .i64 z) := by
  have := World.ownsRow.cells h (g := g) rfl k (.int .i64 z) (by rw [List.getElem?_map, hk]; rfl)
  rwa [addr_at] at this
theorem ownZ_form {w : World} {B n : Nat} {v : Value} {zs : List Int} (h : OwnZ B w v zs) (hn : 0 < zs.length) : ∃ g c, v = .slice (some ⟨g, 0, none⟩) zs.length c ∧ B ≤ g ∧ zs.length ≤ c ∧ c ≤ maxLen := by
  rcases h.2 with ⟨_, e⟩ | ⟨g, c, cur, e, h1, _, h2, h3, _⟩
  · omega
  · exact ⟨g, c, e, h1, h2, h3⟩
theorem run_appZ {w : World} (ty : TypeId) {B c : Nat} {v : Value} {zs : List Int} {g : Nat} {z : Int} (hown : OwnZ B w v zs) (hq : w.cell? ⟨g, 0, none⟩ = some (.int .i64 z)) (hn : zs.length ≤ 1000) (hB : B ≤ w.heap.size) :
    ∃ g' c' w', (Builtin.append_ #[31, 31] ty #[v, .slice (some ⟨g, 0, none⟩) 1 c]).run Try.prog w = .ok (.slice (some ⟨g', 0, none⟩) (zs.length + 1) c') w' ∧ OwnZ B w' (.slice (some ⟨g', 0, none⟩) (zs.length + 1) c') (zs ++ [z]) ∧ Below B w w' := by
  obtain ⟨i0, hi, hz0, hz1, hz2⟩ := info_parts Try.infoInt
  obtain ⟨v', w', hrun, hown', hgrow, hnn⟩ := run_append_own (P := Try.prog) w B 31 ty 3 i0 _ 1 8 Try.underlying31 hi hz0 hz1 hz2 rfl (by decide) v zs.length (zs.map (Value.int .i64)) hown ⟨g, 0, none⟩ 1 c [.int .i64 z] rfl (fun j u hj => by
    match j, hj with
    | 0, hj => cases hj; rw [addr_at]; exact hq
    | j + 1, hj => simp at hj) (fun u hu => by rw [List.mem_singleton.1 hu]; rfl) (by unfold maxLen; omega) (by omega) hB
  have ho : OwnZ B w' v' (zs ++ [z]) := by
    unfold OwnZ
    rw [List.length_append, List.map_append]
    exact hown'
  obtain ⟨g', c', e, _⟩ := ownZ_form (n := 0) ho (by simp)
  subst e
  rw [List.length_append] at ho hrun
  exact ⟨g', c', w', hrun, ho, (Below.refl B w).grown hgrow hB (fun j hj => (World.ownsRow.lt hown j hj).1)⟩

/-- what is sorted -/
theorem sortZ_is {B g c n : Nat} {zs : List Int} (w : World) (h : OwnZ B w (.slice (some ⟨g, 0, none⟩) n c) zs) (hn : zs.length = n) (h5 : n ≤ 1000) (hB : B ≤ w.heap.size) :
    Calls Try.prog 38 #[.slice (some ⟨g, 0, none⟩) n c] w fun e w' => e = .returned (.tuple #[]) ∧ Below B w w' ∧ OwnZ B w' (.slice (some ⟨g, 0, none⟩) n c) (zs.mergeSort fun x y => decide (x ≤ y)) := by
  subst hn
  rcases h.2 with ⟨e1, _⟩ | ⟨g', c', cur, e1, hbase, hgb, r1, r2, r3, r4⟩
  · cases e1
  · injection e1 with ea ek ec
    injection ea with ea
    injection ea with ea
    subst ea ec
    have hgl : g < w.heap.size := (Array.getElem?_eq_some_iff.1 hgb).1
    have hH : Holds (Value.int .i64) w g 0 zs.toArray := holds_of_blockI hgb (by simpa using r4)
    refine (Any.slices_Sort_int Try.lays189 g 0 c zs w hH hgl (by omega)).mono fun e w' ⟨he, nn, os, hw⟩ => ?_
    subst hw
    refine ⟨he, (Below.refl B w).grown (grownBy_sortedI _) hB (fun j hj => by cases hj; exact hbase), ?_⟩
    have h3 := ownsRow_sortedI (w := w) (n := nn) (os := os) (ss := zs) (ts := zs.mergeSort fun x y => decide (x ≤ y)) (e := 3) (base := B) (cap := c) (by simp) hbase hgb r1 r2 r3
    unfold OwnZ
    rw [List.length_mergeSort]
    exact h3

/-- what all nodes told -/
def GrpX.tolds (X : GrpX) : List Nat := (X.L 0).length :: (List.range X.n).map fun j => X.told (j + 1)
theorem GrpX.tolds_len (X : GrpX) : X.tolds.length = X.n + 1 := by unfold GrpX.tolds; simp
theorem GrpX.tolds_zero (X : GrpX) : X.tolds[0]? = some (X.L 0).length := rfl
theorem GrpX.tolds_succ (X : GrpX) {j : Nat} (h : j < X.n) : X.tolds[j + 1]? = some (X.told (j + 1)) := by
  unfold GrpX.tolds
  rw [List.getElem?_cons_succ, List.getElem?_map, List.getElem?_range h]
  rfl

def SureTo (l : List Nat) (w : World) (e : Ending) (w' : World) : Prop := ∃ s, e = .returned (.int .i64 (s : Nat)) ∧ IsSure l s ∧ Below w.heap.size w w'

set_option maxHeartbeats 2000000 in
theorem sure_any {w : World} {O : Nat → Prop} {p q : Nat} {X : GrpX} (h : Grp w O p q X) :
    Calls Try.prog 24 #[ptr p] w (SureTo X.tolds w) := by
  obtain ⟨A, C, h⟩ := h
  have c0 := h.cl 0 (Nat.zero_le _)
  rw [gloc_zero] at c0
  have c1 := h.c1
  have h4 := h.ok.n4
  have HCL := Lib.hid (fun j (hj : j < X.n) => h.cl (j + 1) hj)
  have HCT := Lib.hid h.ct
  obtain ⟨T, hT⟩ : ∃ T, X.tolds.map (fun (x : Nat) => (x : Int)) = T := ⟨_, rfl⟩
  have HTL : Hid (T.length = X.n + 1) := by rw [← hT, List.length_map]; exact X.tolds_len
  have HT0 : Hid (T[0]? = some ((X.L 0).length : Int)) := by rw [← hT, List.getElem?_map, X.tolds_zero]; rfl
  have HTS : Hid (∀ j, j < X.n → T[j + 1]? = some (X.told (j + 1) : Int)) := fun j hj => by rw [← hT, List.getElem?_map, X.tolds_succ hj]; rfl
  have HT := Lib.hid hT
  have hpl := h.lt p h.op
  have hql := h.lt q h.oq
  generalize hl : X.tolds = l at HT ⊢
  have HLL : Hid (l.length = X.n + 1) := by rw [← hl]; exact X.tolds_len
  generalize A 0 = a0 at c0
  generalize C 0 = kc0 at c0
  generalize (X.L 0).length = k0 at c0 HT0
  clear h hT hl
  go_enter Try.func24, Try.ntmps24
  go_wp2_with fail
  go_loopw [3, 18] (fun v i wr => ∃ k g c, k ≤ X.n ∧ i = .int .i64 (k : Int) ∧ v = .slice (some ⟨g, 0, none⟩) (k + 1) c ∧ Hid (OwnZ w.heap.size wr (.slice (some ⟨g, 0, none⟩) (k + 1) c) (T.take (k + 1))) ∧ Hid (Below w.heap.size w wr)) (fun _ i _ => X.n - (intOf i).toNat)
  case atStart =>
    refine ⟨0, w.heap.size, 1, Nat.zero_le _, rfl, rfl, ?_, (Below.refl _ _).alloc (Nat.le_refl _) _⟩
    have e : T.take (0 + 1) = [(k0 : Int)] := by
      obtain ⟨x, r, hx⟩ : ∃ x r, T = x :: r := by
        cases T with
        | nil => exact absurd HT0.out (by simp)
        | cons x r => exact ⟨x, r, rfl⟩
      have := HT0.out
      rw [hx] at this ⊢
      simp only [List.getElem?_cons_zero, Option.some.injEq] at this
      rw [this]
      rfl
    rw [e]
    exact World.ownsRow_lit w #[.int .i64 k0] 1 (Nat.le_refl _) (by decide) rfl
  case round =>
    obtain ⟨k, g, c, hk, rfl, rfl, HO, HB⟩ := hrel
    by_cases hlt : k < X.n
    · have i1 : (0 : Int) ≤ (k : Int) := by omega
      have i2 : (k : Int) < (X.n : Int) := by omega
      have d0 := (HB.out.cell (p := ⟨q, k * 2, none⟩) hql).trans (HCL.out k hlt)
      have d1 := (HB.out.cell (p := ⟨q, k * 2 + 1, none⟩) hql).trans (HCT.out k hlt)
      have hx := HTS.out k hlt
      generalize X.told (k + 1) = x at d1 hx
      generalize (X.L (k + 1)).length = kl at d0
      generalize A (k + 1) = ka at d0
      generalize C (k + 1) = kc at d0
      have hbw := HB.out.size
      have hA : Below wr.heap.size wr ((wr.alloc (.cells #[.slice ka kl kc, .int .i64 x] 59)).alloc (.cells #[.int .i64 x] 3)) := ((Below.refl _ _).alloc (Nat.le_refl _) _).alloc (by simp) _
      have htk : (T.take (k + 1)).length = k + 1 := by rw [List.length_take, HTL.out]; omega
      obtain ⟨g', c', w', hrun, ho', hb'⟩ := run_appZ (c := 1) (g := wr.heap.size + 1) (z := (x : Int)) 31 (HO.out.below hA) (by simp [go_sem]) (by omega) (by simp; omega)
      rw [htk] at hrun ho'
      have HO' := Lib.hid ho'
      have HB' := Lib.hid ((HB.out.trans (hA.mono hbw)).trans hb')
      have HX := Lib.hid hx
      clear hA htk ho' hb' hx hbw
      go_wp2_with (at_builtin; refine wpList_app_run rfl (.tmp 22) (.tmp 25) 31 rfl (.slice (some ⟨g, 0, none⟩) (k + 1) c) (.slice (some ⟨wr.heap.size + 1, 0, none⟩) 1 1) (by simp [Act.eval, Act.put]) (by simp [Act.eval, Act.put]) hrun ?_)
      go_roundw
      case rel =>
        refine ⟨k + 1, g', c', by omega, by go_num, rfl, ?_, HB'.out⟩
        have e : T.take (k + 1 + 1) = T.take (k + 1) ++ [(x : Int)] := by rw [List.take_add_one, HX.out]; rfl
        rw [e]
        exact HO'.out
      case measure => simp [intOf]; omega
    · obtain rfl : k = X.n := by omega
      have hbw := HB.out.size
      have ho := HO.out
      rw [List.take_of_length_le (by rw [HTL.out]; exact Nat.le_refl _)] at ho
      have HS := Lib.hid (sortZ_is wr ho HTL.out (by omega) hbw)
      have i2 : ¬ (X.n : Int) < (X.n : Int) := by omega
      clear ho HO
      go_wp2_with fail
      refine HS.out.mono ?_
      rintro e w5 ⟨rfl, hb5, ho5⟩
      have HB5 := Lib.hid (HB.out.trans hb5)
      obtain ⟨ix, hix⟩ : ∃ ix, ix + ((X.n + 1) / 2 + 1) = X.n + 1 := ⟨X.n + 1 - ((X.n + 1) / 2 + 1), by omega⟩
      have hll : (T.mergeSort fun x y => decide (x ≤ y)).length = X.n + 1 := by rw [List.length_mergeSort, HTL.out]
      obtain ⟨z, hz⟩ : ∃ z, (T.mergeSort fun x y => decide (x ≤ y))[ix]? = some z := ⟨_, List.getElem?_eq_getElem (by rw [hll]; omega)⟩
      have hzm : z ∈ T := List.mem_mergeSort.1 (List.mem_of_getElem? hz)
      rw [← HT.out] at hzm
      obtain ⟨s, _, hsz⟩ := List.mem_map.1 hzm
      have hcell := own_cell ho5 hz
      rw [← hsz] at hz hcell
      have HIS : Hid (IsSure l s) := sure_sorted (L := T.mergeSort fun x y => decide (x ≤ y)) (by rw [HT.out]; exact List.mergeSort_perm _ _)
        ((List.pairwise_mergeSort (fun a b c h1 h2 => by simp only [decide_eq_true_eq] at *; omega) (fun a b => by simp only [Bool.or_eq_true, decide_eq_true_eq]; omega) T).imp fun h => by simpa using h) hz (by rw [HLL.out]; exact hix)
      clear hz hzm hll hb5 ho5 hsz HS HB HCL HCT HTL HT0 HTS HT HLL c0 c1 hbw
      generalize X.n = n at h4 hix i2 ⊢
      have hn : n = 0 ∨ n = 1 ∨ n = 2 ∨ n = 3 ∨ n = 4 := by omega
      rcases hn with rfl | rfl | rfl | rfl | rfl
      · obtain rfl : ix = 0 := by omega
        go_wp2_with fail
        go_ret
        exact ⟨s, rfl, HIS.out, HB5.out⟩
      · obtain rfl : ix = 0 := by omega
        go_wp2_with fail
        go_ret
        exact ⟨s, rfl, HIS.out, HB5.out⟩
      · obtain rfl : ix = 1 := by omega
        go_wp2_with fail
        go_ret
        exact ⟨s, rfl, HIS.out, HB5.out⟩
      · obtain rfl : ix = 1 := by omega
        go_wp2_with fail
        go_ret
        exact ⟨s, rfl, HIS.out, HB5.out⟩
      · obtain rfl : ix = 2 := by omega
        go_wp2_with fail
        go_ret
        exact ⟨s, rfl, HIS.out, HB5.out⟩
end Go.Proofs.Ytkgbaaaklijopaa
