/- Contracts of slices.Values over names, of slices.Collect and slices.Sorted of that, and of slices.Compact behind it. -/
import Derived.Test.YtodlabohijabnaaRClone
import Derived.Test.YtodlabohijabnaaSIdsMath
import Derived.Test.YtodlabohijabnaaSSortNil
import Derived.Test.YtodlabohijabnaaShelf
import Derived.RangeFuncNested
import Derived.RangeFuncBound
import Derived.RangeFuncCalls
import Derived.RangeFuncLeaves
import Derived.RangeFuncBox
import Derived.Shelf.Abstract
import Derived.Shelf.RegionOpen
import Derived.OwnWalkIn
import Derived.TacticsInMore
import Derived.LoopNIn
import Derived.LoopIn
import Derived.Maps.AppendAt
import Derived.Sort.OwnSorted
import Derived.Shelf.Slices.CompactS
set_option linter.unusedVariables false
set_option linter.unusedSimpArgs false
set_option maxRecDepth 100000
namespace Go.Proofs.Ytodlabohijabnaa
open Go.RowKit Go.Shelf Go.Sort

attribute [local go_sem] Oper.semAt_some

set_option maxHeartbeats 2000000 in
theorem vals1_in (F : Fence) (n : Nat) (h8 : F.fn 26) (hro : F.round = none) (hn : 1 ≤ n) (i0 Bs cap : Nat) (a : Option Addr) (l : List ByteArray) (hl : l.length ≤ 9000000000000000000) (W0 : World) (hs : SlS W0 a l) (J Jx : List ByteArray → World → Prop)
    (hY : ∀ pre x W, J pre W → pre.length < l.length → YieldAt F (n - 1) Try.prog i0 #[.string x] W fun e W' =>
      (e = .returned (.bool true) ∧ J (pre ++ [x]) W' ∧ Below W0.heap.size W W') ∨ (e = .returned (.bool false) ∧ Jx (pre ++ [x]) W'))
    (W : World) (hB : Below W0.heap.size W0 W) (hBs : W0.cell? ⟨Bs, 0, none⟩ = some (.slice a l.length cap)) (h0 : J [] W) :
    CallsIn F n Try.prog 26 #[.func (.yield i0) #[] #[], .pointer (some ⟨Bs, 0, none⟩)] W fun e W' => (∃ v, e = .returned v) ∧
      ((∃ ys : List ByteArray, ys = l ∧ J ys W') ∨ (∃ pre : List ByteArray, (∃ k, k ≤ l.length ∧ pre = l.take k) ∧ Jx pre W')) := by
  have HS := Lib.hid hs
  have HY := Lib.hid hY
  have hc0 := (hB.cell (p := ⟨Bs, 0, none⟩) (cell_lt hBs)).trans hBs
  obtain ⟨N, hN⟩ : ∃ N, N = l.length := ⟨_, rfl⟩
  have HN := Lib.hid hN
  rw [← hN] at hl hBs hc0
  clear hs hY hN
  refine callsIn_of_wp Try.func26 rfl h8 ?_ hro
  simp only [Try.ntmps26, List.size_toArray, List.length_cons, List.length_nil, Nat.reduceAdd, Nat.reduceSub, Array.replicate_succ, Array.replicate_zero, List.push_toArray, List.append_toArray, List.nil_append, List.cons_append]
  gi_wp2
  gi_loopw [7] (fun i wr => ∃ (m : Nat) (pre : List ByteArray), i = .int .i64 (m : Int) ∧ m ≤ N ∧ Hid (pre = l.take m) ∧ J pre wr ∧ Below W0.heap.size W0 wr)
    (fun i wr => N - (intOf i).toNat)
  case atStart => exact ⟨0, [], rfl, Nat.zero_le _, rfl, h0, hB⟩
  case round =>
    clear hc0 hB h0
    obtain ⟨m, pre, rfl, hm, HP, hJ, hnx⟩ := hrel
    by_cases hlt : m < N
    · obtain ⟨x, hx⟩ : ∃ x, l[m]? = some x := ⟨_, List.getElem?_eq_getElem (by rw [← HN.out]; exact hlt)⟩
      obtain ⟨b, off, rfl, d0⟩ := (HS.out.keep (bcell hnx).1) m x hx
      obtain ⟨fn, tmps, assign, body, hy, hR⟩ := HY.out pre x wr hJ (by rw [HP.out, List.length_take, ← HN.out]; omega)
      have i1 : (0 : Int) ≤ (m : Int) := by omega
      have i2 : (m : Int) < (N : Int) := by omega
      have hnext : pre ++ [x] = l.take (m + 1) := by rw [HP.out, List.take_add_one, hx]; rfl
      have HNX := Lib.hid hnext
      clear hx hnext
      gi_wp2
      refine hR.mono ?_
      rintro e W3 (⟨rfl, hJ3, hk3⟩ | ⟨rfl, hJx3⟩)
      · gi_wp2
        go_roundw
        case rel => exact ⟨m + 1, pre ++ [x], by go_num, by omega, HNX.out, hJ3, hnx.trans hk3⟩
        case measure => simp [intOf]; omega
      · gi_wp2
        refine bodyPost_ret (results_none rfl _ _ _) rfl ?_
        exact ⟨⟨_, rfl⟩, .inr ⟨_, ⟨m + 1, by rw [← HN.out]; omega, HNX.out⟩, hJx3⟩⟩
    · obtain rfl : m = N := by omega
      have hall : pre = l := by
        have := HP.out
        rwa [List.take_of_length_le (by rw [← HN.out]; exact Nat.le_refl _)] at this
      have HALL := Lib.hid hall
      clear hall
      gi_wp2
      go_end0
      exact ⟨⟨_, rfl⟩, .inl ⟨pre, HALL.out, hJ⟩⟩

theorem vals_in (F : Fence) (n : Nat) (h5 : F.fn 11) (hro : F.round = none) (a : Option Addr) (len cap : Nat) (w : World) :
    CallsIn F n Try.prog 11 #[.slice a len cap] w fun e w' => e = .returned (.func (.func 26) #[] #[.pointer (some ⟨w.heap.size, 0, none⟩)]) ∧ w' = w.alloc (.cells #[.slice a len cap] 22) := by
  refine callsIn_of_wp Try.func11 rfl h5 ?_ hro
  simp only [Try.ntmps11, List.size_toArray, List.length_cons, List.length_nil, Nat.reduceAdd, Nat.reduceSub, Array.replicate_succ, Array.replicate_zero, List.push_toArray, List.append_toArray, List.nil_append, List.cons_append]
  gi_wp2
  go_ret
  exact ⟨rfl, rfl⟩

theorem vals_stops (F : Fence) (n : Nat) (h8 : F.fn 26) (hro : F.round = none) (hn : 1 ≤ n) (Bs cap : Nat) (a : Option Addr) (l : List ByteArray) (hl : l.length ≤ 9000000000000000000) (W0 : World) (hs : SlS W0 a l)
    (hBs : W0.cell? ⟨Bs, 0, none⟩ = some (.slice a l.length cap)) :
    SeqStopsK F n Try.prog 26 #[.pointer (some ⟨Bs, 0, none⟩)] (fun x : ByteArray => #[.string x]) (Below W0.heap.size) (fun ys => ys = l) (fun pre => ∃ k, k ≤ l.length ∧ pre = l.take k) l.length W0 :=
  fun i0 J Jx W hW _ _ hY h0 => vals1_in F n h8 hro hn i0 Bs cap a l hl W0 hs J Jx hY W hW hBs h0

def NilJust (v : Value) (l : List ByteArray) : Prop := v = .slice none 0 0 ↔ l = []

set_option maxHeartbeats 2000000 in
theorem apseq_in (F : Fence) (n : Nat) (h3 : F.fn 40) (h5 : F.fn 26) (hro : F.round = none) (hn : 3 ≤ n) (Bs cap : Nat) (a : Option Addr) (l : List ByteArray) (hl : l.length ≤ 9000000000000000000) (hbytes : l.length * 16 ≤ 140737488355328) (w : World) (hs : SlS w a l)
    (hBs : w.cell? ⟨Bs, 0, none⟩ = some (.slice a l.length cap)) :
    CallsIn F n Try.prog 40 #[.slice none 0 0, .func (.func 26) #[] #[.pointer (some ⟨Bs, 0, none⟩)]] w fun e W' => ∃ v, e = .returned v ∧ OwnS w.heap.size W' v l ∧ NilJust v l ∧ Below w.heap.size w W' := by
  have h1 : 1 ≤ n := by omega
  obtain ⟨i0, hi, hz0, hz1, hz2⟩ := info_parts Try.infoStr
  have HS := Lib.hid hs
  refine callsIn_of_wp_marks Try.func40 rfl h3 ?_ hro
  simp only [Try.ntmps40, List.size_toArray, List.length_cons, List.length_nil, Nat.reduceAdd, Nat.reduceSub, Array.replicate_succ, Array.replicate_zero, List.push_toArray, List.append_toArray, List.nil_append, List.cons_append]
  gi_wp2
  have bO := Boxed.new w 22 (.slice none 0 0)
  have hB0 : Below w.heap.size w (w.alloc (.cells #[.slice none 0 0] 22)) := (Below.refl _ w).alloc (Nat.le_refl _) _
  refine wpIn_rangeFunc_ownG hro h1 (gf := 26) (lb := #[.pointer (some ⟨Bs, 0, none⟩)]) rfl h5 (enters_of Try.func26 (by kernel_rfl) rfl)
    (vals_stops F (n - 1) h5 hro (by omega) Bs cap a l hl w hs hBs) belowK_t (belowK_b (by simp)) hB0 (fun _ => rfl)
    (fun pre W => (∃ v, Boxed W w.heap.size 22 v ∧ W.ownsRow w.heap.size 9 1 v pre.length (pre.map Value.string) ∧ NilJust v pre) ∧ Below w.heap.size w W)
    (fun _ _ _ => False)
    (OwnFrom.and (Own.from (holdsRow_own w.heap.size w.heap.size 22 9 1 (fun pre : List ByteArray => pre.length) (fun pre => pre.map Value.string) (fun pre v => NilJust v pre)) _) (ownFrom_below (Nat.le_refl _) (by simp)))
    (fun _ _ _ _ _ hs _ _ => hs)
    ⟨⟨_, bO, World.ownsRow_nil _ _ _ _, by simp [NilJust]⟩, hB0⟩
    (fun x => { tmps := #[.slice none 0 0, .func (.func 26) #[] #[.pointer (some ⟨Bs, 0, none⟩)], .pointer (some ⟨w.heap.size, 0, none⟩), undef, .slice none 0 0, .string x, .func (.func 26) #[] #[.pointer (some ⟨Bs, 0, none⟩)], .string x, undef, undef, undef, undef, undef], defers := [] }) ?assign ?body ?done ?stop
  case assign =>
    intro l x W K hK
    gi_wp2
    exact hK
  case body =>
    rintro lp pre x W ⟨⟨v, hv, hrow, hnil⟩, hB⟩ hlt
    have hc := hv.cell
    have HNIL := Lib.hid hnil
    clear hnil
    gi_wp2_with (gi_at_builtin; refine wpListIn_append_own _ rfl _ _ 22 rfl w.heap.size 9 i0 (.string ⟨#[]⟩) 1 16 Try.underlying22 hi hz0 hz1 hz2 rfl (by decide) _ _ _ rfl (hrow.alloc _) ⟨W.heap.size, 0, none⟩ 1 1 [.string x] rfl rfl (cell_one_new _ _ _) (by simp [Value.oneCell']) (by unfold maxLen; omega) (by omega) (by have := hB.size; simp; omega) ?_; intro v' w1 hown' hgrow _; obtain ⟨g', cap', rfl⟩ := ownsRow_succ hown'; obtain ⟨hv1, hv2, hr2, hk2, hb2⟩ := hv.appended (by decide) hrow hB.size (Nat.le_refl _) hown' hgrow; have hc1 := hv1.cell; have hf1 := hv1.frozen)
    exact ⟨hk2.from _, hb2, ⟨_, hv2, by simpa using hr2, by simp [NilJust]⟩, hB.trans hb2⟩
  case done =>
    rintro D ys W hD rfl ⟨⟨v, hv, hrow, hnil⟩, hB⟩ hK
    have hc := hv.cell
    have HNIL := Lib.hid hnil
    clear hnil
    gi_wp2
    refine ⟨by simp, .inl ⟨_, _, rfl, run_takeDeferred hK, ?_⟩⟩
    exact ⟨_, results_tmp rfl _ _ _, v, rfl, ownsRow_putObj hrow _ hK rfl, HNIL.out, hB.trans (belowK_b (w := w) (Nat.le_refl _) W D _ _ (by simp at hD; omega) hK rfl rfl)⟩
  case stop =>
    rintro D c pre W _ _ h _
    exact h.elim

theorem vals_is (a : Option Addr) (len cap : Nat) (w : World) :
    Calls Try.prog 11 #[.slice a len cap] w fun e w' => e = .returned (.func (.func 26) #[] #[.pointer (some ⟨w.heap.size, 0, none⟩)]) ∧ w' = w.alloc (.cells #[.slice a len cap] 22) :=
  (callsIn_wide (n := 1)).1 (vals_in Fence.wide 1 trivial rfl a len cap w)

theorem SlS.nil' (w : World) (a : Option Addr) {l : List ByteArray} (h : l = []) : SlS w a l := by rw [h]; exact SlS.nil _ _
def CollTo (l : List ByteArray) (w : World) (e : Ending) (w' : World) : Prop := ∃ v, e = .returned v ∧ OwnS w.heap.size w' v l ∧ NilJust v l ∧ Below w.heap.size w w'

set_option maxHeartbeats 1000000 in
theorem collect_is {n : Nat} (Bs cap : Nat) (a : Option Addr) (l : List ByteArray) (hn : l.length = n) (hl : n ≤ 9000000000000000000) (hbytes : n * 16 ≤ 140737488355328) (w : World) (hs : SlS w a l)
    (hBs : w.cell? ⟨Bs, 0, none⟩ = some (.slice a n cap)) :
    Calls Try.prog 24 #[.func (.func 26) #[] #[.pointer (some ⟨Bs, 0, none⟩)]] w (CollTo l w) := by
  subst hn
  have hap := (callsIn_wide (n := 4)).1 (apseq_in Fence.wide 4 trivial trivial rfl (by omega) Bs cap a l hl hbytes w hs hBs)
  have HAP := Lib.hid hap
  clear hap hs hBs
  go_enter Try.func24, Try.ntmps24
  go_wp2_with fail
  refine HAP.out.mono ?_
  rintro e w1 ⟨v, rfl, ho, hnil, hb⟩
  have HO := Lib.hid ho
  have HNI := Lib.hid hnil
  have HB := Lib.hid hb
  clear ho hnil hb
  go_wp2_with fail
  go_ret
  exact ⟨v, rfl, HO.out, HNI.out, HB.out⟩

/-- sorted -/
def sortB (l : List ByteArray) : List (List UInt8) := (l.map fun s => s.data.toList).mergeSort fun x y => decide (x ≤ y)
def toNames (zs : List (List UInt8)) : List ByteArray := zs.map fun b => ⟨b.toArray⟩
theorem sortB_len (l : List ByteArray) : (sortB l).length = l.length := by unfold sortB; simp
/-- the names of a list, sorted and each once -/
def sortedN (l : List ByteArray) : List ByteArray := toNames (Lib.compact (sortB l))
theorem sortedN_eq (l : List ByteArray) : sortedN l = namesOf (l.map fun s => s.data.toList) := rfl

def SortTo (l : List ByteArray) (w : World) (e : Ending) (w' : World) : Prop := (l = [] ∧ e = .returned (.slice none 0 0) ∧ Below w.heap.size w w') ∨
  (∃ g c, e = .returned (.slice (some ⟨g, 0, none⟩) l.length c) ∧ w'.ownsRow w.heap.size 9 1 (.slice (some ⟨g, 0, none⟩) l.length c) l.length ((sortB l).map encStr) ∧ Below w.heap.size w w')

theorem map_enc (l : List ByteArray) : (l.map fun s => s.data.toList).map encStr = l.map Value.string := by
  rw [List.map_map]
  exact List.map_congr_left fun s _ => by simp [encStr]

set_option maxHeartbeats 2000000 in
theorem sorted_of {n : Nat} (Bs cap : Nat) (a : Option Addr) (l : List ByteArray) (hn : l.length = n) (hl : n ≤ 4000000000000000000) (hbytes : n * 16 ≤ 140737488355328) (w : World) (hs : SlS w a l)
    (hBs : w.cell? ⟨Bs, 0, none⟩ = some (.slice a n cap)) :
    Calls Try.prog 10 #[.func (.func 26) #[] #[.pointer (some ⟨Bs, 0, none⟩)]] w (SortTo l w) := by
  have HC := Lib.hid (collect_is Bs cap a l hn (by omega) hbytes w hs hBs)
  have HN := Lib.hid hn
  clear hs hBs hn
  go_enter Try.func10, Try.ntmps10
  go_wp2_with fail
  refine HC.out.mono ?_
  rintro e w1 ⟨v, rfl, ho, hnil, hb⟩
  have HB := Lib.hid hb
  rcases ho.2 with ⟨rfl, h0⟩ | ⟨g, c, cur, rfl, hbase, hgb, r1, r2, r3, r4⟩
  · obtain rfl : l = [] := List.eq_nil_of_length_eq_zero h0
    clear ho hnil hb HN
    go_wp2_with fail
    refine (sort_nil none 0 _).mono ?_
    rintro e w' ⟨rfl, rfl⟩
    go_wp2_with fail
    go_ret
    exact .inl ⟨rfl, rfl, HB.out⟩
  · have hgl : g < w1.heap.size := (Array.getElem?_eq_some_iff.1 hgb).1
    have hH : Holds encStr w1 g 0 (l.map fun s => s.data.toList).toArray := holds_of_block hgb (by rw [map_enc]; simpa [cellsS] using r4)
    have hsort : Calls Try.prog 25 #[.slice (some ⟨g, 0, none⟩) l.length c] w1 fun e w' => e = .returned (.tuple #[]) ∧ (w'.ownsRow w.heap.size 9 1 (.slice (some ⟨g, 0, none⟩) l.length c) l.length ((sortB l).map encStr) ∧ w1.grownBy w' (some g)) := by
      have h1 := Any.slices_Sort_string Try.lays190 g 0 c (l.map fun s => s.data.toList) w1 hH hgl (by rw [List.length_map, HN.out]; omega)
      rw [List.length_map] at h1
      refine h1.mono fun e w' ⟨he, nn, os, hw⟩ => ?_
      subst hw
      have h2 := ownsRow_sorted (w := w1) (n := nn) (os := os) (ss := l.map fun s => s.data.toList) (ts := sortB l) (e := 9) (base := w.heap.size) (cap := c) (by rw [sortB_len]; simp) hbase hgb (by simpa using r1) r2 r3
      rw [List.length_map] at h2
      exact ⟨he, h2, grownBy_sorted _⟩
    have HSO := Lib.hid hsort
    obtain ⟨m, hm⟩ : ∃ m, l.length = m := ⟨_, rfl⟩
    have HM := Lib.hid hm
    rw [hm] at HSO ⊢
    clear ho hnil hb hgb r1 r2 r3 r4 hH hsort hm HN HC
    have HBA := Lib.hid hbase
    clear hbase hgl
    go_wp2_with fail
    refine HSO.out.mono ?_
    rintro e w2 ⟨rfl, hrow, hg⟩
    have HR := Lib.hid hrow
    have HB2 := Lib.hid (HB.out.grown hg HB.out.size (fun j hj => by cases hj; exact HBA.out))
    clear hrow hg HSO
    go_wp2_with fail
    go_ret
    refine .inr ⟨g, c, (by rw [HM.out]; rfl), ?_, HB2.out⟩
    rw [HM.out]
    exact HR.out

/-- slices.Compact of what was sorted -/
theorem compact_of {B m : Nat} (g c : Nat) (l : List ByteArray) (w : World) (hl : l.length = m) (hrow : w.ownsRow B 9 1 (.slice (some ⟨g, 0, none⟩) m c) m ((sortB l).map encStr)) (hB : B ≤ w.heap.size) :
    Calls Try.prog 9 #[.slice (some ⟨g, 0, none⟩) m c] w fun e w' => e = .returned (.slice (some ⟨g, 0, none⟩) (sortedN l).length c) ∧ OwnS B w' (.slice (some ⟨g, 0, none⟩) (sortedN l).length c) (sortedN l) ∧ Below B w w' := by
  obtain ⟨cur3, hb3, hbase, h13, h23, h33, h43⟩ : ∃ cur3, w.heap[g]? = some (.cells cur3 9 (0, 0)) ∧ B ≤ g ∧ m ≤ c ∧ c ≤ maxLen ∧ cur3.size = c * 1 ∧ cur3.toList.take (m * 1) = (sortB l).map encStr := by
    rcases hrow.2 with ⟨e1, _⟩ | ⟨g', cap', cur', e1, hb', hh', k1, k2, k3, k4⟩
    · cases e1
    · injection e1 with ea _ ec
      injection ea with ea
      injection ea with ea
      subst ea ec
      exact ⟨cur', hh', hb', k1, k2, k3, k4⟩
  have hzl : (sortB l).length = m := by rw [sortB_len, hl]
  have hholds : Holds encStr w g 0 (sortB l).toArray := holds_of_block hb3 (by rw [hzl]; simpa using h43)
  have hcomp := Any.slices_Compact_string Try.lays194 g 0 c (sortB l) w hholds (by rw [hzl]; unfold maxLen at *; omega) (by rw [hzl]; exact h13)
  rw [hzl] at hcomp
  have hcl : (Lib.compact (sortB l)).length ≤ m := by
    rw [← hzl]
    unfold Lib.compact Lib.compactUpTo
    rw [List.length_map]
    exact Nat.le_trans (List.length_filter_le _ _) (by simp)
  have hsl : (sortedN l).length = (Lib.compact (sortB l)).length := by unfold sortedN toNames; rw [List.length_map]
  rw [hsl]
  refine hcomp.mono fun e w' ⟨he, q, hw⟩ => ?_
  have hrow4 := ownsRow_sorted (w := w) (n := q) (os := #[]) (ss := sortB l) (ts := Lib.compact (sortB l) ++ List.replicate (m - (Lib.compact (sortB l)).length) []) (e := 9) (base := B) (cap := c) (by rw [List.length_append, List.length_replicate, hzl]; omega) hbase hb3 (by rw [hzl]; exact h13) h23 h33
  have hg4 : w.grownBy (grow (putRow encStr (Sort.ahead w q) g 0 (Lib.compact (sortB l) ++ List.replicate (m - (Lib.compact (sortB l)).length) []).toArray) #[]) (some g) := grownBy_sorted _
  rw [grow_empty, ← hw] at hrow4 hg4
  refine ⟨he, ?_, (Below.refl B w).grown hg4 hB (fun j hj => by cases hj; exact hbase)⟩
  have hcut : ((Lib.compact (sortB l) ++ List.replicate (m - (Lib.compact (sortB l)).length) []).map encStr).take (Lib.compact (sortB l)).length = cellsS (sortedN l) := by
    rw [List.map_append, List.take_left' (by simp)]
    unfold cellsS sortedN toNames
    rw [List.map_map]
    rfl
  unfold OwnS
  rw [hsl, ← hcut]
  rcases hrow4.2 with ⟨e1, _⟩ | ⟨g', cap', cur', e1, hb', hh', k1, k2, k3, k4⟩
  · cases e1
  · injection e1 with ea _ ec
    injection ea with ea
    injection ea with ea
    subst ea ec
    refine ⟨by rw [List.length_take, hrow4.1, hzl]; omega, .inr ⟨g, c, cur', rfl, hb', hh', by omega, k2, k3, ?_⟩⟩
    rw [← k4, List.take_take, Nat.mul_one, hzl, Nat.mul_one]
    congr 1
    omega
end Go.Proofs.Ytodlabohijabnaa
