/- The contract of slices.Backward over versions. -/
import Derived.Test.YteimdhkajbldjaaGreatSCount
import Derived.RangeFuncNested
import Derived.RangeFuncBound
import Derived.RangeFuncCalls
import Derived.RangeFuncLeaves
import Derived.RangeFuncBox
import Derived.Shelf.Abstract
import Derived.Shelf.RegionOpen
import Derived.OwnWalkIn
import Derived.TacticsInMore
import Derived.LoopNIn
import Derived.LoopIn
set_option linter.unusedVariables false
set_option linter.unusedSimpArgs false
set_option maxRecDepth 100000
namespace Go.Proofs.YteimdhkajbldjaaGreat
open Go.RowKit Go.Shelf

attribute [local go_sem] Oper.semAt_some

/-- what comes: a place, and a version of the list -/
abbrev Came (l : List PV) := Nat × { x : PV // x ∈ l }
def Came.enc {l : List PV} (x : Came l) : Array Value := #[.int .i64 (x.1 : Int), .agg #[.string x.2.1.v.r.id, .int .i64 x.2.1.v.r.cats, .slice x.2.1.p.fa x.2.1.v.r.fs.length x.2.1.p.fc, .slice x.2.1.p.ra x.2.1.v.r.rs.length x.2.1.p.rc, .bool x.2.1.v.gone]]

set_option maxHeartbeats 2000000 in
theorem back1_in (F : Fence) (n : Nat) (h8 : F.fn 136) (hro : F.round = none) (hn : 1 ≤ n) (i0 Bs cap : Nat) (a : Option Addr) (l : List PV) (hl : l.length ≤ 5120) (W0 : World) (hs : SlW W0 a l) (J Jx : List (Came l) → World → Prop)
    (hY : ∀ pre x W, J pre W → pre.length < l.length → YieldAt F (n - 1) Tryz.prog i0 (Came.enc x) W fun e W' =>
      (e = .returned (.bool true) ∧ J (pre ++ [x]) W' ∧ Below W0.heap.size W W') ∨ (e = .returned (.bool false) ∧ Jx (pre ++ [x]) W'))
    (W : World) (hB : Below W0.heap.size W0 W) (hBs : W0.cell? ⟨Bs, 0, none⟩ = some (.slice a l.length cap)) (h0 : J [] W) :
    CallsIn F n Tryz.prog 136 #[.func (.yield i0) #[] #[], .pointer (some ⟨Bs, 0, none⟩)] W fun e W' => (∃ v, e = .returned v) ∧
      ((∃ ys : List (Came l), ys.map (·.2.1) = l.reverse ∧ J ys W') ∨ (∃ pre : List (Came l), (∃ k, k ≤ l.length ∧ pre.map (·.2.1) = l.reverse.take k) ∧ Jx pre W')) := by
  have HS := Lib.hid hs
  have HY := Lib.hid hY
  have hc0 := (hB.cell (p := ⟨Bs, 0, none⟩) (cell_lt hBs)).trans hBs
  obtain ⟨N, hN⟩ : ∃ N, N = l.length := ⟨_, rfl⟩
  have HN := Lib.hid hN
  rw [← hN] at hl hBs hc0
  clear hs hY hN
  refine callsIn_of_wp Tryz.func136 rfl h8 ?_ hro
  simp only [Tryz.ntmps136, List.size_toArray, List.length_cons, List.length_nil, Nat.reduceAdd, Nat.reduceSub, Array.replicate_succ, Array.replicate_zero, List.push_toArray, List.append_toArray, List.nil_append, List.cons_append]
  gi_wp2
  gi_loopw [3] (fun i wr => ∃ (m : Nat) (pre : List (Came l)), i = .int .i64 ((m : Int) - 1) ∧ pre.length + m = N ∧ Hid (pre.map (·.2.1) = l.reverse.take pre.length) ∧ J pre wr ∧ Below W0.heap.size W0 wr)
    (fun i _ => (intOf i + 1).toNat)
  case atStart => exact ⟨N, [], rfl, by simp, rfl, h0, hB⟩
  case round =>
    clear hc0 hB h0
    obtain ⟨m, pre, rfl, hm, HP, hJ, hnx⟩ := hrel
    have hcx := (hnx.cell (p := ⟨Bs, 0, none⟩) (cell_lt hBs)).trans hBs
    cases m with
    | zero =>
      obtain rfl : pre.length = N := by omega
      have hall : pre.map (·.2.1) = l.reverse := by
        have := HP.out
        rwa [List.take_of_length_le (by rw [List.length_reverse, ← HN.out]; exact Nat.le_refl _)] at this
      have HALL := Lib.hid hall
      clear hall
      gi_wp2
      go_end0
      exact ⟨⟨_, rfl⟩, .inl ⟨pre, HALL.out, hJ⟩⟩
    | succ m =>
      have e : (((m + 1 : Nat) : Int) - 1) = (m : Int) := by omega
      rw [e]
      clear e
      obtain ⟨x, hx⟩ : ∃ x, l[m]? = some x := ⟨_, List.getElem?_eq_getElem (by rw [← HN.out]; omega)⟩
      have hxm := List.mem_of_getElem? hx
      obtain ⟨b, off, ha, d0, d1, d2, d3, d4⟩ := ((HS.out.below hnx) m x hx).2
      subst ha
      obtain ⟨fn, tmps, assign, body, hy, hR⟩ := HY.out pre (m, ⟨x, hxm⟩) wr hJ (by rw [← HN.out]; omega)
      have i1 : (0 : Int) ≤ (m : Int) := by omega
      have i2 : (m : Int) < (N : Int) := by omega
      simp only [Came.enc] at hy
      have hnext : (pre ++ [((m, ⟨x, hxm⟩) : Came l)]).map (fun y : Came l => y.2.1) = l.reverse.take (pre.length + 1) := by
        have hr : l.reverse[pre.length]? = some x := by
          rw [List.getElem?_reverse (by rw [← HN.out]; omega), ← HN.out, show N - 1 - pre.length = m by omega]
          exact hx
        rw [take_snoc hr, List.map_append, HP.out]
        rfl
      have HNX := Lib.hid hnext
      clear hx hnext
      gi_wp2
      refine hR.mono ?_
      rintro e W3 (⟨rfl, hJ3, hk3⟩ | ⟨rfl, hJx3⟩)
      · gi_wp2
        go_roundw
        case rel =>
          refine ⟨m, pre ++ [(m, ⟨x, hxm⟩)], by go_num, by simp; omega, ?_, hJ3, hnx.trans hk3⟩
          show List.map _ _ = _
          rw [HNX.out]
          simp
        case measure => simp [intOf]
      · gi_wp2
        refine bodyPost_ret (results_none rfl _ _ _) rfl ?_
        exact ⟨⟨_, rfl⟩, .inr ⟨_, ⟨pre.length + 1, by rw [← HN.out]; omega, HNX.out⟩, hJx3⟩⟩

set_option maxHeartbeats 1000000 in
theorem back_in (F : Fence) (n : Nat) (h5 : F.fn 110) (hro : F.round = none) (a : Option Addr) (len cap : Nat) (w : World) :
    CallsIn F n Tryz.prog 110 #[.slice a len cap] w fun e w' => e = .returned (.func (.func 136) #[] #[.pointer (some ⟨w.heap.size, 0, none⟩)]) ∧ w' = w.alloc (.cells #[.slice a len cap] 45) := by
  refine callsIn_of_wp Tryz.func110 rfl h5 ?_ hro
  simp only [Tryz.ntmps110, List.size_toArray, List.length_cons, List.length_nil, Nat.reduceAdd, Nat.reduceSub, Array.replicate_succ, Array.replicate_zero, List.push_toArray, List.append_toArray, List.nil_append, List.cons_append]
  gi_wp2
  go_ret
  exact ⟨rfl, rfl⟩

theorem back_stops (F : Fence) (n : Nat) (h8 : F.fn 136) (hro : F.round = none) (hn : 1 ≤ n) (Bs cap : Nat) (a : Option Addr) (l : List PV) (hl : l.length ≤ 5120) (W0 : World) (hs : SlW W0 a l)
    (hBs : W0.cell? ⟨Bs, 0, none⟩ = some (.slice a l.length cap)) :
    SeqStopsK F n Tryz.prog 136 #[.pointer (some ⟨Bs, 0, none⟩)] (fun x : Came l => Came.enc x) (Below W0.heap.size) (fun ys => ys.map (·.2.1) = l.reverse) (fun pre => ∃ k, k ≤ l.length ∧ pre.map (·.2.1) = l.reverse.take k) l.length W0 :=
  fun i0 J Jx W hW _ _ hY h0 => back1_in F n h8 hro hn i0 Bs cap a l hl W0 hs J Jx hY W hW hBs h0
end Go.Proofs.YteimdhkajbldjaaGreat
