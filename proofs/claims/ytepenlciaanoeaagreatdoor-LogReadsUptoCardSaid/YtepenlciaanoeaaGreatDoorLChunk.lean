/- slices.Chunk over words, by six: the iterator, and what it hands over. -/
import Derived.Test.YtepenlciaanoeaaGreatDoorLRdA
import Derived.RangeFuncNested
import Derived.RangeFuncBound
import Derived.RangeFuncCalls
import Derived.RangeFuncLeaves
import Derived.RangeFuncBox
import Derived.Shelf.Abstract
import Derived.Shelf.RegionOpen
import Derived.OwnWalkIn
import Derived.TacticsInMore
import Derived.LoopNIn
import Derived.LoopIn
import Derived.Maps.AppendAt
set_option linter.unusedVariables false
set_option linter.unusedSimpArgs false
set_option maxRecDepth 100000
namespace Go.Proofs.YtepenlciaanoeaaGreatDoor
open Go.RowKit Go.Shelf Go.Sort

attribute [local go_sem] Oper.semAt_some

/-- the chunk number x of N words at g, from o on -/
def chunkV (g o N x : Nat) : Value := .slice (some ⟨g, o + 6 * x, none⟩) (min 6 (N - 6 * x)) (min 6 (N - 6 * x))
/-- how many there are -/
def chunks (N : Nat) : Nat := (N + 5) / 6

/-- what a round keeps: the iterator's two boxes, and what lies below n0 -/
def KpC (n0 Bs Bn : Nat) (ts tn : TypeId) (vs vn : Value) (W W' : World) : Prop := (Boxed W Bs ts vs → Boxed W' Bs ts vs) ∧ (Boxed W Bn tn vn → Boxed W' Bn tn vn) ∧ Below n0 W W'
theorem kpC_t {n0 Bs Bn : Nat} {ts tn : TypeId} {vs vn : Value} : ∀ {A B C : World}, KpC n0 Bs Bn ts tn vs vn A B → KpC n0 Bs Bn ts tn vs vn B C → KpC n0 Bs Bn ts tn vs vn A C := fun h k => ⟨fun x => k.1 (h.1 x), fun x => k.2.1 (h.2.1 x), h.2.2.trans k.2.2⟩
theorem boxed_put {W : World} {B l : Nat} {t : TypeId} {v : Value} {o o' : Obj} (h : Boxed W B t v) (hl : W.heap[l]? = some o) (hc : o.isCells = false) : Boxed (W.putObj l o') B t v := by
  have hne : l ≠ B := fun e => by
    subst e
    rw [show W.heap[l]? = _ from h] at hl
    cases hl
    cases hc
  exact h.kept (grownBy_putObj' W l o') (fun e => hne (by cases e; rfl))
theorem kpC_b {n0 Bs Bn : Nat} {ts tn : TypeId} {vs vn : Value} {w : World} (hn : n0 ≤ w.heap.size) : ∀ (W : World) (l : Nat) (o o' : Obj), w.heap.size ≤ l → W.heap[l]? = some o → o.isCells = false → o.isWalk = false → KpC n0 Bs Bn ts tn vs vn W (W.putObj l o') := fun W l o o' h1 h2 h3 h4 =>
  ⟨fun x => boxed_put x h2 h3, fun x => boxed_put x h2 h3, belowK_b hn W l o o' h1 h2 h3 h4⟩

set_option maxHeartbeats 2000000 in
theorem chunk1_in (F : Fence) (n : Nat) (h8 : F.fn 259) (hro : F.round = none) (hn : 1 ≤ n) (i0 Bs Bn cap g o N : Nat) (hc : N ≤ cap) (hN : N ≤ 9000000000000) (n0 : Nat) (ts tn : TypeId) (J Jx : List Nat → World → Prop) (hJd : ∀ s W1, J s W1 → J s W1.drew)
    (hY : ∀ pre x W, J pre W → pre.length < chunks N → YieldAt F (n - 1) Tryz.prog i0 #[chunkV g o N x] W fun e W' =>
      (e = .returned (.bool true) ∧ J (pre ++ [x]) W' ∧ KpC n0 Bs Bn ts tn (.slice (some ⟨g, o, none⟩) N cap) (.int .i64 6) W W') ∨ (e = .returned (.bool false) ∧ Jx (pre ++ [x]) W'))
    (W : World) (hBs : Boxed W Bs ts (.slice (some ⟨g, o, none⟩) N cap)) (hBn : Boxed W Bn tn (.int .i64 6)) (h0 : J [] W) :
    CallsIn F n Tryz.prog 259 #[.func (.yield i0) #[] #[], .pointer (some ⟨Bs, 0, none⟩), .pointer (some ⟨Bn, 0, none⟩)] W fun e W' => (∃ v, e = .returned v) ∧
      ((∃ ys : List Nat, ys = List.range (chunks N) ∧ J ys W') ∨ (∃ pre : List Nat, (∃ k, k ≤ chunks N ∧ pre = List.range k) ∧ Jx pre W')) := by
  have HY := Lib.hid hY
  have hcs0 := hBs.cell
  have hcn0 := hBn.cell
  clear hY
  refine callsIn_of_wp Tryz.func259 rfl h8 ?_ hro
  simp only [Tryz.ntmps259, List.size_toArray, List.length_cons, List.length_nil, Nat.reduceAdd, Nat.reduceSub, Array.replicate_succ, Array.replicate_zero, List.push_toArray, List.append_toArray, List.nil_append, List.cons_append]
  gi_wp2
  gi_loopw [4] (fun i wr => ∃ (m : Nat), i = .int .i64 ((6 * m : Nat) : Int) ∧ m ≤ chunks N ∧ J (List.range m) wr ∧ Hid (Boxed wr Bs ts (.slice (some ⟨g, o, none⟩) N cap) ∧ Boxed wr Bn tn (.int .i64 6)))
    (fun i wr => N + 6 - (intOf i).toNat)
  case atStart => exact ⟨0, rfl, Nat.zero_le _, h0, hBs, hBn⟩
  case round =>
    clear hBs hBn h0 hcs0 hcn0
    obtain ⟨m, rfl, hm, hJ, HBX⟩ := hrel
    obtain ⟨I, hI⟩ : ∃ I, I = 6 * m := ⟨_, rfl⟩
    rw [← hI]
    have hcs := HBX.out.1.cell
    have hcn := HBX.out.2.cell
    by_cases hlt : I < N
    · obtain ⟨E, hE⟩ : ∃ E, E = min 6 (N - I) := ⟨_, rfl⟩
      have hE1 : 1 ≤ E := by omega
      have hE2 : I + E ≤ N := by omega
      have hE3 : E ≤ 6 := by omega
      have hEi : min (6 : Int) ((N - I : Nat) : Int) = (E : Int) := by omega
      have hmc : m < chunks N := by unfold chunks; omega
      obtain ⟨fn, tmps, assign, body, hy, hR⟩ := HY.out (List.range m) m wr.drew (hJd _ _ hJ) (by rw [List.length_range]; exact hmc)
      have hv : chunkV g o N m = .slice (some ⟨g, o + I, none⟩) E E := by unfold chunkV; rw [← hI, ← hE]
      rw [hv] at hy
      have HI := Lib.hid hI
      have HMC := Lib.hid hmc
      have i1 : (0 : Int) ≤ (I : Int) := by omega
      have i2 : (I : Int) < (N : Int) := by omega
      have i3 : (I : Int) ≤ (cap : Int) := by omega
      have i4 : (I : Int) + (E : Int) ≤ (cap : Int) := by omega
      have i5 : wrap64 ((I : Int) + (E : Int)) = ((I + E : Nat) : Int) := by unfold wrap64; omega
      have i6 : wrap64 ((I : Int) + 6) = ((I + 6 : Nat) : Int) := by unfold wrap64; omega
      clear hv hI hE hmc
      have hgo : List.range m ++ [m] = List.range (m + 1) := List.range_succ.symm
      have HG := Lib.hid hgo
      clear hgo
      gi_wp2
      gi_region
      all_goals gi_wp2
      all_goals
        refine hR.mono ?_
        rintro e W3 (⟨rfl, hJ3, hk3⟩ | ⟨rfl, hJx3⟩)
        · have hbs3 := hk3.1 (show Boxed wr.drew Bs ts _ from HBX.out.1)
          have hbn3 := hk3.2.1 (show Boxed wr.drew Bn tn _ from HBX.out.2)
          have hcn3 := hbn3.cell
          have HB3 := Lib.hid (show Boxed W3 Bs ts (.slice (some ⟨g, o, none⟩) N cap) ∧ Boxed W3 Bn tn (.int .i64 6) from ⟨hbs3, hbn3⟩)
          clear hbs3 hbn3
          gi_wp2
          go_roundw
          case rel => exact ⟨m + 1, by rw [HI.out]; go_num, HMC.out, HG.out ▸ hJ3, HB3.out⟩
          case measure => simp [intOf]; omega
        · gi_wp2
          refine bodyPost_ret (results_none rfl _ _ _) rfl ?_
          exact ⟨⟨_, rfl⟩, .inr ⟨_, ⟨m + 1, HMC.out, HG.out⟩, hJx3⟩⟩
    · have hmM : m = chunks N := by unfold chunks at hm ⊢; omega
      have HM := Lib.hid hmM
      clear hmM
      gi_wp2
      go_end0
      exact ⟨⟨_, rfl⟩, .inl ⟨_, by rw [HM.out], hJ⟩⟩

theorem chunk_in (F : Fence) (n : Nat) (h5 : F.fn 219) (hro : F.round = none) (a : Option Addr) (len cap : Nat) (w : World) :
    CallsIn F n Tryz.prog 219 #[.slice a len cap, .int .i64 6] w fun e w' => e = .returned (.func (.func 259) #[] #[.pointer (some ⟨w.heap.size, 0, none⟩), .pointer (some ⟨w.heap.size + 1, 0, none⟩)]) ∧ w' = (w.alloc (.cells #[.slice a len cap] 29)).alloc (.cells #[.int .i64 6] 3) := by
  refine callsIn_of_wp Tryz.func219 rfl h5 ?_ hro
  simp only [Tryz.ntmps219, List.size_toArray, List.length_cons, List.length_nil, Nat.reduceAdd, Nat.reduceSub, Array.replicate_succ, Array.replicate_zero, List.push_toArray, List.append_toArray, List.nil_append, List.cons_append]
  gi_wp2
  go_ret
  exact ⟨rfl, rfl⟩

theorem grown_drew' (w : World) (row : Option Nat) : w.grownBy w.drew row := ⟨rfl, rfl, rfl, Nat.le_refl _, fun _ _ _ => rfl⟩
theorem chunk_stops (F : Fence) (n : Nat) (h8 : F.fn 259) (hro : F.round = none) (hn : 1 ≤ n) (Bs Bn cap g o N : Nat) (hc : N ≤ cap) (hN : N ≤ 9000000000000) (n0 : Nat) (W0 : World) (ts tn : TypeId)
    (hBs : Boxed W0 Bs ts (.slice (some ⟨g, o, none⟩) N cap)) (hBn : Boxed W0 Bn tn (.int .i64 6)) :
    SeqStopsK F n Tryz.prog 259 #[.pointer (some ⟨Bs, 0, none⟩), .pointer (some ⟨Bn, 0, none⟩)] (fun x : Nat => #[chunkV g o N x]) (KpC n0 Bs Bn ts tn (.slice (some ⟨g, o, none⟩) N cap) (.int .i64 6)) (fun ys => ys = List.range (chunks N)) (fun pre => ∃ k, k ≤ chunks N ∧ pre = List.range k) (chunks N) W0 :=
  fun i0 J Jx W hW hJ _ hY h0 => chunk1_in F n h8 hro hn i0 Bs Bn cap g o N hc hN n0 ts tn J Jx (fun s W1 hs => hJ s W1 W1.drew none hs (grown_drew' _ _) (fun r e => by cases e)) hY W
    ((hW.block Bs hBs.lt).trans hBs) ((hW.block Bn hBn.lt).trans hBn) h0
end Go.Proofs.YtepenlciaanoeaaGreatDoor
