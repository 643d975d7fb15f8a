/- What the Top laws ask of a server: operations by numbers of any sort. -/
import Derived.Test.YteimdhkajbldjaaVAsk
import Derived.Test.YteimdhkajbldjaaVInv
import Derived.Deep.CutBlock
import Derived.Deep.CutRange
import Derived.Deep.RegionHeld3
import Derived.Laws.OwnMore
set_option linter.unusedVariables false
set_option linter.unusedSimpArgs false
set_option maxRecDepth 100000
namespace Go.Proofs.Yteimdhkajbldjaa
open Go.RowKit Go.Sort

def idC : Nat → ByteArray
  | 0 => ⟨#[97]⟩
  | 1 => ⟨#[98]⟩
  | _ => ⟨#[99]⟩
theorem idC_list {i : Nat} (h : i < [Value.string ⟨#[97]⟩, .string ⟨#[98]⟩, .string ⟨#[99]⟩].length) : [Value.string ⟨#[97]⟩, .string ⟨#[98]⟩, .string ⟨#[99]⟩][i] = .string (idC i) := by
  match i, h with
  | 0, _ => rfl
  | 1, _ => rfl
  | 2, _ => rfl
theorem idC_nm (i : Nat) : isNm (idC i) = true := by
  match i with
  | 0 => decide
  | 1 => decide
  | i + 2 => show isNm ⟨#[99]⟩ = true; decide
def kdC : Nat → Int
  | 0 => 2 | 1 => 2 | 2 => 2 | 3 => 3 | 4 => 4 | 5 => 5 | 6 => 6 | _ => 1
theorem kdC_in (i : Nat) : 1 ≤ kdC i ∧ kdC i ≤ 6 := by
  match i with
  | 0 => decide
  | 1 => decide
  | 2 => decide
  | 3 => decide
  | 4 => decide
  | 5 => decide
  | 6 => decide
  | i + 7 => show (1 : Int) ≤ 1 ∧ (1 : Int) ≤ 6; omega
theorem kdC_cell {i : Nat} (w : World) (h : i < 8) (t : TypeId) : (w.alloc (.cells #[.int .i64 2, .int .i64 2, .int .i64 2, .int .i64 3, .int .i64 4, .int .i64 5, .int .i64 6, .int .i64 1] t)).cell? ⟨w.heap.size, i, none⟩ = some (.int .i64 (kdC i)) := by
  match i, h with
  | 0, _ => simp [go_sem, kdC]
  | 1, _ => simp [go_sem, kdC]
  | 2, _ => simp [go_sem, kdC]
  | 3, _ => simp [go_sem, kdC]
  | 4, _ => simp [go_sem, kdC]
  | 5, _ => simp [go_sem, kdC]
  | 6, _ => simp [go_sem, kdC]
  | 7, _ => simp [go_sem, kdC]
theorem xyS_cell {i : Nat} (w : World) (h : i < 2) (t : TypeId) : (w.alloc (.cells #[.string ⟨#[120]⟩, .string ⟨#[121]⟩] t)).cell? ⟨w.heap.size, i, none⟩ = some (.string (xyS i)) := by
  match i, h with
  | 0, _ => simp [go_sem, xyS]
  | 1, _ => simp [go_sem, xyS]
theorem ops_rec (i m : Nat) {ct : Int} (h0 : 0 ≤ ct) (h8 : ct < 8) : RecL.Ok ⟨idC i, ct, [⟨⟨#[107]⟩, xyS m⟩], []⟩ :=
  ⟨idC_nm i, h0, (by show ct ≤ 255; omega), (by show 1 ≤ 6; decide), (by show _ ≤ 4; simp), fun i f hi hf => by
    have hi : i < 1 := hi
    obtain rfl : i = 0 := by omega
    cases hf
    exact ⟨xyS_fd m, fun j g e _ => by omega⟩, fun i f hi => absurd hi (Nat.not_lt_zero i)⟩
def opsR : Nat → RuleL
  | 0 => ⟨0, -1, 0, 40, 1, true⟩
  | 1 => ⟨1, -1, 0, 20, 3, true⟩
  | 2 => ⟨2, 0, 0, 40, 7, true⟩
  | _ => ⟨-1, -1, 10, 12, 2, false⟩
theorem opsR_ok : rulesErr 4 opsR = 0 := by
  refine rulesErr_ok (by omega) fun k hk => ?_
  match k, hk with
  | 0, _ => exact ⟨⟨by show (-1 : Int) ≤ 0 ∧ (0 : Int) ≤ 7; omega, by show (-1 : Int) ≤ -1 ∧ (-1 : Int) ≤ 3; omega, by show (0 : Int) ≤ 0; omega, by show (40 : Int) ≤ 1000; omega, by show (0 : Int) ≤ 1 ∧ (1 : Int) ≤ 255; omega⟩, by show (0 : Int) < 40; omega⟩
  | 1, _ => exact ⟨⟨by show (-1 : Int) ≤ 1 ∧ (1 : Int) ≤ 7; omega, by show (-1 : Int) ≤ -1 ∧ (-1 : Int) ≤ 3; omega, by show (0 : Int) ≤ 0; omega, by show (20 : Int) ≤ 1000; omega, by show (0 : Int) ≤ 3 ∧ (3 : Int) ≤ 255; omega⟩, by show (0 : Int) < 20; omega⟩
  | 2, _ => exact ⟨⟨by show (-1 : Int) ≤ 2 ∧ (2 : Int) ≤ 7; omega, by show (-1 : Int) ≤ 0 ∧ (0 : Int) ≤ 3; omega, by show (0 : Int) ≤ 0; omega, by show (40 : Int) ≤ 1000; omega, by show (0 : Int) ≤ 7 ∧ (7 : Int) ≤ 255; omega⟩, by show (0 : Int) < 40; omega⟩
  | 3, _ => exact ⟨⟨by show (-1 : Int) ≤ -1 ∧ (-1 : Int) ≤ 7; omega, by show (-1 : Int) ≤ -1 ∧ (-1 : Int) ≤ 3; omega, by show (0 : Int) ≤ 10; omega, by show (12 : Int) ≤ 1000; omega, by show (0 : Int) ≤ 2 ∧ (2 : Int) ≤ 255; omega⟩, by show (10 : Int) < 12; omega⟩
/-- the operation that lies in the box, its fields in block bf -/
def opsO (K j m : Nat) (xr xy xt ct : Int) (bf : Nat) : OO := ⟨⟨kdC K, ⟨xr, xy, xt⟩, 0, noR, ⟨idC j, ct, [⟨⟨#[107]⟩, xyS m⟩], []⟩, idC j, ⟨⟨#[107]⟩, ⟨#[120]⟩⟩⟩, ⟨none, 0, ⟨some ⟨bf, 0, none⟩, 1, none, 0⟩⟩⟩
theorem OpBox.kept {Z : Nat → Prop} {w w' : World} {b : Nat} {x : OO} (h : OpBox w b x) (k : Kept Z w w') (hz : Z b) : OpBox w' b x := ⟨h.at_.kept k hz, fun o => (k.frozen hz (cell_lt h.at_.c0)).trans (h.z o)⟩

/-- what the operations of the great region leave -/
def PhiO (rb ro rn rc K m j : Nat) (z0 z1 xr xy xt ct : Int) (i lo hi : Nat) (v : Nat → Value) (w : World) : Prop :=
  match i with
  | 0 => hi = lo + 1 ∧ v 0 = .slice (some ⟨lo, 0, none⟩) 8 8 ∧ w.cell? ⟨lo, K, none⟩ = some (.int .i64 (kdC K))
  | 1 => v 1 = .slice (some ⟨rb, ro, none⟩) rn rc
  | 2 => v 2 = .pointer (some ⟨rb, ro, none⟩)
  | 3 => v 3 = .int .i64 z0
  | 4 => v 4 = .int .i64 (wrap64 (z0.tdiv 3))
  | 5 => v 5 = .int .i64 (K : Int)
  | 6 => ∃ b, v 0 = .slice (some ⟨b, 0, none⟩) 8 8 ∧ v 6 = .pointer (some ⟨b, K, none⟩)
  | 7 => v 7 = .int .i64 (kdC K)
  | 8 => v 8 = .agg #[.int .i64 xr, .int .i64 xy, .int .i64 xt]
  | 9 => v 9 = .string (idC j)
  | 10 => v 10 = .string (idC j)
  | 11 => v 11 = .slice (some ⟨rb, ro, none⟩) rn rc
  | 12 => v 12 = .pointer (some ⟨rb, ro + 1, none⟩)
  | 13 => v 13 = .int .i64 z1
  | 14 => v 14 = .int .i64 ct
  | 15 => hi = lo + 1 ∧ v 15 = .slice (some ⟨lo, 0, none⟩) 2 2 ∧ w.cell? ⟨lo, m, none⟩ = some (.string (xyS m))
  | 16 => v 16 = .slice (some ⟨rb, ro, none⟩) rn rc
  | 17 => v 17 = .pointer (some ⟨rb, ro + 1, none⟩)
  | 18 => v 18 = .int .i64 z1
  | 19 => v 19 = .int .i64 (m : Int)
  | 20 => ∃ b, v 15 = .slice (some ⟨b, 0, none⟩) 2 2 ∧ v 20 = .pointer (some ⟨b, m, none⟩)
  | 21 => v 21 = .string (xyS m)
  | 22 => v 22 = .agg #[.string ⟨#[107]⟩, .string (xyS m)]
  | 23 => hi = lo + 1 ∧ v 23 = .slice (some ⟨lo, 0, none⟩) 1 1 ∧ w.ownsRow lo 37 2 (.slice (some ⟨lo, 0, none⟩) 1 1) 1 [.string ⟨#[107]⟩, .string (xyS m)]
  | 24 => ∃ b, v 23 = .slice (some ⟨b, 0, none⟩) 1 1 ∧ v 24 = .agg #[.string (idC j), .int .i64 ct, .slice (some ⟨b, 0, none⟩) 1 1, .slice none 0 0]
  | 25 => v 25 = .agg #[.string ⟨#[107]⟩, .string ⟨#[120]⟩]
  | 26 => ∃ b, v 23 = .slice (some ⟨b, 0, none⟩) 1 1 ∧ v 26 = .agg #[.int .i64 (kdC K), .int .i64 xr, .int .i64 xy, .int .i64 xt, .slice none 0 0, .string (idC j), .int .i64 ct, .slice (some ⟨b, 0, none⟩) 1 1, .slice none 0 0, .string (idC j), .string ⟨#[107]⟩, .string ⟨#[120]⟩]
  | 27 => hi = lo + 1 ∧ v 27 = .pointer (some ⟨lo, 0, none⟩) ∧ ∃ y, OpBox w lo y
  | 28 => hi = lo + 1 ∧ v 27 = .pointer (some ⟨lo, 0, none⟩) ∧ ∃ b, v 23 = .slice (some ⟨b, 0, none⟩) 1 1 ∧ OpBox w lo (opsO K j m xr xy xt ct b)
  | _ => True
theorem PhiO.mono {rb ro rn rc K m j : Nat} {z0 z1 xr xy xt ct : Int} {S : Nat} (i lo hi : Nat) (w w' : World) (v : Nat → Value) (h : PhiO rb ro rn rc K m j z0 z1 xr xy xt ct i lo hi v w) (k : Kept (fun z => z < S ∨ (lo ≤ z ∧ z < hi)) w w') : PhiO rb ro rn rc K m j z0 z1 xr xy xt ct i lo hi v w' := by
  match i, h with
  | 0, h => exact ⟨h.1, h.2.1, k.cell (.inr ⟨Nat.le_refl _, by have := h.1; omega⟩) h.2.2⟩
  | 1, h => exact h
  | 2, h => exact h
  | 3, h => exact h
  | 4, h => exact h
  | 5, h => exact h
  | 6, h => exact h
  | 7, h => exact h
  | 8, h => exact h
  | 9, h => exact h
  | 10, h => exact h
  | 11, h => exact h
  | 12, h => exact h
  | 13, h => exact h
  | 14, h => exact h
  | 15, h => exact ⟨h.1, h.2.1, k.cell (.inr ⟨Nat.le_refl _, by have := h.1; omega⟩) h.2.2⟩
  | 16, h => exact h
  | 17, h => exact h
  | 18, h => exact h
  | 19, h => exact h
  | 20, h => exact h
  | 21, h => exact h
  | 22, h => exact h
  | 23, h => exact ⟨h.1, h.2.1, own_kept h.2.2 k (fun b hb => by cases hb; exact .inr (show lo ≤ lo ∧ lo < hi from ⟨Nat.le_refl _, by have := h.1; omega⟩))⟩
  | 24, h => exact h
  | 25, h => exact h
  | 26, h => exact h
  | 27, h => obtain ⟨h1, h2, y, h3⟩ := h; exact ⟨h1, h2, y, h3.kept k (.inr ⟨Nat.le_refl _, by omega⟩)⟩
  | 28, h => obtain ⟨h1, h2, b, h3, h4⟩ := h; exact ⟨h1, h2, b, h3, h4.kept k (.inr ⟨Nat.le_refl _, by omega⟩)⟩
  | n + 29, _ => exact trivial
theorem PhiO.dep {rb ro rn rc K m j : Nat} {z0 z1 xr xy xt ct : Int} (i lo hi : Nat) (w : World) (v v' : Nat → Value) (h : PhiO rb ro rn rc K m j z0 z1 xr xy xt ct i lo hi v w) (e : v i = v' i) (e0 : i = 6 → v 0 = v' 0) (e15 : i = 20 → v 15 = v' 15) (e23 : i = 24 ∨ i = 26 ∨ i = 28 → v 23 = v' 23) (e27 : i = 28 → v 27 = v' 27) : PhiO rb ro rn rc K m j z0 z1 xr xy xt ct i lo hi v' w := by
  match i, h, e, e0, e15, e23, e27 with
  | 0, h, e, e0, e15, e23, e27 => exact ⟨h.1, e.symm.trans h.2.1, h.2.2⟩
  | 1, h, e, e0, e15, e23, e27 => exact e.symm.trans h
  | 2, h, e, e0, e15, e23, e27 => exact e.symm.trans h
  | 3, h, e, e0, e15, e23, e27 => exact e.symm.trans h
  | 4, h, e, e0, e15, e23, e27 => exact e.symm.trans h
  | 5, h, e, e0, e15, e23, e27 => exact e.symm.trans h
  | 6, h, e, e0, e15, e23, e27 => obtain ⟨b, h1, h2⟩ := h; exact ⟨b, (e0 rfl).symm.trans h1, e.symm.trans h2⟩
  | 7, h, e, e0, e15, e23, e27 => exact e.symm.trans h
  | 8, h, e, e0, e15, e23, e27 => exact e.symm.trans h
  | 9, h, e, e0, e15, e23, e27 => exact e.symm.trans h
  | 10, h, e, e0, e15, e23, e27 => exact e.symm.trans h
  | 11, h, e, e0, e15, e23, e27 => exact e.symm.trans h
  | 12, h, e, e0, e15, e23, e27 => exact e.symm.trans h
  | 13, h, e, e0, e15, e23, e27 => exact e.symm.trans h
  | 14, h, e, e0, e15, e23, e27 => exact e.symm.trans h
  | 15, h, e, e0, e15, e23, e27 => exact ⟨h.1, e.symm.trans h.2.1, h.2.2⟩
  | 16, h, e, e0, e15, e23, e27 => exact e.symm.trans h
  | 17, h, e, e0, e15, e23, e27 => exact e.symm.trans h
  | 18, h, e, e0, e15, e23, e27 => exact e.symm.trans h
  | 19, h, e, e0, e15, e23, e27 => exact e.symm.trans h
  | 20, h, e, e0, e15, e23, e27 => obtain ⟨b, h1, h2⟩ := h; exact ⟨b, (e15 rfl).symm.trans h1, e.symm.trans h2⟩
  | 21, h, e, e0, e15, e23, e27 => exact e.symm.trans h
  | 22, h, e, e0, e15, e23, e27 => exact e.symm.trans h
  | 23, h, e, e0, e15, e23, e27 => exact ⟨h.1, e.symm.trans h.2.1, h.2.2⟩
  | 24, h, e, e0, e15, e23, e27 => obtain ⟨b, h1, h2⟩ := h; exact ⟨b, (e23 (.inl rfl)).symm.trans h1, e.symm.trans h2⟩
  | 25, h, e, e0, e15, e23, e27 => exact e.symm.trans h
  | 26, h, e, e0, e15, e23, e27 => obtain ⟨b, h1, h2⟩ := h; exact ⟨b, (e23 (.inr (.inl rfl))).symm.trans h1, e.symm.trans h2⟩
  | 27, h, e, e0, e15, e23, e27 => exact ⟨h.1, e.symm.trans h.2.1, h.2.2⟩
  | 28, h, e, e0, e15, e23, e27 => obtain ⟨h1, h2, b, h3, h4⟩ := h; exact ⟨h1, (e27 rfl).symm.trans h2, b, (e23 (.inr (.inr rfl))).symm.trans h3, h4⟩
  | n + 29, _, _, _, _, _, _ => exact trivial
def StO (i : Nat) : Option Nat := if i = 28 then some 27 else none
/-- what is asked, in a box of its own, behind the great region -/
def BoxO (K j m : Nat) (xr xy xt ct : Int) (W : World) (s : Value) (w : World) : Prop := ∃ b bf, s = .pointer (some ⟨b, 0, none⟩) ∧ Hid (OpBox w b (opsO K j m xr xy xt ct bf)) ∧ Hid (w.ownsRow W.heap.size 37 2 (.slice (some ⟨bf, 0, none⟩) 1 1) 1 [.string ⟨#[107]⟩, .string (xyS m)]) ∧ W.heap.size ≤ b ∧ Below W.heap.size W w
/-- .. behind the rules -/
def BoxdO (B b : Nat) (W w : World) : Prop := ∃ x : OO, OpBox w b x ∧ NewOp B w x ∧ AskOk x.o ∧ x.o.kind ≤ 6 ∧ Below W.heap.size W w
def OpsTo (w : World) (e : Ending) (w' : World) : Prop := ∃ A n c l, e = .returned (.slice A n c) ∧ n ≤ 25 ∧ AskRow w.heap.size w' A n c l ∧ (∀ x ∈ l, x.o.kind ≤ 6) ∧ Below w.heap.size w w'
set_option maxHeartbeats 16000000 in
theorem ops_is (a : Option Addr) (g : List RowI) (cap : Nat) (w : World) (hs : SlG w a g) (hl : g.length ≤ cap) (hm : cap ≤ maxLen) :
    Calls Try.prog 26 #[.slice a g.length cap] w (OpsTo w) := by
  obtain ⟨i0, hi0, hz0, hz1, hz2⟩ := info_parts Try.infoOp
  have HS := Lib.hid hs
  obtain ⟨n, hn⟩ : ∃ n, n = g.length := ⟨_, rfl⟩
  have HN := Lib.hid hn
  rw [← hn] at hl ⊢
  unfold maxLen at hm
  obtain ⟨N, hN⟩ : ∃ N, N = min n 25 := ⟨_, rfl⟩
  have hN1 : N ≤ n := by omega
  have hN2 : N ≤ 25 := by omega
  have hmin : min (n : Int) 25 = (N : Int) := by omega
  clear hs hn hN
  go_enter Try.func26, Try.ntmps26
  go_wp2_with fail
  go_loopw [3, 15] (fun v i wr => ∃ (k : Nat) (q : List OO), k ≤ N ∧ i = .int .i64 k ∧ Hid (AskR w.heap.size k v wr q) ∧ Hid (∀ x ∈ q, x.o.kind ≤ 6) ∧ Hid (Below w.heap.size w wr)) (fun _ i _ => N - (intOf i).toNat)
  case atStart => exact ⟨0, [], Nat.zero_le _, rfl, ⟨Nat.le_refl _, (fun x h => absurd h (by simp)), World.ownsRow_nil _ _ _ _, (fun x h => absurd h (by simp))⟩, (fun x h => absurd h (by simp)), Below.refl _ _⟩
  case round =>
    obtain ⟨k, q, hk, rfl, HR, HK6, HB⟩ := hrel
    obtain ⟨A, c, hv⟩ := OwnO.form HR.out.2.2.1
    subst hv
    obtain ⟨nq, hnq⟩ : ∃ nq, q.length = nq := ⟨_, rfl⟩
    rw [hnq] at HR ⊢
    have HNQ := Lib.hid hnq
    clear hnq
    by_cases hlt : k < N
    · obtain ⟨r, hr⟩ : ∃ r, g[k]? = some r := ⟨_, List.getElem?_eq_getElem (by rw [← HN.out]; omega)⟩
      obtain ⟨hri, b, off, rfl, hc0⟩ := (HS.out.below HB.out) k r hr
      have HRI := Lib.hid hri
      have hrl := hri.le
      have hrm := hri.max
      unfold maxLen at hrm
      have i1 : (0 : Int) ≤ (k : Int) := by omega
      have i2 : (k : Int) < (N : Int) := by omega
      obtain ⟨ra, rz, cp⟩ := r
      simp only at hrl hrm hc0
      obtain ⟨rn, hrn⟩ : ∃ rn, rz.length = rn := ⟨_, rfl⟩
      rw [hrn] at hrl hc0
      have HRN := Lib.hid hrn
      clear hr hri hrn
      by_cases h3 : rn < 3
      · have h3' : (rn : Int) < 3 := by omega
        go_wp2_with fail
        go_roundw
        case rel => exact ⟨k + 1, q, by omega, by go_num, ⟨Nat.le_trans HR.out.1 (by omega), HR.out.2⟩, HK6.out, HB.out⟩
        case measure => simp [intOf]; omega
      · obtain ⟨z0, hz0'⟩ : ∃ z, rz[0]? = some z := ⟨_, List.getElem?_eq_getElem (by rw [HRN.out]; omega)⟩
        obtain ⟨z1, hz1'⟩ : ∃ z, rz[1]? = some z := ⟨_, List.getElem?_eq_getElem (by rw [HRN.out]; omega)⟩
        obtain ⟨z2, hz2'⟩ : ∃ z, rz[2]? = some z := ⟨_, List.getElem?_eq_getElem (by rw [HRN.out]; omega)⟩
        obtain ⟨rb, ro, hra, e0⟩ := HRI.out.at_ 0 z0 hz0'
        obtain ⟨_, _, hra1, e1⟩ := HRI.out.at_ 1 z1 hz1'
        obtain ⟨_, _, hra2, e2⟩ := HRI.out.at_ 2 z2 hz2'
        simp only at hra hra1 hra2
        subst hra
        cases hra1
        cases hra2
        rw [Nat.add_zero] at e0
        have r1 : ¬ (rn : Int) < 3 := by omega
        have r2 : (2 : Int) < (rn : Int) := by omega
        have r3 : (1 : Int) < (rn : Int) := by omega
        have r4 : (0 : Int) < (rn : Int) := by omega
        have r5 : 0 < rn := by omega
        have hrb := cell_lt e0
        have HSS : Hid (∀ W, Below wr.heap.size wr W → W.cell? ⟨rb, ro, none⟩ = some (.int .i64 z0) ∧ W.cell? ⟨rb, ro + 1, none⟩ = some (.int .i64 z1) ∧ W.cell? ⟨rb, ro + 2, none⟩ = some (.int .i64 z2)) := fun W h => ⟨(h.cell (p := ⟨rb, ro, none⟩) hrb).trans e0, (h.cell (p := ⟨rb, ro + 1, none⟩) hrb).trans e1, (h.cell (p := ⟨rb, ro + 2, none⟩) hrb).trans e2⟩
        clear hz0' hz1' hz2'
        go_wp2_with fail
        go_cut [6] from 22 to 34 (fun s6 wc => Box6 ⟨(wit z0 3 : Nat), (wit z1 2 : Nat), (wit z2 30 : Nat)⟩ wr s6 wc)
        case first =>
          clear HS HN hi0 hz0 hz1 hz2 hN1 hN2 hmin hm hl HR HK6 HNQ HB HRI HRN hrm hrl r1 i1 i2 hlt hk h3 hc0
          go_region_held3 (fun w' => w'.cell? ⟨rb, ro, none⟩ = some (.int .i64 z0) ∧ w'.cell? ⟨rb, ro + 1, none⟩ = some (.int .i64 z1) ∧ w'.cell? ⟨rb, ro + 2, none⟩ = some (.int .i64 z2)) (first | assumption | exact HSS.out _ ((Below.refl _ _).alloc (Nat.le_refl _) _).drew | exact HSS.out _ (by go_grown))
            (first | (go_at_call 29; refine (wit_any _ _ _ (by decide) (by decide)).mono ?_; rintro e w' ⟨rfl, rfl⟩))
          all_goals (go_wp2_with fail; go_meet)
          all_goals
            case rel => exact ⟨wr.heap.size, rfl, ⟨by simp [go_sem], by simp [go_sem], by simp [go_sem]⟩, Nat.le_refl _, by go_grown⟩
        case rest =>
          obtain ⟨w6, hw6e⟩ : ∃ w6, w6 = wc := ⟨_, rfl⟩
          subst hw6e
          obtain ⟨b6, rfl, hw6, hb6, hBc⟩ := hcut
          obtain ⟨xr, hxr, xr0, xr3⟩ : ∃ xr : Int, ((wit z0 3 : Nat) : Int) = xr ∧ 0 ≤ xr ∧ xr < 3 := ⟨_, rfl, by omega, wit_lt z0 3 (by omega)⟩
          obtain ⟨xy, hxy, xy0, xy2⟩ : ∃ xy : Int, ((wit z1 2 : Nat) : Int) = xy ∧ 0 ≤ xy ∧ xy < 2 := ⟨_, rfl, by omega, wit_lt z1 2 (by omega)⟩
          obtain ⟨xt, hxt, xt0, xt4⟩ : ∃ xt : Int, ((wit z2 30 : Nat) : Int) = xt ∧ 0 ≤ xt ∧ xt < 30 := ⟨_, rfl, by omega, wit_lt z2 30 (by omega)⟩
          rw [hxr, hxy, hxt] at hw6
          have HWX : Hid (0 ≤ xr ∧ xr < 3 ∧ 0 ≤ xy ∧ xy < 2 ∧ 0 ≤ xt ∧ xt < 40) := ⟨xr0, xr3, xy0, xy2, xt0, by omega⟩
          obtain ⟨f0, f1, f2⟩ := hw6
          simp only at f0 f1 f2
          obtain ⟨g0, g1, g2⟩ := HSS.out w6 hBc
          have hb6l := cell_lt f0
          have hrbc := cell_lt g0
          obtain ⟨j, hj⟩ : ∃ j, wit z2 3 = j := ⟨_, rfl⟩
          have hj2 : j < 3 := by rw [← hj]; exact_mod_cast wit_lt z2 3 (by omega)
          have hj0 : (0 : Int) ≤ (j : Int) := by omega
          have hj2' : (j : Int) < 3 := by omega
          have hs7 : ∀ h, [Value.string ⟨#[97]⟩, .string ⟨#[98]⟩, .string ⟨#[99]⟩][j]'h = .string (idC j) := fun h => idC_list h
          have HJ := Lib.hid hj
          have hrb1 : rb < w6.heap.size + 1 := by omega
          have HB6 := Lib.hid hBc
          clear hj hxr hxy hxt xr0 xr3 xy0 xy2 xt0 xt4 e0 e1 e2 hBc
          go_wp2_with fail
          refine (wit_to HJ.out _ (by decide) (by decide)).mono ?_
          rintro e w' ⟨rfl, rfl⟩
          go_upto_region 8 with fail
          obtain ⟨W, hW⟩ : ∃ W, W = w6.alloc (.cells #[.string ⟨#[97]⟩, .string ⟨#[98]⟩, .string ⟨#[99]⟩] 9) := ⟨_, rfl⟩
          have hA : Below w6.heap.size w6 W := by rw [hW]; exact (Below.refl _ _).alloc (Nat.le_refl _) _
          have HBW := Lib.hid (HB6.out.trans (hA.mono HB6.out.size))
          have HS8 : Hid (∀ V, Below W.heap.size W V → V.cell? ⟨b6, 0, none⟩ = some (.int .i64 xr) ∧ V.cell? ⟨b6, 1, none⟩ = some (.int .i64 xy) ∧ V.cell? ⟨b6, 2, none⟩ = some (.int .i64 xt) ∧ V.cell? ⟨rb, ro, none⟩ = some (.int .i64 z0) ∧ V.cell? ⟨rb, ro + 1, none⟩ = some (.int .i64 z1)) := fun V h => by
            have h6 := hA.trans (h.mono hA.size)
            exact ⟨(h6.cell (p := ⟨b6, 0, none⟩) hb6l).trans f0, (h6.cell (p := ⟨b6, 1, none⟩) hb6l).trans f1, (h6.cell (p := ⟨b6, 2, none⟩) hb6l).trans f2, (h6.cell (p := ⟨rb, ro, none⟩) hrbc).trans g0, (h6.cell (p := ⟨rb, ro + 1, none⟩) hrbc).trans g1⟩
          rw [← hW]
          clear hW hA f0 f1 f2 g0 g1 g2 hs7 hrb1 hj0 hj2' HB6 hb6l hrbc
          obtain ⟨K, hK⟩ : ∃ K, wit (wrap64 (z0.tdiv 3)) 8 = K := ⟨_, rfl⟩
          obtain ⟨m, hm'⟩ : ∃ m, wit z1 2 = m := ⟨_, rfl⟩
          obtain ⟨ct, hct⟩ : ∃ ct : Int, ((wit z1 8 : Nat) : Int) = ct := ⟨_, rfl⟩
          have hK8 : K < 8 := by rw [← hK]; exact_mod_cast wit_lt (wrap64 (z0.tdiv 3)) 8 (by omega)
          have hm2 : m < 2 := by rw [← hm']; exact_mod_cast wit_lt z1 2 (by omega)
          have hct8 : 0 ≤ ct ∧ ct < 8 := by rw [← hct]; exact ⟨by omega, wit_lt z1 8 (by omega)⟩
          have HKM := Lib.hid (And.intro hK8 (And.intro hm2 hct8))
          have HK := Lib.hid hK
          have HMM := Lib.hid hm'
          have HCT := Lib.hid hct
          clear hK hm' hct hK8 hm2 hct8
          go_cut [8] from 42 to 68 (fun s8 wx => BoxO K j m xr xy xt ct W s8 wx)
          case first =>
            clear HS HN hi0 hz0 hz1 hz2 hN1 hN2 hmin hm hl HR HK6 HNQ HB HRI HRN hrm hrl r1 i1 i2 hlt hk h3 hc0 HSS HWX HBW HJ hj2 hb6
            refine wp_region_anc (P := Try.prog) (by kernel_rfl) (by kernel_rfl) (by kernel_rfl) (by kernel_rfl) StO (by kernel_rfl) (by rfl) (fun _ => true) (PhiO rb ro rn cp K m j z0 z1 xr xy xt ct) (fun i lo hi w w' v h _ _ k => PhiO.mono i lo hi w w' v h k) ?_ (fun _ _ _ _ h _ => by cases h) ?_ (fun _ _ _ _ => rfl) ?_ ?_ ?_
            · -- what hangs on what
              intro i o' lo hi w1 v v' ho h e hd
              exact PhiO.dep i lo hi w1 v v' h e (fun k => by subst k; exact hd 0 (.one (e := ⟨0, .data⟩) rfl (by simp) rfl)) (fun k => by subst k; exact hd 15 (.one (e := ⟨15, .data⟩) rfl (by simp) rfl)) (fun k => by rcases k with k | k | k <;> subst k; exact hd 23 (.one (e := ⟨23, .data⟩) rfl (by simp) rfl); exact hd 23 (.more (.one (e := ⟨24, .data⟩) rfl (by simp) rfl) (.one (e := ⟨23, .data⟩) rfl (by simp) rfl)); exact hd 23 (.more (.one (e := ⟨26, .data⟩) rfl (by simp) rfl) (.more (.one (e := ⟨24, .data⟩) rfl (by simp) rfl) (.one (e := ⟨23, .data⟩) rfl (by simp) rfl)))) (fun k => by subst k; exact hd 27 (.one (e := ⟨27, .data⟩) rfl (by simp) rfl))
            · -- no guards
              intro i o' j b ho hg
              rw [no_guard (by kernel_rfl) ho] at hg
              cases hg
            refine each_of ?_
            refine (And.intro ?_ (And.intro ?_ (And.intro ?_ (And.intro ?_ (And.intro ?_ (And.intro ?_ (And.intro ?_ (And.intro ?_ (And.intro ?_ (And.intro ?_ (And.intro ?_ (And.intro ?_ (And.intro ?_ (And.intro ?_ (And.intro ?_ (And.intro ?_ (And.intro ?_ (And.intro ?_ (And.intro ?_ (And.intro ?_ (And.intro ?_ (And.intro ?_ (And.intro ?_ (And.intro ?_ (And.intro ?_ (And.intro ?_ (And.intro ?_ (And.intro ?_ (And.intro (fun h => by cases h) trivial)))))))))))))))))))))))))))))
            · intro _ _ a w1 hf hb hd
              obtain ⟨ρ, hρ⟩ : ∃ ρ, a.eval = ρ := ⟨_, rfl⟩
              have rc := Act.rho a
              rw [hρ] at rc
              exact wp_val hρ (v := .slice (some ⟨w1.heap.size, 0, none⟩) 8 8) (w' := w1.alloc (.cells #[.int .i64 2, .int .i64 2, .int .i64 2, .int .i64 3, .int .i64 4, .int .i64 5, .int .i64 6, .int .i64 1] 3)) (by simp [execOp, go_sem, rc.c, rc.f]) ⟨_, rfl, (Below.refl _ _).alloc (Nat.le_refl _) _, fun vs hv _ => ⟨by simp, hv, kdC_cell w1 HKM.out.1 _⟩⟩
            · intro _ _ a w1 hf hb hd
              obtain ⟨ρ, hρ⟩ : ∃ ρ, a.eval = ρ := ⟨_, rfl⟩
              have rc := Act.rho a
              rw [hρ] at rc
              have e := hf.old (v := .slice (some ⟨rb, ro, none⟩) rn cp) 5 (by kernel_rfl) rfl
              rw [hρ] at e
              exact wp_val hρ (v := .slice (some ⟨rb, ro, none⟩) rn cp) (w' := w1) (by simp [execOp, go_sem, rc.c, rc.f, e]) ⟨_, rfl, Below.refl _ _, fun vs hv _ => hv⟩
            · intro _ _ a w1 hf hb hd
              obtain ⟨ρ, hρ⟩ : ∃ ρ, a.eval = ρ := ⟨_, rfl⟩
              have rc := Act.rho a
              rw [hρ] at rc
              obtain ⟨_, _, _, _, d0⟩ := hd 1 (.one (e := ⟨1, .data⟩) rfl (by simp) rfl)
              have f0 := hf.new 1 43 rfl
              rw [hρ] at f0
              have g0 := f0.trans d0
              exact wp_val hρ (v := .pointer (some ⟨rb, ro, none⟩)) (w' := w1) (by simp [execOp, go_sem, rc.c, rc.f, g0, r3, r4, r5]) ⟨_, rfl, Below.refl _ _, fun vs hv _ => hv⟩
            · intro _ _ a w1 hf hb hd
              obtain ⟨ρ, hρ⟩ : ∃ ρ, a.eval = ρ := ⟨_, rfl⟩
              have rc := Act.rho a
              rw [hρ] at rc
              obtain ⟨_, _, _, _, d0⟩ := hd 2 (.one (e := ⟨2, .data⟩) rfl (by simp) rfl)
              have f0 := hf.new 2 44 rfl
              rw [hρ] at f0
              have g0 := f0.trans d0
              obtain ⟨_, _, _, k0, k1⟩ := HS8.out w1 hb
              exact wp_val hρ (v := .int .i64 z0) (w' := w1) (by simp [execOp, go_sem, rc.c, rc.f, g0, k0, k1]) ⟨_, rfl, Below.refl _ _, fun vs hv _ => hv⟩
            · intro _ _ a w1 hf hb hd
              obtain ⟨ρ, hρ⟩ : ∃ ρ, a.eval = ρ := ⟨_, rfl⟩
              have rc := Act.rho a
              rw [hρ] at rc
              obtain ⟨_, _, _, _, d0⟩ := hd 3 (.one (e := ⟨3, .data⟩) rfl (by simp) rfl)
              have f0 := hf.new 3 45 rfl
              rw [hρ] at f0
              have g0 := f0.trans d0
              exact wp_val hρ (v := .int .i64 (wrap64 (z0.tdiv 3))) (w' := w1) (by simp [execOp, go_sem, rc.c, rc.f, g0, binOp]; rw [IntKind.wrap_i64]; unfold wrap64; rfl) ⟨_, rfl, Below.refl _ _, fun vs hv _ => hv⟩
            · intro _ _ a w1 hf hb hd
              obtain ⟨ρ, hρ⟩ : ∃ ρ, a.eval = ρ := ⟨_, rfl⟩
              have rc := Act.rho a
              rw [hρ] at rc
              obtain ⟨_, _, _, _, d0⟩ := hd 4 (.one (e := ⟨4, .data⟩) rfl (by simp) rfl)
              have f0 := hf.new 4 46 rfl
              rw [hρ] at f0
              have g0 := f0.trans d0
              refine wp_call hρ (f := 29) (args := #[.int .i64 (wrap64 (z0.tdiv 3)), .int .i64 8]) (by simp [execOp, go_sem, rc.c, rc.f, g0]) ((wit_any (wrap64 (z0.tdiv 3)) 8 w1 (by decide) (by decide)).mono ?_)
              rintro e w2 ⟨rfl, rfl⟩
              exact ⟨_, rfl, _, rfl, Below.refl _ _, fun vs hv _ => hv.trans (by show Value.int .i64 ((wit (wrap64 (z0.tdiv 3)) 8 : Nat) : Int) = _; rw [HK.out])⟩
            · intro _ _ a w1 hf hb hd
              obtain ⟨ρ, hρ⟩ : ∃ ρ, a.eval = ρ := ⟨_, rfl⟩
              have rc := Act.rho a
              rw [hρ] at rc
              obtain ⟨lo0, _, _, _, d0⟩ := hd 0 (.one (e := ⟨0, .data⟩) rfl (by simp) rfl)
              have f0 := hf.new 0 42 rfl
              rw [hρ] at f0
              have g0 := f0.trans d0.2.1
              obtain ⟨_, _, _, _, d1⟩ := hd 5 (.one (e := ⟨5, .data⟩) rfl (by simp) rfl)
              have f1 := hf.new 5 47 rfl
              rw [hρ] at f1
              have g1 := f1.trans d1
              have q1 : (K : Int) < 8 := by have := HKM.out; omega
              have q2 : (0 : Int) ≤ (K : Int) := by omega
              exact wp_val hρ (v := .pointer (some ⟨lo0, K, none⟩)) (w' := w1) (by simp [execOp, go_sem, rc.c, rc.f, g0, g1, q1, q2]) ⟨_, rfl, Below.refl _ _, fun vs hv hvs => ⟨lo0, (hvs 0 (.one (e := ⟨0, .data⟩) rfl (by simp) rfl)).trans d0.2.1, hv⟩⟩
            · intro _ _ a w1 hf hb hd
              obtain ⟨ρ, hρ⟩ : ∃ ρ, a.eval = ρ := ⟨_, rfl⟩
              have rc := Act.rho a
              rw [hρ] at rc
              obtain ⟨_, _, _, _, lo1, d0, d1⟩ := hd 6 (.one (e := ⟨6, .data⟩) rfl (by simp) rfl)
              obtain ⟨lo2, _, _, _, _, d2, d3⟩ := hd 0 (.more (.one (e := ⟨6, .data⟩) rfl (by simp) rfl) (.one (e := ⟨0, .data⟩) rfl (by simp) rfl))
              have he : lo2 = lo1 := by have := d2.symm.trans d0; simpa using this
              subst he
              have f0 := hf.new 6 48 rfl
              rw [hρ] at f0
              have g0 := f0.trans d1
              exact wp_val hρ (v := .int .i64 (kdC K)) (w' := w1) (by simp [execOp, go_sem, rc.c, rc.f, g0, d3]) ⟨_, rfl, Below.refl _ _, fun vs hv _ => hv⟩
            · intro _ _ a w1 hf hb hd
              obtain ⟨ρ, hρ⟩ : ∃ ρ, a.eval = ρ := ⟨_, rfl⟩
              have rc := Act.rho a
              rw [hρ] at rc
              have e := hf.old (v := .pointer (some ⟨b6, 0, none⟩)) 6 (by kernel_rfl) rfl
              rw [hρ] at e
              obtain ⟨k0, k1, k2, _, _⟩ := HS8.out w1 hb
              exact wp_val hρ (v := .agg #[.int .i64 xr, .int .i64 xy, .int .i64 xt]) (w' := w1) (by simp [execOp, go_sem, rc.c, rc.f, e, k0, k1, k2]) ⟨_, rfl, Below.refl _ _, fun vs hv _ => hv⟩
            · intro _ _ a w1 hf hb hd
              obtain ⟨ρ, hρ⟩ : ∃ ρ, a.eval = ρ := ⟨_, rfl⟩
              have rc := Act.rho a
              rw [hρ] at rc
              have e := hf.old (v := .string (idC j)) 7 (by kernel_rfl) rfl
              rw [hρ] at e
              exact wp_val hρ (v := .string (idC j)) (w' := w1) (by simp [execOp, go_sem, rc.c, rc.f, e]) ⟨_, rfl, Below.refl _ _, fun vs hv _ => hv⟩
            · intro _ _ a w1 hf hb hd
              obtain ⟨ρ, hρ⟩ : ∃ ρ, a.eval = ρ := ⟨_, rfl⟩
              have rc := Act.rho a
              rw [hρ] at rc
              have e := hf.old (v := .string (idC j)) 7 (by kernel_rfl) rfl
              rw [hρ] at e
              exact wp_val hρ (v := .string (idC j)) (w' := w1) (by simp [execOp, go_sem, rc.c, rc.f, e]) ⟨_, rfl, Below.refl _ _, fun vs hv _ => hv⟩
            · intro _ _ a w1 hf hb hd
              obtain ⟨ρ, hρ⟩ : ∃ ρ, a.eval = ρ := ⟨_, rfl⟩
              have rc := Act.rho a
              rw [hρ] at rc
              have e := hf.old (v := .slice (some ⟨rb, ro, none⟩) rn cp) 5 (by kernel_rfl) rfl
              rw [hρ] at e
              exact wp_val hρ (v := .slice (some ⟨rb, ro, none⟩) rn cp) (w' := w1) (by simp [execOp, go_sem, rc.c, rc.f, e]) ⟨_, rfl, Below.refl _ _, fun vs hv _ => hv⟩
            · intro _ _ a w1 hf hb hd
              obtain ⟨ρ, hρ⟩ : ∃ ρ, a.eval = ρ := ⟨_, rfl⟩
              have rc := Act.rho a
              rw [hρ] at rc
              obtain ⟨_, _, _, _, d0⟩ := hd 11 (.one (e := ⟨11, .data⟩) rfl (by simp) rfl)
              have f0 := hf.new 11 53 rfl
              rw [hρ] at f0
              have g0 := f0.trans d0
              exact wp_val hρ (v := .pointer (some ⟨rb, ro + 1, none⟩)) (w' := w1) (by simp [execOp, go_sem, rc.c, rc.f, g0, r3, r4, r5]) ⟨_, rfl, Below.refl _ _, fun vs hv _ => hv⟩
            · intro _ _ a w1 hf hb hd
              obtain ⟨ρ, hρ⟩ : ∃ ρ, a.eval = ρ := ⟨_, rfl⟩
              have rc := Act.rho a
              rw [hρ] at rc
              obtain ⟨_, _, _, _, d0⟩ := hd 12 (.one (e := ⟨12, .data⟩) rfl (by simp) rfl)
              have f0 := hf.new 12 54 rfl
              rw [hρ] at f0
              have g0 := f0.trans d0
              obtain ⟨_, _, _, k0, k1⟩ := HS8.out w1 hb
              exact wp_val hρ (v := .int .i64 z1) (w' := w1) (by simp [execOp, go_sem, rc.c, rc.f, g0, k0, k1]) ⟨_, rfl, Below.refl _ _, fun vs hv _ => hv⟩
            · intro _ _ a w1 hf hb hd
              obtain ⟨ρ, hρ⟩ : ∃ ρ, a.eval = ρ := ⟨_, rfl⟩
              have rc := Act.rho a
              rw [hρ] at rc
              obtain ⟨_, _, _, _, d0⟩ := hd 13 (.one (e := ⟨13, .data⟩) rfl (by simp) rfl)
              have f0 := hf.new 13 55 rfl
              rw [hρ] at f0
              have g0 := f0.trans d0
              refine wp_call hρ (f := 29) (args := #[.int .i64 z1, .int .i64 8]) (by simp [execOp, go_sem, rc.c, rc.f, g0]) ((wit_any z1 8 w1 (by decide) (by decide)).mono ?_)
              rintro e w2 ⟨rfl, rfl⟩
              exact ⟨_, rfl, _, rfl, Below.refl _ _, fun vs hv _ => hv.trans (by show Value.int .i64 ((wit z1 8 : Nat) : Int) = _; rw [HCT.out])⟩
            · intro _ _ a w1 hf hb hd
              obtain ⟨ρ, hρ⟩ : ∃ ρ, a.eval = ρ := ⟨_, rfl⟩
              have rc := Act.rho a
              rw [hρ] at rc
              exact wp_val hρ (v := .slice (some ⟨w1.heap.size, 0, none⟩) 2 2) (w' := w1.alloc (.cells #[.string ⟨#[120]⟩, .string ⟨#[121]⟩] 9)) (by simp [execOp, go_sem, rc.c, rc.f]) ⟨_, rfl, (Below.refl _ _).alloc (Nat.le_refl _) _, fun vs hv _ => ⟨by simp, hv, xyS_cell w1 HKM.out.2.1 _⟩⟩
            · intro _ _ a w1 hf hb hd
              obtain ⟨ρ, hρ⟩ : ∃ ρ, a.eval = ρ := ⟨_, rfl⟩
              have rc := Act.rho a
              rw [hρ] at rc
              have e := hf.old (v := .slice (some ⟨rb, ro, none⟩) rn cp) 5 (by kernel_rfl) rfl
              rw [hρ] at e
              exact wp_val hρ (v := .slice (some ⟨rb, ro, none⟩) rn cp) (w' := w1) (by simp [execOp, go_sem, rc.c, rc.f, e]) ⟨_, rfl, Below.refl _ _, fun vs hv _ => hv⟩
            · intro _ _ a w1 hf hb hd
              obtain ⟨ρ, hρ⟩ : ∃ ρ, a.eval = ρ := ⟨_, rfl⟩
              have rc := Act.rho a
              rw [hρ] at rc
              obtain ⟨_, _, _, _, d0⟩ := hd 16 (.one (e := ⟨16, .data⟩) rfl (by simp) rfl)
              have f0 := hf.new 16 58 rfl
              rw [hρ] at f0
              have g0 := f0.trans d0
              exact wp_val hρ (v := .pointer (some ⟨rb, ro + 1, none⟩)) (w' := w1) (by simp [execOp, go_sem, rc.c, rc.f, g0, r3, r4, r5]) ⟨_, rfl, Below.refl _ _, fun vs hv _ => hv⟩
            · intro _ _ a w1 hf hb hd
              obtain ⟨ρ, hρ⟩ : ∃ ρ, a.eval = ρ := ⟨_, rfl⟩
              have rc := Act.rho a
              rw [hρ] at rc
              obtain ⟨_, _, _, _, d0⟩ := hd 17 (.one (e := ⟨17, .data⟩) rfl (by simp) rfl)
              have f0 := hf.new 17 59 rfl
              rw [hρ] at f0
              have g0 := f0.trans d0
              obtain ⟨_, _, _, k0, k1⟩ := HS8.out w1 hb
              exact wp_val hρ (v := .int .i64 z1) (w' := w1) (by simp [execOp, go_sem, rc.c, rc.f, g0, k0, k1]) ⟨_, rfl, Below.refl _ _, fun vs hv _ => hv⟩
            · intro _ _ a w1 hf hb hd
              obtain ⟨ρ, hρ⟩ : ∃ ρ, a.eval = ρ := ⟨_, rfl⟩
              have rc := Act.rho a
              rw [hρ] at rc
              obtain ⟨_, _, _, _, d0⟩ := hd 18 (.one (e := ⟨18, .data⟩) rfl (by simp) rfl)
              have f0 := hf.new 18 60 rfl
              rw [hρ] at f0
              have g0 := f0.trans d0
              refine wp_call hρ (f := 29) (args := #[.int .i64 z1, .int .i64 2]) (by simp [execOp, go_sem, rc.c, rc.f, g0]) ((wit_any z1 2 w1 (by decide) (by decide)).mono ?_)
              rintro e w2 ⟨rfl, rfl⟩
              exact ⟨_, rfl, _, rfl, Below.refl _ _, fun vs hv _ => hv.trans (by show Value.int .i64 ((wit z1 2 : Nat) : Int) = _; rw [HMM.out])⟩
            · intro _ _ a w1 hf hb hd
              obtain ⟨ρ, hρ⟩ : ∃ ρ, a.eval = ρ := ⟨_, rfl⟩
              have rc := Act.rho a
              rw [hρ] at rc
              obtain ⟨lo0, _, _, _, d0⟩ := hd 15 (.one (e := ⟨15, .data⟩) rfl (by simp) rfl)
              have f0 := hf.new 15 57 rfl
              rw [hρ] at f0
              have g0 := f0.trans d0.2.1
              obtain ⟨_, _, _, _, d1⟩ := hd 19 (.one (e := ⟨19, .data⟩) rfl (by simp) rfl)
              have f1 := hf.new 19 61 rfl
              rw [hρ] at f1
              have g1 := f1.trans d1
              have q1 : (m : Int) < 2 := by have := HKM.out; omega
              have q2 : (0 : Int) ≤ (m : Int) := by omega
              exact wp_val hρ (v := .pointer (some ⟨lo0, m, none⟩)) (w' := w1) (by simp [execOp, go_sem, rc.c, rc.f, g0, g1, q1, q2]) ⟨_, rfl, Below.refl _ _, fun vs hv hvs => ⟨lo0, (hvs 15 (.one (e := ⟨15, .data⟩) rfl (by simp) rfl)).trans d0.2.1, hv⟩⟩
            · intro _ _ a w1 hf hb hd
              obtain ⟨ρ, hρ⟩ : ∃ ρ, a.eval = ρ := ⟨_, rfl⟩
              have rc := Act.rho a
              rw [hρ] at rc
              obtain ⟨_, _, _, _, lo1, d0, d1⟩ := hd 20 (.one (e := ⟨20, .data⟩) rfl (by simp) rfl)
              obtain ⟨lo2, _, _, _, _, d2, d3⟩ := hd 15 (.more (.one (e := ⟨20, .data⟩) rfl (by simp) rfl) (.one (e := ⟨15, .data⟩) rfl (by simp) rfl))
              have he : lo2 = lo1 := by have := d2.symm.trans d0; simpa using this
              subst he
              have f0 := hf.new 20 62 rfl
              rw [hρ] at f0
              have g0 := f0.trans d1
              exact wp_val hρ (v := .string (xyS m)) (w' := w1) (by simp [execOp, go_sem, rc.c, rc.f, g0, d3]) ⟨_, rfl, Below.refl _ _, fun vs hv _ => hv⟩
            · intro _ _ a w1 hf hb hd
              obtain ⟨ρ, hρ⟩ : ∃ ρ, a.eval = ρ := ⟨_, rfl⟩
              have rc := Act.rho a
              rw [hρ] at rc
              obtain ⟨_, _, _, _, d0⟩ := hd 21 (.one (e := ⟨21, .data⟩) rfl (by simp) rfl)
              have f0 := hf.new 21 63 rfl
              rw [hρ] at f0
              have g0 := f0.trans d0
              exact wp_val hρ (v := .agg #[.string ⟨#[107]⟩, .string (xyS m)]) (w' := w1) (by simp [execOp, go_sem, rc.c, rc.f, g0]) ⟨_, rfl, Below.refl _ _, fun vs hv _ => hv⟩
            · intro _ _ a w1 hf hb hd
              obtain ⟨ρ, hρ⟩ : ∃ ρ, a.eval = ρ := ⟨_, rfl⟩
              have rc := Act.rho a
              rw [hρ] at rc
              obtain ⟨_, _, _, _, d0⟩ := hd 22 (.one (e := ⟨22, .data⟩) rfl (by simp) rfl)
              have f0 := hf.new 22 64 rfl
              rw [hρ] at f0
              have g0 := f0.trans d0
              exact wp_val hρ (v := .slice (some ⟨w1.heap.size, 0, none⟩) 1 1) (w' := w1.alloc (.cells #[.string ⟨#[107]⟩, .string (xyS m)] 37)) (by simp [execOp, go_sem, rc.c, rc.f, g0]) ⟨_, rfl, (Below.refl _ _).alloc (Nat.le_refl _) _, fun vs hv _ => ⟨by simp, hv, World.ownsRow_lit (e := 37) (base := w1.heap.size) (size := 2) w1 #[.string ⟨#[107]⟩, .string (xyS m)] 1 (Nat.le_refl _) (by decide) rfl⟩⟩
            · intro _ _ a w1 hf hb hd
              obtain ⟨ρ, hρ⟩ : ∃ ρ, a.eval = ρ := ⟨_, rfl⟩
              have rc := Act.rho a
              rw [hρ] at rc
              obtain ⟨_, _, _, _, d0⟩ := hd 10 (.one (e := ⟨10, .data⟩) rfl (by simp) rfl)
              have f0 := hf.new 10 52 rfl
              rw [hρ] at f0
              have g0 := f0.trans d0
              obtain ⟨_, _, _, _, d1⟩ := hd 14 (.one (e := ⟨14, .data⟩) rfl (by simp) rfl)
              have f1 := hf.new 14 56 rfl
              rw [hρ] at f1
              have g1 := f1.trans d1
              obtain ⟨lo0, _, _, _, _, d2, _⟩ := hd 23 (.one (e := ⟨23, .data⟩) rfl (by simp) rfl)
              have f2 := hf.new 23 65 rfl
              rw [hρ] at f2
              have g2 := f2.trans d2
              exact wp_val hρ (v := .agg #[.string (idC j), .int .i64 ct, .slice (some ⟨lo0, 0, none⟩) 1 1, .slice none 0 0]) (w' := w1) (by simp [execOp, go_sem, rc.c, rc.f, g0, g1, g2]) ⟨_, rfl, Below.refl _ _, fun vs hv hvs => ⟨lo0, (hvs 23 (.one (e := ⟨23, .data⟩) rfl (by simp) rfl)).trans d2, hv⟩⟩
            · intro _ _ a w1 hf hb hd
              obtain ⟨ρ, hρ⟩ : ∃ ρ, a.eval = ρ := ⟨_, rfl⟩
              have rc := Act.rho a
              rw [hρ] at rc
              exact wp_val hρ (v := .agg #[.string ⟨#[107]⟩, .string ⟨#[120]⟩]) (w' := w1) (by simp [execOp, go_sem, rc.c, rc.f]) ⟨_, rfl, Below.refl _ _, fun vs hv _ => hv⟩
            · intro _ _ a w1 hf hb hd
              obtain ⟨ρ, hρ⟩ : ∃ ρ, a.eval = ρ := ⟨_, rfl⟩
              have rc := Act.rho a
              rw [hρ] at rc
              obtain ⟨_, _, _, _, d0⟩ := hd 7 (.one (e := ⟨7, .data⟩) rfl (by simp) rfl)
              have f0 := hf.new 7 49 rfl
              rw [hρ] at f0
              have g0 := f0.trans d0
              obtain ⟨_, _, _, _, d1⟩ := hd 8 (.one (e := ⟨8, .data⟩) rfl (by simp) rfl)
              have f1 := hf.new 8 50 rfl
              rw [hρ] at f1
              have g1 := f1.trans d1
              obtain ⟨_, _, _, _, d2⟩ := hd 9 (.one (e := ⟨9, .data⟩) rfl (by simp) rfl)
              have f2 := hf.new 9 51 rfl
              rw [hρ] at f2
              have g2 := f2.trans d2
              obtain ⟨_, _, _, _, b0, d3, d4⟩ := hd 24 (.one (e := ⟨24, .data⟩) rfl (by simp) rfl)
              have f3 := hf.new 24 66 rfl
              rw [hρ] at f3
              have g3 := f3.trans d4
              obtain ⟨_, _, _, _, d4⟩ := hd 25 (.one (e := ⟨25, .data⟩) rfl (by simp) rfl)
              have f4 := hf.new 25 67 rfl
              rw [hρ] at f4
              have g4 := f4.trans d4
              exact wp_val hρ (v := .agg #[.int .i64 (kdC K), .int .i64 xr, .int .i64 xy, .int .i64 xt, .slice none 0 0, .string (idC j), .int .i64 ct, .slice (some ⟨b0, 0, none⟩) 1 1, .slice none 0 0, .string (idC j), .string ⟨#[107]⟩, .string ⟨#[120]⟩]) (w' := w1) (by simp [execOp, go_sem, rc.c, rc.f, g0, g1, g2, g3, g4]) ⟨_, rfl, Below.refl _ _, fun vs hv hvs => ⟨b0, (hvs 23 (.more (.one (e := ⟨24, .data⟩) rfl (by simp) rfl) (.one (e := ⟨23, .data⟩) rfl (by simp) rfl))).trans d3, hv⟩⟩
            · intro _ _ a w1 hf hb hd
              obtain ⟨ρ, hρ⟩ : ∃ ρ, a.eval = ρ := ⟨_, rfl⟩
              have rc := Act.rho a
              rw [hρ] at rc
              exact wp_val hρ (v := .pointer (some ⟨w1.heap.size, 0, none⟩)) (w' := w1.alloc (.cells #[.int .i64 0, .int .i64 0, .int .i64 0, .int .i64 0, .slice none 0 0, .string ⟨#[]⟩, .int .i64 0, .slice none 0 0, .slice none 0 0, .string ⟨#[]⟩, .string ⟨#[]⟩, .string ⟨#[]⟩] 39)) (by simp [execOp, go_sem, rc.c, rc.f]) ⟨_, rfl, (Below.refl _ _).alloc (Nat.le_refl _) _, fun vs hv _ => ⟨by simp, hv, ⟨⟨0, ⟨0, 0, 0⟩, 0, noR, RecL.zero, ⟨#[]⟩, ⟨⟨#[]⟩, ⟨#[]⟩⟩⟩, ⟨none, 0, At.none⟩⟩, ⟨by constructor <;> simp [go_sem, RecL.zero, At.none], fun o => by simp [go_sem]⟩⟩⟩
            · -- the store
              intro i k o' ho hk a w1 lo hi hf hb h1 h2 hΦ hd
              obtain ⟨ρ, hρ⟩ : ∃ ρ, a.eval = ρ := ⟨_, rfl⟩
              have rc := Act.rho a
              rw [hρ] at rc
              have hi28 : i = 28 := by
                unfold StO at hk
                split at hk
                · assumption
                · cases hk
              subst hi28
              cases ho
              obtain rfl : k = 27 := by cases hk; rfl
              obtain ⟨e1, e2, y, q⟩ := hΦ
              obtain ⟨_, _, _, _, b0, d0, d1⟩ := hd 26 (.one (e := ⟨26, .data⟩) rfl (by simp) rfl)
              have f0 := hf.new 27 8 rfl
              have f1 := hf.new 26 68 rfl
              rw [hρ] at f0 f1
              have g0 := f0.trans e2
              have g1 := f1.trans d1
              obtain ⟨⟨q0, q1, q2, q3, q4, q5, q6, q7, q8, q9, q10, q11⟩, qz⟩ := q
              simp only [Nat.zero_add] at q0 q1 q2 q3 q4 q5 q6 q7 q8 q9 q10 q11
              have hz : ¬ ¬ (lo ≤ lo ∧ lo < hi) := fun k => k ⟨Nat.le_refl _, by omega⟩
              have hbox : OpBox ((((((((((((w1.setCell ⟨lo, 0, none⟩ (.int .i64 (kdC K))).setCell ⟨lo, 1, none⟩ (.int .i64 xr)).setCell ⟨lo, 2, none⟩ (.int .i64 xy)).setCell ⟨lo, 3, none⟩ (.int .i64 xt)).setCell ⟨lo, 4, none⟩ (.slice none 0 0)).setCell ⟨lo, 5, none⟩ (.string (idC j))).setCell ⟨lo, 6, none⟩ (.int .i64 ct)).setCell ⟨lo, 7, none⟩ (.slice (some ⟨b0, 0, none⟩) 1 1)).setCell ⟨lo, 8, none⟩ (.slice none 0 0)).setCell ⟨lo, 9, none⟩ (.string (idC j))).setCell ⟨lo, 10, none⟩ (.string ⟨#[107]⟩)).setCell ⟨lo, 11, none⟩ (.string ⟨#[120]⟩)) lo (opsO K j m xr xy xt ct b0) := by
                refine ⟨?_, fun o => by simp only [World.frozen?_setCell]; exact qz o⟩
                constructor <;> simp [go_sem, opsO, q0, q1, q2, q3, q4, q5, q6, q7, q8, q9, q10, q11]
              have hkept : Kept (fun z => ¬ (lo ≤ z ∧ z < hi)) w1 ((((((((((((w1.setCell ⟨lo, 0, none⟩ (.int .i64 (kdC K))).setCell ⟨lo, 1, none⟩ (.int .i64 xr)).setCell ⟨lo, 2, none⟩ (.int .i64 xy)).setCell ⟨lo, 3, none⟩ (.int .i64 xt)).setCell ⟨lo, 4, none⟩ (.slice none 0 0)).setCell ⟨lo, 5, none⟩ (.string (idC j))).setCell ⟨lo, 6, none⟩ (.int .i64 ct)).setCell ⟨lo, 7, none⟩ (.slice (some ⟨b0, 0, none⟩) 1 1)).setCell ⟨lo, 8, none⟩ (.slice none 0 0)).setCell ⟨lo, 9, none⟩ (.string (idC j))).setCell ⟨lo, 10, none⟩ (.string ⟨#[107]⟩)).setCell ⟨lo, 11, none⟩ (.string ⟨#[120]⟩)) := by
                exact ((((((((((((Kept.setCell w1 (a := ⟨lo, 0, none⟩) hz _).trans (Kept.setCell _ (a := ⟨lo, 1, none⟩) hz _)).trans (Kept.setCell _ (a := ⟨lo, 2, none⟩) hz _)).trans (Kept.setCell _ (a := ⟨lo, 3, none⟩) hz _)).trans (Kept.setCell _ (a := ⟨lo, 4, none⟩) hz _)).trans (Kept.setCell _ (a := ⟨lo, 5, none⟩) hz _)).trans (Kept.setCell _ (a := ⟨lo, 6, none⟩) hz _)).trans (Kept.setCell _ (a := ⟨lo, 7, none⟩) hz _)).trans (Kept.setCell _ (a := ⟨lo, 8, none⟩) hz _)).trans (Kept.setCell _ (a := ⟨lo, 9, none⟩) hz _)).trans (Kept.setCell _ (a := ⟨lo, 10, none⟩) hz _)).trans (Kept.setCell _ (a := ⟨lo, 11, none⟩) hz _))
              exact wp_skip hρ (w' := ((((((((((((w1.setCell ⟨lo, 0, none⟩ (.int .i64 (kdC K))).setCell ⟨lo, 1, none⟩ (.int .i64 xr)).setCell ⟨lo, 2, none⟩ (.int .i64 xy)).setCell ⟨lo, 3, none⟩ (.int .i64 xt)).setCell ⟨lo, 4, none⟩ (.slice none 0 0)).setCell ⟨lo, 5, none⟩ (.string (idC j))).setCell ⟨lo, 6, none⟩ (.int .i64 ct)).setCell ⟨lo, 7, none⟩ (.slice (some ⟨b0, 0, none⟩) 1 1)).setCell ⟨lo, 8, none⟩ (.slice none 0 0)).setCell ⟨lo, 9, none⟩ (.string (idC j))).setCell ⟨lo, 10, none⟩ (.string ⟨#[107]⟩)).setCell ⟨lo, 11, none⟩ (.string ⟨#[120]⟩))) (by simp [execOp, go_sem, g0, g1, q0, q1, q2, q3, q4, q5, q6, q7, q8, q9, q10, q11, qz]) ⟨rfl, hkept, ⟨e1, e2, _, hbox⟩, ⟨e1, e2, b0, d0, hbox⟩⟩
            · -- behind it
              intro v lo hi w1 hb hall
              obtain ⟨l23, _, _, e23, r23⟩ := hall 23 (by decide)
              obtain ⟨l28, _, k28, e27, b0, e23', q28⟩ := hall 28 (by decide)
              have he : lo 23 = b0 := by have := e23.symm.trans e23'; simpa using this
              subst he
              have HRES : Hid (BoxO K j m xr xy xt ct W (.pointer (some ⟨lo 28, 0, none⟩)) w1) := ⟨_, _, rfl, q28, own_low r23 l23, l28, hb⟩
              clear hall e23 e23' q28 r23 l23 l28 k28 hb
              simp only [putAll, Act.put, List.setIfInBounds_toArray, List.set_cons_zero, List.set_cons_succ, Nat.zero_add, Nat.reduceAdd]
              rw [e27]
              clear e27
              generalize v 0 = y0
              generalize v 1 = y1
              generalize v 2 = y2
              generalize v 3 = y3
              generalize v 4 = y4
              generalize v 5 = y5
              generalize v 6 = y6
              generalize v 7 = y7
              generalize v 8 = y8
              generalize v 9 = y9
              generalize v 10 = y10
              generalize v 11 = y11
              generalize v 12 = y12
              generalize v 13 = y13
              generalize v 14 = y14
              generalize v 15 = y15
              generalize v 16 = y16
              generalize v 17 = y17
              generalize v 18 = y18
              generalize v 19 = y19
              generalize v 20 = y20
              generalize v 21 = y21
              generalize v 22 = y22
              generalize v 23 = y23
              generalize v 24 = y24
              generalize v 25 = y25
              generalize v 26 = y26
              go_wp2_with fail
              go_meet
              case rel => exact HRES.out

          case rest =>
            obtain ⟨w8, hw8e⟩ : ∃ w8, w8 = wc := ⟨_, rfl⟩
            subst hw8e
            obtain ⟨b8, bf, rfl, hbx, hfo, hb8, hB8⟩ := hcut
            have HBX8 := Lib.hid hbx.out
            have HFO := Lib.hid hfo.out
            have HB8 := Lib.hid hB8
            have HBWS : Hid (w.heap.size ≤ W.heap.size) := Nat.le_trans HB.out.size HBW.out.size
            have HAO : Hid (AskOk (opsO K j m xr xy xt ct bf).o) := ⟨HWX.out.1, HWX.out.2.1, HWX.out.2.2.1, HWX.out.2.2.2.1, HWX.out.2.2.2.2.1, HWX.out.2.2.2.2.2, (kdC_in K).1, Int.le_trans (kdC_in K).2 (by decide), idC_nm j, rfl, ops_rec j m HKM.out.2.2.1 HKM.out.2.2.2, kx_fd, rfl⟩
            obtain ⟨⟨c0, c1, c2, c3, c4, c5, c6, c7, c8, c9, c10, c11⟩, hz⟩ := hbx.out
            simp only [Nat.zero_add] at c0 c1 c2 c3 c4 c5 c6 c7 c8 c9 c10 c11
            have z4' := hz 4
            have HNO : Hid (NewOp w.heap.size w8 (opsO K j m xr xy xt ct bf)) := ⟨World.ownsRow_nil _ _ _ _, ⟨own_low HFO.out HBWS.out, World.ownsRow_nil _ _ _ _⟩⟩
            clear hbx hfo hB8 hz
            have c0' : w8.cell? ⟨b8, 0, none⟩ = some (.int .i64 (kdC K)) := c0
            have c4' : w8.cell? ⟨b8, 4, none⟩ = some (.slice none 0 0) := c4
            have hb8l : b8 < w8.heap.size := cell_lt c0
            clear c0 c1 c2 c3 c4 c5 c6 c7 c8 c9 c10 c11
            by_cases h1 : kdC K = 1
            · have e1 : (kdC K == 1) = true := by simpa using h1
              clear h1
              go_upto_region 11 with fail
              obtain ⟨x, w10, hw10, hbx, hnew, hok, hx6, hbel⟩ : ∃ (x : OO) (w10 : World), w10 = ((w8.setCell ⟨b8, 4, none⟩ (.slice (some ⟨w8.heap.size, 0, none⟩) 4 4)).alloc (.cells #[.int .i64 0, .int .i64 (-1), .int .i64 0, .int .i64 40, .int .i64 1, .bool true, .int .i64 1, .int .i64 (-1), .int .i64 0, .int .i64 20, .int .i64 3, .bool true, .int .i64 2, .int .i64 0, .int .i64 0, .int .i64 40, .int .i64 7, .bool true, .int .i64 (-1), .int .i64 (-1), .int .i64 10, .int .i64 12, .int .i64 2, .bool false] 63)) ∧ OpBox w10 b8 x ∧ NewOp w.heap.size w10 x ∧ AskOk x.o ∧ x.o.kind ≤ 6 ∧ Below W.heap.size W w10 := by
                  obtain ⟨V, hV⟩ : ∃ V, V = w8.setCell ⟨b8, 4, none⟩ (.slice (some ⟨w8.heap.size, 0, none⟩) 4 4) := ⟨_, rfl⟩
                  have hs : V.heap.size = w8.heap.size := by rw [hV]; simp [World.setCell]
                  have hbV := HBX8.out.rules (some ⟨w8.heap.size, 0, none⟩) 4 4 opsR
                  rw [← hV] at hbV ⊢
                  have hkV : Kept (fun z => z ≠ b8) w8 V := by rw [hV]; exact Kept.setCell w8 (fun k => k rfl) _
                  have hbb : Below V.heap.size V (V.alloc (.cells #[.int .i64 0, .int .i64 (-1), .int .i64 0, .int .i64 40, .int .i64 1, .bool true, .int .i64 1, .int .i64 (-1), .int .i64 0, .int .i64 20, .int .i64 3, .bool true, .int .i64 2, .int .i64 0, .int .i64 0, .int .i64 40, .int .i64 7, .bool true, .int .i64 (-1), .int .i64 (-1), .int .i64 10, .int .i64 12, .int .i64 2, .bool false] 63)) := (Below.refl _ _).alloc (Nat.le_refl _) _
                  have ho := World.ownsRow_lit (e := 63) (base := w.heap.size) (size := 6) V #[.int .i64 0, .int .i64 (-1), .int .i64 0, .int .i64 40, .int .i64 1, .bool true, .int .i64 1, .int .i64 (-1), .int .i64 0, .int .i64 20, .int .i64 3, .bool true, .int .i64 2, .int .i64 0, .int .i64 0, .int .i64 40, .int .i64 7, .bool true, .int .i64 (-1), .int .i64 (-1), .int .i64 10, .int .i64 12, .int .i64 2, .bool false] 4 (by rw [hs]; have := HBWS.out; have := HB8.out.size; omega) (by decide) rfl
                  rw [hs] at ho
                  have hne : bf ≠ b8 := fun e => by
                    have h1 := World.ownsRow.cells HFO.out (g := bf) rfl 0 (.string ⟨#[107]⟩) rfl
                    have hadd : (⟨bf, 0, none⟩ : Addr).add 0 = ⟨bf, 0, none⟩ := by unfold Addr.add; split <;> simp_all
                    rw [hadd, e] at h1
                    have h2 := HBX8.out.at_.c0
                    rw [h1] at h2
                    cases h2
                  have hf : w.heap.size ≤ w.heap.size := Nat.le_refl _
                  have hfV := own_kept HNO.out.r.f hkV (fun b hb => by cases hb; exact hne)
                  exact ⟨_, _, rfl, hbV.below hbb, ⟨ho, ⟨own_below hfV hbb, World.ownsRow_nil _ _ _ _⟩⟩, { HAO.out with rules := opsR_ok }, (kdC_in K).2, (show Below W.heap.size W V by rw [hV]; exact HB8.out.setCell (p := ⟨b8, 4, none⟩) hb8 _).trans (hbb.mono (by rw [hs]; exact HB8.out.size))⟩
              clear c0' c4' z4' e1 hb8l
              rw [← hw10]
              clear hw10
              obtain ⟨⟨c0, c1, c2, c3, c4, c5, c6, c7, c8, c9, c10, c11⟩, _⟩ := hbx
              simp only [Nat.zero_add] at c0 c1 c2 c3 c4 c5 c6 c7 c8 c9 c10 c11
              have hB10 : Below wr.heap.size wr w10 := HBW.out.trans (hbel.mono HBW.out.size)
              obtain ⟨W11, hW11⟩ : ∃ W11, W11 = w10.alloc (.cells #[.int .i64 x.o.kind, .int .i64 x.o.who.role, .int .i64 x.o.who.why, .int .i64 x.o.who.time, .slice x.P.ra x.o.n x.P.rc, .string x.o.r.id, .int .i64 x.o.r.cats, .slice x.P.p.fa x.o.r.fs.length x.P.p.fc, .slice x.P.p.ra x.o.r.rs.length x.P.p.rc, .string x.o.id, .string x.o.f.key, .string x.o.f.val] 39) := ⟨_, rfl⟩
              have hA11 : Below w10.heap.size w10 W11 := by rw [hW11]; exact (Below.refl _ _).alloc (Nat.le_refl _) _
              have hB11 := HB.out.trans ((hB10.trans (hA11.mono hB10.size)).mono HB.out.size)
              have hrow2 : OwnO w.heap.size W11 (.slice A nq c) q := own_below (own_below HR.out.2.2.1 hB10) hA11
              have hall2 : ∀ y ∈ q ++ [x], NewOp w.heap.size W11 y := fun y hy => by
                rcases List.mem_append.1 hy with hy | hy
                · exact ((HR.out.2.2.2 y hy).below hB10).below hA11
                · rw [List.mem_singleton] at hy; subst hy; exact hnew.below hA11
              have hoks : ∀ y ∈ q ++ [x], AskOk y.o := fun y hy => by
                rcases List.mem_append.1 hy with hy | hy
                · exact HR.out.2.1 y hy
                · rw [List.mem_singleton] at hy; subst hy; exact hok
              have hnews := cell_op w10 x 39
              rw [← hW11] at hnews
              have hlast : w.heap.size ≤ W11.heap.size := hB11.size
              have hqk : nq ≤ k := by have := HR.out.1; have := HNQ.out; omega
              have hn80 : nq < 1000 := by omega
              have HR2 := Lib.hid hrow2
              have HALL := Lib.hid hall2
              have HOKS := Lib.hid hoks
              have HNE := Lib.hid hnews
              have HB11 := Lib.hid hB11
              have HW11 := Lib.hid hW11
              have HQK := Lib.hid hqk
              rw [hW11] at HNE HR2
              have hlast2 := hlast
              rw [hW11] at hlast2
              have HX6 := Lib.hid hx6
              clear hrow2 hall2 hoks hnews hB11 hA11 hB10 hnew hok hbel hW11 HSS HS8 HBX8 hqk hlast hx6
              go_wp2_with (at_builtin; refine wpList_append_own _ rfl _ _ 27 rfl w.heap.size 39 i0 _ 12 176 Try.underlying27 hi0 hz0 hz1 hz2 rfl (by decide) (.slice A nq c) nq (cellsO q) rfl (HNQ.out ▸ HR2.out) ⟨w10.heap.size, 0, none⟩ 1 1 (cellsO [x]) rfl rfl HNE.out (cellsO_one _) (by unfold maxLen; omega) (by omega) hlast2 ?_; intro v' w3 hown' hgrow hnv)
              rw [← HW11.out] at hgrow HR2
              have hr3 : OwnO w.heap.size w3 v' (q ++ [x]) := by
                unfold OwnO
                rw [cellsO_append, List.length_append, HNQ.out]
                exact hown'
              have ha3 : ∀ y ∈ q ++ [x], NewOp w.heap.size w3 y := fun y hy => (HALL.out y hy).grown HR2.out (by exact hgrow)
              have hB3 : Below w.heap.size w w3 := HB11.out.grown hgrow HB11.out.size (fun jj hj => ((World.ownsRow.lt HR2.out) jj hj).1)
              have HR3 := Lib.hid hr3
              have HA3 := Lib.hid ha3
              have HB3 := Lib.hid hB3
              clear hown' hgrow hnv ha3 HALL HB11 HNE HR2 hr3 hB3
              go_wp2_with fail
              go_roundw
              case rel =>
                refine ⟨k + 1, q ++ [x], by omega, by go_num, ⟨?_, HOKS.out, HR3.out, HA3.out⟩, (fun y hy => by
                  rcases List.mem_append.1 hy with hy | hy
                  · exact HK6.out y hy
                  · rw [List.mem_singleton] at hy; subst hy; exact HX6.out), HB3.out⟩
                rw [List.length_append, HNQ.out]
                exact Nat.succ_le_succ HQK.out
              case measure => simp [intOf]; omega
            · have e1 : (kdC K == 1) = false := by simpa using h1
              clear h1
              go_upto_region 11 with fail
              obtain ⟨w10, hw10e⟩ : ∃ w10, w10 = w8 := ⟨_, rfl⟩
              have hbx := HBX8.out
              have hnew := HNO.out
              have hok := HAO.out
              have hx6 : (opsO K j m xr xy xt ct bf).o.kind ≤ 6 := (kdC_in K).2
              have hbel := HB8.out
              rw [← hw10e] at hbx hnew hbel ⊢
              obtain ⟨x, hxe⟩ : ∃ x, x = opsO K j m xr xy xt ct bf := ⟨_, rfl⟩
              rw [← hxe] at hbx hnew hok hx6
              clear c0' c4' z4' e1 hb8l hw10e hxe
              obtain ⟨⟨c0, c1, c2, c3, c4, c5, c6, c7, c8, c9, c10, c11⟩, _⟩ := hbx
              simp only [Nat.zero_add] at c0 c1 c2 c3 c4 c5 c6 c7 c8 c9 c10 c11
              have hB10 : Below wr.heap.size wr w10 := HBW.out.trans (hbel.mono HBW.out.size)
              obtain ⟨W11, hW11⟩ : ∃ W11, W11 = w10.alloc (.cells #[.int .i64 x.o.kind, .int .i64 x.o.who.role, .int .i64 x.o.who.why, .int .i64 x.o.who.time, .slice x.P.ra x.o.n x.P.rc, .string x.o.r.id, .int .i64 x.o.r.cats, .slice x.P.p.fa x.o.r.fs.length x.P.p.fc, .slice x.P.p.ra x.o.r.rs.length x.P.p.rc, .string x.o.id, .string x.o.f.key, .string x.o.f.val] 39) := ⟨_, rfl⟩
              have hA11 : Below w10.heap.size w10 W11 := by rw [hW11]; exact (Below.refl _ _).alloc (Nat.le_refl _) _
              have hB11 := HB.out.trans ((hB10.trans (hA11.mono hB10.size)).mono HB.out.size)
              have hrow2 : OwnO w.heap.size W11 (.slice A nq c) q := own_below (own_below HR.out.2.2.1 hB10) hA11
              have hall2 : ∀ y ∈ q ++ [x], NewOp w.heap.size W11 y := fun y hy => by
                rcases List.mem_append.1 hy with hy | hy
                · exact ((HR.out.2.2.2 y hy).below hB10).below hA11
                · rw [List.mem_singleton] at hy; subst hy; exact hnew.below hA11
              have hoks : ∀ y ∈ q ++ [x], AskOk y.o := fun y hy => by
                rcases List.mem_append.1 hy with hy | hy
                · exact HR.out.2.1 y hy
                · rw [List.mem_singleton] at hy; subst hy; exact hok
              have hnews := cell_op w10 x 39
              rw [← hW11] at hnews
              have hlast : w.heap.size ≤ W11.heap.size := hB11.size
              have hqk : nq ≤ k := by have := HR.out.1; have := HNQ.out; omega
              have hn80 : nq < 1000 := by omega
              have HR2 := Lib.hid hrow2
              have HALL := Lib.hid hall2
              have HOKS := Lib.hid hoks
              have HNE := Lib.hid hnews
              have HB11 := Lib.hid hB11
              have HW11 := Lib.hid hW11
              have HQK := Lib.hid hqk
              rw [hW11] at HNE HR2
              have hlast2 := hlast
              rw [hW11] at hlast2
              have HX6 := Lib.hid hx6
              clear hrow2 hall2 hoks hnews hB11 hA11 hB10 hnew hok hbel hW11 HSS HS8 HBX8 hqk hlast hx6
              go_wp2_with (at_builtin; refine wpList_append_own _ rfl _ _ 27 rfl w.heap.size 39 i0 _ 12 176 Try.underlying27 hi0 hz0 hz1 hz2 rfl (by decide) (.slice A nq c) nq (cellsO q) rfl (HNQ.out ▸ HR2.out) ⟨w10.heap.size, 0, none⟩ 1 1 (cellsO [x]) rfl rfl HNE.out (cellsO_one _) (by unfold maxLen; omega) (by omega) hlast2 ?_; intro v' w3 hown' hgrow hnv)
              rw [← HW11.out] at hgrow HR2
              have hr3 : OwnO w.heap.size w3 v' (q ++ [x]) := by
                unfold OwnO
                rw [cellsO_append, List.length_append, HNQ.out]
                exact hown'
              have ha3 : ∀ y ∈ q ++ [x], NewOp w.heap.size w3 y := fun y hy => (HALL.out y hy).grown HR2.out (by exact hgrow)
              have hB3 : Below w.heap.size w w3 := HB11.out.grown hgrow HB11.out.size (fun jj hj => ((World.ownsRow.lt HR2.out) jj hj).1)
              have HR3 := Lib.hid hr3
              have HA3 := Lib.hid ha3
              have HB3 := Lib.hid hB3
              clear hown' hgrow hnv ha3 HALL HB11 HNE HR2 hr3 hB3
              go_wp2_with fail
              go_roundw
              case rel =>
                refine ⟨k + 1, q ++ [x], by omega, by go_num, ⟨?_, HOKS.out, HR3.out, HA3.out⟩, (fun y hy => by
                  rcases List.mem_append.1 hy with hy | hy
                  · exact HK6.out y hy
                  · rw [List.mem_singleton] at hy; subst hy; exact HX6.out), HB3.out⟩
                rw [List.length_append, HNQ.out]
                exact Nat.succ_le_succ HQK.out
              case measure => simp [intOf]; omega

    · obtain rfl : k = N := by omega
      obtain ⟨h1, h2, h3, h4⟩ := HR.out
      have HSL := Lib.hid (AskRow.mk h3 h4 h2)
      have HQN : Hid (nq ≤ 25) := by show nq ≤ 25; have := HNQ.out; omega
      clear h1 h2 h3 h4
      go_wp2_with fail
      go_ret
      exact ⟨A, nq, c, q, rfl, HQN.out, HSL.out, HK6.out, HB.out⟩
end Go.Proofs.Yteimdhkajbldjaa
