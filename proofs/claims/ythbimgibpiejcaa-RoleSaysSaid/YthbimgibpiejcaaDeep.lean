/- The contract of Deep. -/
import Derived.Test.YthbimgibpiejcaaRole2
import Derived.Test.YthbimgibpiejcaaDepth
import Derived.BigRegion
set_option linter.unusedVariables false
set_option linter.unusedSimpArgs false
namespace Go.Proofs.Ythbimgibpiejcaa
open Go.RowKit

/-- the array of eight numbers in block B -/
def ArrIs (B : Nat) (d : Nat → Nat) (w : World) : Prop :=
  (∀ k, k < 8 → w.cell? ⟨B, k, none⟩ = some (.int .i64 (d k : Nat))) ∧ ∀ k, k < 8 → w.frozen? ⟨B, k, none⟩ = false

theorem arr_made (w : World) : ArrIs w.heap.size (fun _ => 0) (w.alloc (.cells #[.int .i64 0, .int .i64 0, .int .i64 0, .int .i64 0, .int .i64 0, .int .i64 0, .int .i64 0, .int .i64 0] 54)) := by
  refine ⟨fun k hk => ?_, fun k hk => World.frozen?_alloc_at _ _ _ _ rfl⟩
  rw [World.cell?_alloc_at _ _ _ _ rfl]
  match k, hk with
  | 0, _ => rfl
  | 1, _ => rfl
  | 2, _ => rfl
  | 3, _ => rfl
  | 4, _ => rfl
  | 5, _ => rfl
  | 6, _ => rfl
  | 7, _ => rfl

/-- one number of it is written -/
def setAt (d : Nat → Nat) (r v : Nat) (k : Nat) : Nat := if k = r then v else d k

theorem arr_set {B r v : Nat} {d : Nat → Nat} {w : World} {x : Value} (h : ArrIs B d w) (hr : r < 8) (hx : x = .int .i64 (v : Int)) : ArrIs B (setAt d r v) ((w.setCell ⟨B, r, none⟩ x).drew) := by
  subst hx
  refine ⟨fun k hk => ?_, fun k hk => ?_⟩
  · show (w.setCell ⟨B, r, none⟩ (.int .i64 (v : Int))).cell? ⟨B, k, none⟩ = _
    by_cases e : k = r
    · subst e
      rw [World.cell?_setCell_same _ _ _ (h.1 k hk)]
      unfold setAt
      rw [if_pos rfl]
    · rw [World.cell?_setCell_other]
      · unfold setAt
        rw [if_neg e]
        exact h.1 k hk
      · intro e'
        have := congrArg Addr.off e'
        simp at this
        omega
  · show (w.setCell ⟨B, r, none⟩ (.int .i64 (v : Int))).frozen? ⟨B, k, none⟩ = false
    rw [World.frozen?_setCell]
    exact h.2 k hk

set_option maxRecDepth 100000 in
set_option maxHeartbeats 1000000 in
theorem deep_valid {a : Option Addr} {n : Nat} {u : Nat → Nat} (cap i : Nat) (w : World) (h : SlV w a n u) (hi : i < n) :
    Calls Try.prog 25 #[.slice a n cap, .int .i64 i] w fun e w' => e = .returned (.tuple #[.int .i64 (dep u i : Nat), .int .i64 0]) ∧ Below w.heap.size w w' ∧ w'.heap.size = w.heap.size + 1 := by
  have hn := h.2.1
  have hmade := arr_made w
  go_enter Try.func25, Try.ntmps25
  go_wp2_with fail
  refine (checkRole_yes cap i _ h hi).mono ?_
  rintro e w' ⟨rfl, rfl⟩
  go_wp2_with fail
  go_loopw [18] (fun s wr => ∃ (r : Nat) (d : Nat → Nat), r ≤ i + 1 ∧ s = .int .i64 r ∧ ArrIs w.heap.size d wr ∧ (∀ k, k < r → d k = dep u k) ∧ (∀ k, r ≤ k → d k = 0) ∧ Below w.heap.size w wr ∧ wr.heap.size = w.heap.size + 1) (fun s _ => i + 1 - (intOf s).toNat)
  case atStart => exact ⟨0, fun _ => 0, Nat.zero_le _, rfl, hmade, fun k hk => absurd hk (Nat.not_lt_zero k), fun _ _ => rfl, (Below.refl _ _).alloc (Nat.le_refl _) _, by simp⟩
  case round =>
    obtain ⟨r, d, hr, rfl, harr, hd1, hd2, hB, hsz⟩ := hrel
    have HD1 := Lib.hid hd1; have HD2 := Lib.hid hd2; have HA := Lib.hid harr; have HM := Lib.hid hmade
    clear hd1 hd2 harr hmade
    by_cases hri : r < i + 1
    · have hri' : (r : Int) < i + 1 := by omega
      obtain ⟨b, off, rfl, hc⟩ := h.1 r (by omega)
      have hu8 : u r < 256 := Nat.lt_trans (h.2.2 r (by omega)) (pow_lt_256 (by omega))
      have hb0 := cell_lt hc
      have HC := Lib.hid hc; have HH := Lib.hid h
      clear hc h
      go_wp2_with fail
      obtain ⟨wo, rfl⟩ : ∃ wo : World, wo = wr := ⟨_, rfl⟩
      go_loopw [22] (fun s wr => ∃ (k : Nat) (d' : Nat → Nat), k ≤ r ∧ s = .int .i64 k ∧ ArrIs w.heap.size d' wr ∧ (∀ l, l ≠ r → d' l = d l) ∧ d' r = bestN (dep u) (u r) k ∧ Below w.heap.size w wr ∧ wr.heap.size = w.heap.size + 1) (fun s _ => r - (intOf s).toNat)
      case atStart => exact ⟨0, d, Nat.zero_le _, rfl, HA.out, fun _ _ => rfl, HD2.out r (Nat.le_refl _), hB, hsz⟩
      case round =>
        obtain ⟨k, d', hk, rfl, harr, hd3, hd4, hB', hsz'⟩ := hrel
        by_cases hkr : k < r
        · have hkr' : (k : Int) < r := by omega
          have ck : wr.cell? ⟨w.heap.size, k, none⟩ = some (.int .i64 (d' k : Nat)) := harr.1 k (by omega)
          have cr : wr.cell? ⟨w.heap.size, r, none⟩ = some (.int .i64 (d' r : Nat)) := harr.1 r (by omega)
          have fr : wr.frozen? ⟨w.heap.size, r, none⟩ = false := harr.2 r (by omega)
          have cu : wr.cell? ⟨b, off + r, none⟩ = some (.int .i64 (u r : Nat)) := (hB'.cell (p := ⟨b, off + r, none⟩) hb0).trans HC.out
          have hdk : d' k = dep u k := by rw [hd3 k (by omega), HD1.out k (by omega)]
          have bk : d' k ≤ 8 := by rw [hdk]; have := dep_le u k; omega
          have br : d' r ≤ 8 := by rw [hd4]; have := bestN_le (d := dep u) (m := u r) (r := k) (fun l _ => dep_le u l); omega
          have hr8 : (r : Int) < 8 := by omega
          have hk8 : (k : Int) < 8 := by omega
          have HD3 := Lib.hid hd3; have HD4 := Lib.hid hd4; have HA' := Lib.hid harr; have HDK := Lib.hid hdk
          clear hd3 hd4 harr hdk
          cases hb : (u r).testBit k
          · go_wp2_with (go_at_call 42; refine (has_any (u r) k _ hu8 (by omega)).mono ?_; rintro e w' ⟨rfl, rfl⟩)
            go_roundw
            case rel => exact ⟨k + 1, d', by omega, by go_num, HA'.out, HD3.out, by rw [HD4.out, bestN, if_neg (by simp [hb])], hB', hsz'⟩
            case measure => simp [intOf]; omega
          · by_cases hlt : d' r < d' k + 1
            · have hlt' : (d' r : Int) < d' k + 1 := by omega
              go_wp2_with (go_at_call 42; refine (has_any (u r) k _ hu8 (by omega)).mono ?_; rintro e w' ⟨rfl, rfl⟩)
              go_region
              go_wp2_with fail
              go_roundw
              case rel =>
                refine ⟨k + 1, setAt d' r (d' k + 1), by omega, by go_num, arr_set HA'.out (by omega) (by simp), fun l hl => ?_, ?_, (hB'.setCell (Nat.le_refl _) _).drew, by simpa using hsz'⟩
                · unfold setAt
                  rw [if_neg hl]
                  exact HD3.out l hl
                · unfold setAt
                  rw [if_pos rfl, bestN, if_pos hb, ← HD4.out, ← HDK.out]
                  omega
              case measure => simp [intOf]; omega
            · have hlt' : ¬ (d' r : Int) < d' k + 1 := by omega
              go_wp2_with (go_at_call 42; refine (has_any (u r) k _ hu8 (by omega)).mono ?_; rintro e w' ⟨rfl, rfl⟩)
              go_region
              go_wp2_with fail
              go_roundw
              case rel =>
                refine ⟨k + 1, setAt d' r (d' r), by omega, by go_num, arr_set HA'.out (by omega) (by simp), fun l hl => ?_, ?_, (hB'.setCell (Nat.le_refl _) _).drew, by simpa using hsz'⟩
                · unfold setAt
                  rw [if_neg hl]
                  exact HD3.out l hl
                · unfold setAt
                  rw [if_pos rfl, bestN, if_pos hb, ← HD4.out, ← HDK.out]
                  omega
              case measure => simp [intOf]; omega
        · obtain rfl : k = r := by omega
          go_wp2_with fail
          go_roundw
          case rel =>
            refine ⟨k + 1, d', by omega, by go_num, harr, fun l hl => ?_, fun l hl => ?_, hB', hsz'⟩
            · by_cases e : l = k
              · subst e
                rw [hd4, dep_eq]
              · rw [hd3 l e]
                exact HD1.out l (by omega)
            · rw [hd3 l (by omega)]
              exact HD2.out l (by omega)
          case measure => simp [intOf]; omega
    · obtain rfl : r = i + 1 := by omega
      have ci : wr.cell? ⟨w.heap.size, i, none⟩ = some (.int .i64 (dep u i : Nat)) := by
        rw [← HD1.out i (by omega)]
        exact HA.out.1 i (by omega)
      have hi8 : (i : Int) < 8 := by omega
      go_wp2_with fail
      go_ret2
      exact ⟨rfl, hB, hsz⟩
end Go.Proofs.Ythbimgibpiejcaa
