/- Contracts of Has and of ups in the shapes that the laws want. -/
import Derived.Test.YthbimgibpiejcaaUps
set_option linter.unusedVariables false
set_option linter.unusedSimpArgs false
namespace Go.Proofs.Ythbimgibpiejcaa
open Go.RowKit

theorem cell_lt {w : World} {b o : Nat} {v : Value} (h : w.cell? ⟨b, o, none⟩ = some v) : b < w.heap.size := World.block_lt_of_cell? w ⟨b, o, none⟩ h

theorem Sl.below {w w' : World} {a : Option Addr} {n : Nat} {z : Nat → Int} (h : Sl w a n z) (hb : Below w.heap.size w w') : Sl w' a n z := fun k hk => by
  obtain ⟨b, off, rfl, hc⟩ := h k hk
  exact ⟨b, off, rfl, (hb.cell (p := ⟨b, off + k, none⟩) (cell_lt hc)).trans hc⟩
theorem SlV.below {w w' : World} {a : Option Addr} {n : Nat} {u : Nat → Nat} (h : SlV w a n u) (hb : Below w.heap.size w w') : SlV w' a n u := ⟨h.1.below hb, h.2⟩

/-- A slice of numbers that came in: nil, or a row of cells. -/
def IsRow (k : IntKind) (w : World) (a : Option Addr) (len cap : Nat) (zs : List Int) : Prop :=
  (a = none ∧ len = 0 ∧ cap = 0 ∧ zs = []) ∨
  ∃ x, a = some x ∧ len ≤ cap ∧ cap ≤ maxLen ∧ zs.length = cap ∧ (∀ i, i < zs.length → w.cell? (x.add i) = some (.int k (zs.getD i 0))) ∧ ∀ n ∈ zs, (Lit.int k n).wf = true

theorem IsRow.sl {w : World} {a : Option Addr} {len cap : Nat} {zs : List Int} (h : IsRow .i64 w a len cap zs) : Sl w a len (fun k => zs.getD k 0) ∧ len ≤ cap ∧ cap ≤ maxLen := by
  rcases h with ⟨rfl, rfl, rfl, rfl⟩ | ⟨x, rfl, h1, h2, h3, h4, _⟩
  · exact ⟨fun k hk => absurd hk (Nat.not_lt_zero k), Nat.le_refl _, Nat.zero_le _⟩
  · refine ⟨fun k hk => ?_, h1, h2⟩
    have hc := h4 k (by omega)
    obtain ⟨b, off, spot⟩ := x
    have hs : spot = none := by simpa [Addr.add] using World.cell?_spot (h4 0 (by omega))
    subst hs
    have hadd : (⟨b, off, none⟩ : Addr).add k = ⟨b, off + k, none⟩ := by unfold Addr.add; split <;> simp_all
    rw [hadd] at hc
    exact ⟨b, off, rfl, hc⟩

theorem within_to {k n : Int} {i : Nat} (h : wit k n = i) (w : World) (h0 : 0 < n) (h1 : n ≤ 1000000) :
    Calls Try.prog 33 #[.int .i64 k, .int .i64 n] w fun e w' => e = .returned (.int .i64 (i : Int)) ∧ w = w' := by
  rw [← h]
  exact within_any k n w h0 h1

theorem uz_valid (z : Nat → Int) {m : Nat} (h : m ≤ 8) : Valid m (uz z) := ⟨h, fun k _ => uz_lt z k⟩

theorem ups_zero (a : Option Addr) (cap : Nat) (z : Nat → Int) (w : World) (hcap : cap ≤ maxLen) :
    Calls Try.prog 32 #[.slice a 0 cap] w fun e w' => e = .returned (.slice none 0 0) ∧ Below w.heap.size w w' :=
  (ups_any a 0 cap z w (fun k hk => absurd hk (Nat.not_lt_zero k)) (Nat.zero_le _) hcap).mono fun _ _ ⟨_, he, _, hb, hn⟩ => ⟨by rw [he, hn (by simp)], hb⟩

/-- an owned row of the roles drawn -/
structure UpsAt (z : Nat → Int) (m B : Nat) (w : World) (g cap : Nat) : Prop where
  lo : B ≤ g
  hi : g < w.heap.size
  row : w.ownsRow B 3 1 (.slice (some ⟨g, 0, none⟩) m cap) m (uvals z m)
  slv : SlV w (some ⟨g, 0, none⟩) m (uz z)
  le : m ≤ cap
  max : cap ≤ maxLen

theorem ups_pos (a : Option Addr) (n cap : Nat) (z : Nat → Int) (w : World) (hs : Sl w a n z) (h0 : 0 < n) (hn : n ≤ cap) (hcap : cap ≤ maxLen) :
    Calls Try.prog 32 #[.slice a n cap] w fun e w' => ∃ g c, e = .returned (.slice (some ⟨g, 0, none⟩) (min n 8) c) ∧ UpsAt z (min n 8) w.heap.size w' g c ∧ Below w.heap.size w w' :=
  (ups_any a n cap z w hs hn hcap).mono fun _ w' ⟨v, he, hown, hb, _⟩ => by
    have hm : min n 8 ≠ 0 := by omega
    rcases hown.2 with ⟨_, h⟩ | ⟨g, c, cur, rfl, hlo, hg, h1, h2, h3, h4⟩
    · exact absurd h hm
    · refine ⟨g, c, he, ⟨hlo, (Array.getElem?_eq_some_iff.1 hg).1, hown, ⟨fun k hk => ⟨g, 0, rfl, ?_⟩, uz_valid z (by omega)⟩, h1, h2⟩, hb⟩
      have := hown.cells (g := g) rfl k _ (uvals_get hk)
      have hadd : (⟨g, 0, none⟩ : Addr).add k = ⟨g, k, none⟩ := by unfold Addr.add; split <;> simp_all
      rw [hadd] at this
      rw [Nat.zero_add]
      exact this

set_option maxHeartbeats 400000 in
theorem has_valid {a : Option Addr} {n : Nat} {u : Nat → Nat} (cap i k : Nat) (w : World) (h : SlV w a n u) (hi : i < n) (hk : k < n) :
    Calls Try.prog 24 #[.slice a n cap, .int .i64 i, .int .i64 k] w fun e w' => e = .returned (.tuple #[.bool ((allU u i).testBit k), .int .i64 0]) ∧ w = w' := by
  have hlt := allU_lt h.2 hi
  have h8 := h.2.1
  go_enter Try.func24, Try.ntmps24
  go_wp2_with fail
  refine (all_valid cap i _ h hi).mono ?_
  rintro e w' ⟨rfl, rfl⟩
  go_wp2_with fail
  refine (isRole_yes a n cap k _ (by omega) (by omega)).mono ?_
  rintro e w' ⟨rfl, rfl⟩
  go_wp2_with fail
  refine (has_any _ k _ hlt (by omega)).mono ?_
  rintro e w' ⟨rfl, rfl⟩
  go_wp2_with fail
  go_ret2
  exact ⟨rfl, rfl⟩

set_option maxHeartbeats 400000 in
theorem has_nok {a : Option Addr} {n : Nat} {u : Nat → Nat} (cap i : Nat) (k : Int) (w : World) (h : SlV w a n u) (hi : i < n) (hk : ¬ (0 ≤ k ∧ k < n)) :
    Calls Try.prog 24 #[.slice a n cap, .int .i64 i, .int .i64 k] w fun e w' => e = .returned (.tuple #[.bool false, .int .i64 4]) ∧ w = w' := by
  go_enter Try.func24, Try.ntmps24
  go_wp2_with fail
  refine (all_valid cap i _ h hi).mono ?_
  rintro e w' ⟨rfl, rfl⟩
  go_wp2_with fail
  refine (isRole_no a n cap k _ hk).mono ?_
  rintro e w' ⟨rfl, rfl⟩
  go_wp2_with fail
  go_ret2
  exact ⟨rfl, rfl⟩

set_option maxHeartbeats 400000 in
/-- the error of checkRole is All's -/
theorem all_err {a : Option Addr} {n cap : Nat} (i c : Int) (w : World) (hc : c = 1 ∨ c = 2 ∨ c = 4) (h : ∀ w, Calls Try.prog 41 #[.slice a n cap, .int .i64 i] w fun e w' => e = .returned (.int .i64 c) ∧ w = w') :
    Calls Try.prog 23 #[.slice a n cap, .int .i64 i] w fun e w' => e = .returned (.tuple #[.int .i64 0, .int .i64 c]) ∧ w = w' := by
  rcases hc with rfl | rfl | rfl
  all_goals
    go_enter Try.func23, Try.ntmps23
    go_wp2_with fail
    refine (h _).mono ?_
    rintro e w' ⟨rfl, rfl⟩
    go_wp2_with fail
    go_ret2
    exact ⟨rfl, rfl⟩

set_option maxHeartbeats 400000 in
theorem has_err {a : Option Addr} {n cap : Nat} (i k c : Int) (w : World) (hc : c = 1 ∨ c = 2 ∨ c = 4) (h : ∀ w, Calls Try.prog 41 #[.slice a n cap, .int .i64 i] w fun e w' => e = .returned (.int .i64 c) ∧ w = w') :
    Calls Try.prog 24 #[.slice a n cap, .int .i64 i, .int .i64 k] w fun e w' => e = .returned (.tuple #[.bool false, .int .i64 c]) ∧ w = w' := by
  have H := fun w => all_err i c w hc h
  rcases hc with rfl | rfl | rfl
  all_goals
    go_enter Try.func24, Try.ntmps24
    go_wp2_with fail
    refine (H _).mono ?_
    rintro e w' ⟨rfl, rfl⟩
    go_wp2_with fail
    go_ret2
    exact ⟨rfl, rfl⟩

/-- a slice that was just written out -/
theorem slv_three (w : World) (a b c : Nat) (hb : b < 2) (ha : a < 1) (hc : c < 4) : SlV (w.alloc (.cells #[.int .i64 (a : Int), .int .i64 (b : Int), .int .i64 (c : Int)] 3)) (some ⟨w.heap.size, 0, none⟩) 3 (fun k => [a, b, c].getD k 0) := by
  refine ⟨fun k hk => ⟨_, _, rfl, ?_⟩, by omega, fun k hk => ?_⟩
  · match k, hk with
    | 0, _ => simp
    | 1, _ => simp
    | 2, _ => simp
  · match k, hk with
    | 0, _ => simpa using ha
    | 1, _ => simpa using hb
    | 2, _ => simpa using hc
theorem slv_two (w : World) (a b : Nat) (hb : b < 2) (ha : a < 1) : SlV (w.alloc (.cells #[.int .i64 (a : Int), .int .i64 (b : Int)] 3)) (some ⟨w.heap.size, 0, none⟩) 2 (fun k => [a, b].getD k 0) := by
  refine ⟨fun k hk => ⟨_, _, rfl, ?_⟩, by omega, fun k hk => ?_⟩
  · match k, hk with
    | 0, _ => simp
    | 1, _ => simp
  · match k, hk with
    | 0, _ => simpa using ha
    | 1, _ => simpa using hb

end Go.Proofs.Ythbimgibpiejcaa
