/- Contracts of the label package's functions at labels that may be. -/
import Derived.Test.YthbimgibpiejcaaProg
import Derived.Test.YthbimgibpiejcaaPlain
import Derived.WalkKit
import Derived.WalkSpells
import Derived.WalkLawsBesides
import Derived.Handy
namespace Go.Proofs.Ythbimgibpiejcaa
open Go.RowKit

set_option maxHeartbeats 400000 in
theorem check_ok (l c : Int) (w : World) (h1 : 0 ≤ l) (h2 : l ≤ 3) (h3 : 0 ≤ c) (h4 : c ≤ 255) :
    Calls Try.prog 20 #[.agg #[.int .i64 l, .int .i64 c]] w fun e w' => e = .returned (.int .i64 0) ∧ Below w.heap.size w w' ∧ w'.heap.size = w.heap.size + 1 := by
  have k1 : ¬ l < 0 := by omega
  have k2 : ¬ 3 < l := by omega
  have k4 : c < 256 := by omega
  go_enter Try.func20, Try.ntmps20
  go_wp2
  all_goals go_ret
  all_goals exact ⟨rfl, by go_grown, by simp⟩

set_option maxHeartbeats 400000 in
theorem check_bad (l c : Int) (w : World) (h : ¬ (0 ≤ l ∧ l ≤ 3 ∧ 0 ≤ c ∧ c ≤ 255)) :
    Calls Try.prog 20 #[.agg #[.int .i64 l, .int .i64 c]] w fun e w' => e = .returned (.int .i64 1) ∧ Below w.heap.size w w' ∧ w'.heap.size = w.heap.size + 1 := by
  by_cases h1 : l < 0
  · clear h
    go_enter Try.func20, Try.ntmps20
    go_wp2
    all_goals go_ret
    all_goals exact ⟨rfl, by go_grown, by simp⟩
  · by_cases h2 : 3 < l
    · clear h
      go_enter Try.func20, Try.ntmps20
      go_wp2
      all_goals go_ret
      all_goals exact ⟨rfl, by go_grown, by simp⟩
    · by_cases h3 : 0 ≤ c
      · have h4 : ¬ c < 256 := by omega
        clear h
        go_enter Try.func20, Try.ntmps20
        go_wp2
        all_goals go_ret
        all_goals exact ⟨rfl, by go_grown, by simp⟩
      · clear h
        go_enter Try.func20, Try.ntmps20
        go_wp2
        all_goals go_ret
        all_goals exact ⟨rfl, by go_grown, by simp⟩

/-- what is less than B stays as it was -/
theorem bcell {W w1 : World} (hb : Below W.heap.size W w1) : (∀ b o, b < W.heap.size → w1.cell? ⟨b, o, none⟩ = W.cell? ⟨b, o, none⟩) ∧ (∀ b o, b < W.heap.size → w1.frozen? ⟨b, o, none⟩ = W.frozen? ⟨b, o, none⟩) :=
  ⟨fun b o h => hb.cell (p := ⟨b, o, none⟩) h, fun b o h => hb.frozen (p := ⟨b, o, none⟩) h⟩

set_option maxHeartbeats 400000 in
theorem both_ok (l c l' c' : Int) (w : World) (h1 : 0 ≤ l) (h2 : l ≤ 3) (h3 : 0 ≤ c) (h4 : c ≤ 255) (h1' : 0 ≤ l') (h2' : l' ≤ 3) (h3' : 0 ≤ c') (h4' : c' ≤ 255) :
    Calls Try.prog 35 #[.agg #[.int .i64 l, .int .i64 c], .agg #[.int .i64 l', .int .i64 c']] w fun e w' => e = .returned (.int .i64 0) ∧ Below w.heap.size w w' ∧ w'.heap.size = w.heap.size + 4 := by
  have k1 : ¬ l < 0 := by omega
  have k2 : ¬ 3 < l := by omega
  have k4 : c < 256 := by omega
  have k1' : ¬ l' < 0 := by omega
  have k2' : ¬ 3 < l' := by omega
  have k4' : c' < 256 := by omega
  go_enter Try.func35, Try.ntmps35
  go_wp2
  all_goals go_ret
  all_goals exact ⟨rfl, by go_grown, by simp⟩

set_option maxHeartbeats 400000 in
theorem both_bad1 (l c l' c' : Int) (w : World) (h : ¬ (0 ≤ l ∧ l ≤ 3 ∧ 0 ≤ c ∧ c ≤ 255)) :
    Calls Try.prog 35 #[.agg #[.int .i64 l, .int .i64 c], .agg #[.int .i64 l', .int .i64 c']] w fun e w' => e = .returned (.int .i64 1) ∧ Below w.heap.size w w' ∧ w'.heap.size = w.heap.size + 3 := by
  go_enter Try.func35, Try.ntmps35
  go_wp2_with (go_at_call 20; refine (check_bad _ _ _ h).mono ?_; rintro e w1 ⟨rfl, hb, hz⟩; obtain ⟨hc, hf⟩ := bcell hb)
  all_goals go_ret
  all_goals exact ⟨rfl, (((Below.refl _ _).alloc (Nat.le_refl _) _).alloc (by simp) _).trans (hb.mono (by simp; omega)), by simp at hz; omega⟩

set_option maxHeartbeats 400000 in
theorem both_bad2 (l c l' c' : Int) (w : World) (h1 : 0 ≤ l) (h2 : l ≤ 3) (h3 : 0 ≤ c) (h4 : c ≤ 255) (h : ¬ (0 ≤ l' ∧ l' ≤ 3 ∧ 0 ≤ c' ∧ c' ≤ 255)) :
    Calls Try.prog 35 #[.agg #[.int .i64 l, .int .i64 c], .agg #[.int .i64 l', .int .i64 c']] w fun e w' => e = .returned (.int .i64 1) ∧ Below w.heap.size w w' ∧ w'.heap.size = w.heap.size + 4 := by
  go_enter Try.func35, Try.ntmps35
  go_wp2_with fail
  refine (check_ok l c _ h1 h2 h3 h4).mono ?_
  rintro e w1 ⟨rfl, hb, hz1⟩
  obtain ⟨hc, hf⟩ := bcell hb
  have hz : w.heap.size + 1 < w1.heap.size := by have := hb.size; simp at this; omega
  go_wp2_with fail
  refine (check_bad l' c' _ h).mono ?_
  rintro e w2 ⟨rfl, hb2, hz2⟩
  go_wp2_with fail
  all_goals go_ret
  all_goals exact ⟨rfl, ((((Below.refl _ _).alloc (Nat.le_refl _) _).alloc (by simp) _).trans (hb.mono (by simp; omega))).trans (hb2.mono (by omega)), by simp at hz1; omega⟩

end Go.Proofs.Ythbimgibpiejcaa
