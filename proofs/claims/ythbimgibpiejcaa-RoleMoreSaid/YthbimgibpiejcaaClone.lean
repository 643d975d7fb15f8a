/- The contract of slices.Clone at a row of the roles drawn. -/
import Derived.Test.YthbimgibpiejcaaRole2
set_option linter.unusedVariables false
set_option linter.unusedSimpArgs false
namespace Go.Proofs.Ythbimgibpiejcaa
open Go.RowKit

set_option maxHeartbeats 1000000 in
theorem clone_any (g m cap : Nat) (xs : List Value) (w : World) (h0 : 0 < m) (h8 : m ≤ 8) (hl : xs.length = m) (hx1 : ∀ u ∈ xs, u.oneCell' = true) (hc : ∀ k u, xs[k]? = some u → w.cell? ((⟨g, 0, none⟩ : Addr).add k) = some u) (hg : g < w.heap.size) :
    Calls Try.prog 34 #[.slice (some ⟨g, 0, none⟩) m cap] w fun e w' => ∃ g' c', e = .returned (.slice (some ⟨g', 0, none⟩) m c') ∧ w'.ownsRow w.heap.size 3 1 (.slice (some ⟨g', 0, none⟩) m c') m xs ∧ Below w.heap.size w w' := by
  obtain ⟨i0, hi, hz0, hz1, hz2⟩ := info_parts Try.info3'
  have hnil := @Lib.run_eql_slice_nil
  go_enter Try.func34, Try.ntmps34
  have hown : (w.alloc (.cells #[] 3)).ownsRow w.heap.size 3 1 (.slice (some ⟨w.heap.size, 0, none⟩) 0 0) 0 [] := World.ownsRow_made w #[] 0 (Nat.le_refl _) (by decide) rfl
  have hnews : ∀ k u, xs[k]? = some u → (w.alloc (.cells #[] 3)).cell? ((⟨g, 0, none⟩ : Addr).add k) = some u := fun k u hk => by
    have hadd : (⟨g, 0, none⟩ : Addr).add k = ⟨g, k, none⟩ := by unfold Addr.add; split <;> simp_all
    have := hc k u hk
    rw [hadd] at this ⊢
    exact (World.cell?_alloc_past _ _ _ hg).trans this
  have HN := Lib.hid hnews; have HC := Lib.hid hc
  clear hnews hc
  go_wp2_with (at_builtin; refine wpList_append_own _ rfl _ _ 34 rfl w.heap.size 3 i0 (.int .i64 0) 1 8 Try.underlying34 hi hz0 hz1 hz2 rfl (by decide) _ _ _ rfl hown ⟨g, 0, none⟩ m cap xs rfl ?c1 HN.out hx1 ?c3 ?c4 ?c5 ?_)
  case c1 => omega
  case c3 => unfold maxLen; omega
  case c4 => omega
  case c5 => simp
  intro v' w1 hown' hgrow hnv
  have hnx : Below w.heap.size w w1 := ((Below.refl _ _).alloc (Nat.le_refl _) _).grown hgrow (by simp) (fun j hj => by simp [Value.ownBlock] at hj; omega)
  have hne : v' ≠ .slice none 0 0 := hnv
  obtain ⟨g', c', hv⟩ : ∃ g' c', v' = .slice (some ⟨g', 0, none⟩) m c' := by
    rcases hown'.2 with ⟨h, _⟩ | ⟨g', c', cur, h, _⟩
    · exact absurd h hne
    · exact ⟨g', c', h⟩
  clear hnv hgrow hown hne
  rw [hv] at hown'
  rw [hv]
  go_wp2_with fail
  go_ret
  exact ⟨g', c', rfl, hown', hnx⟩
end Go.Proofs.Ythbimgibpiejcaa
