/- What becomes of the document's answer for a group: Add; the numbers of a row, a text by its number. -/
import Derived.Test.YtkgbaaaklijopaaGRef2
import Derived.Test.YtkgbaaaklijopaaGConcat
import Derived.Test.YtkgbaaaklijopaaGGrid
set_option linter.unusedVariables false
set_option linter.unusedSimpArgs false
set_option maxRecDepth 100000
namespace Go.Proofs.Ytkgbaaaklijopaa
open Go.RowKit Go.Sort

theorem tell0 (X : GrpX) : X.tell 0 = (X.L 0).length := rfl
section
variable {w : World} {O : Nat → Prop} {S p h k : Nat} {X : GrpX} {A : Nat → Option Addr} {C : Nat → Nat}
theorem RefA.add_no (r : RefA w O S p h k X A C) {s : ByteArray} (h60 : 60 ≤ (X.L 0).length) :
    Calls Try.prog 15 #[ptr p, .string s] w fun e w' => e = .returned (.tuple #[.int .i64 0, .int .i64 2]) ∧ w' = w := by
  have c0 := r.c0
  have cl := r.cl 0 (Nat.zero_le _)
  generalize (X.L 0).length = l0 at cl h60
  generalize A 0 = a0 at cl
  generalize C 0 = k0 at cl
  obtain ⟨m, hm⟩ : ∃ m, X.n + 1 = m := ⟨_, rfl⟩
  rw [hm] at c0
  have i1 : (0 : Int) < (m : Int) := by omega
  have i2 : (59 : Int) < (l0 : Int) := by omega
  clear r h60 hm
  go_enter Try.func15, Try.ntmps15
  go_wp2_with fail
  go_ret2
  exact ⟨rfl, rfl⟩
set_option maxHeartbeats 40000000 in
theorem RefA.add_yes (r : RefA w O S p h k X A C) {s : ByteArray} (h60 : (X.L 0).length < 60) (hO : ∀ z, O z → z < w.heap.size) :
    Calls Try.prog 15 #[ptr p, .string s] w fun e w' => e = .returned (.tuple #[.int .i64 (((X.L 0).length + 1 : Nat) : Int), .int .i64 0]) ∧ RefTo O S p h k (X.setL 0 (X.L 0 ++ [s])) w w' := by
  have c0 := r.c0
  have c1 := r.c1
  have cl := r.cl 0 (Nat.zero_le _)
  have ct := r.ct 0 (Nat.zero_le _)
  rw [tell0] at ct
  have lp := r.lp
  have lh := r.lh
  have lk := r.lk
  have fh := r.fh 0
  have fk := r.fk 0
  have hhk := r.hk
  obtain ⟨s1, s2⟩ := r.sl 0 (Nat.zero_le _)
  obtain ⟨l0, hl0⟩ : ∃ l0, (X.L 0).length = l0 := ⟨_, rfl⟩
  rw [hl0] at cl ct s2 h60 ⊢
  obtain ⟨L, hL⟩ : ∃ L, X.L 0 ++ [s] = L := ⟨_, rfl⟩
  have hLl : L.length = l0 + 1 := by rw [← hL, List.length_append, hl0]; rfl
  -- the world in which the lists are joined
  obtain ⟨V, hV⟩ : ∃ V, V = (w.drew.alloc (.cells #[.string s] 9)).alloc (.cells #[.slice (A 0) l0 (C 0), .slice (some ⟨w.heap.size, 0, none⟩) 1 1] 23) := ⟨_, rfl⟩
  have hbV : Below w.heap.size w V := by
    rw [hV]
    exact (((Below.refl _ w).drew).alloc (by simp) _).alloc (by simp) _
  have hcon := concatS_is (w.heap.size + 1) l0 1 L (X.L 0) [s] (A 0) (some ⟨w.heap.size, 0, none⟩) (C 0) 1 V hL hl0 rfl (s1.below hbV) (by
    rw [hV]
    intro t x hx
    match t, hx with
    | 0, hx => cases hx; exact ⟨_, _, rfl, by simp [go_sem]⟩
    | t + 1, hx => simp at hx) (by omega) (by omega) (by rw [hV]; simp [go_sem]) (by rw [hV]; simp [go_sem])
  have HG : Hid (∀ e w', NewS V.heap.size L V e w' → ∃ a c, e = .returned (.slice a (l0 + 1) c) ∧ w'.cell? ⟨p, 0, none⟩ = some (.slice (some ⟨h, 0, none⟩) (X.n + 1) (X.n + 1)) ∧ w'.cell? ⟨p, 1, none⟩ = some (.slice (some ⟨k, 0, none⟩) (X.n + 1) (X.n + 1)) ∧ w'.cell? ⟨h, 0, none⟩ = some (.slice (A 0) l0 (C 0)) ∧ w'.cell? ⟨k, 0, none⟩ = some (.int .i64 (l0 : Int)) ∧ w'.frozen? ⟨h, 0, none⟩ = false ∧ w'.frozen? ⟨k, 0, none⟩ = false ∧
      RefTo O S p h k (X.setL 0 L) w ((w'.setCell ⟨h, 0, none⟩ (.slice a (l0 + 1) c)).setCell ⟨k, 0, none⟩ (.int .i64 ((l0 + 1 : Nat) : Int)))) := fun e w' ⟨a, c, he, ho, hb⟩ => by
    have hb2 : Below w.heap.size w w' := hbV.trans (hb.mono hbV.size)
    obtain ⟨k1, k2, _⟩ := OwnS.sl ho
    have hsz := hbV.size
    refine ⟨a, c, by rw [he, hLl], (hb2.cell (p := ⟨p, 0, none⟩) lp).trans c0, (hb2.cell (p := ⟨p, 1, none⟩) lp).trans c1, (hb2.cell (p := ⟨h, 0, none⟩) lh).trans cl, (hb2.cell (p := ⟨k, 0, none⟩) lk).trans ct, (hb2.frozen (p := ⟨h, 0, none⟩) lh).trans fh, (hb2.frozen (p := ⟨k, 0, none⟩) lk).trans fk, ?_⟩
    refine ⟨_, _, (r.below hb2).setL0 hLl k1 (by omega) (fun d e => ?_), ((Kept.of hb2).trans (Kept.setCell w' (fun z => z.1 rfl) _)).trans (Kept.setCell _ (fun z => z.2 rfl) _)⟩
    have h6 := World.ownsRow.lt ho d.block (by rw [e]; rfl)
    refine ⟨fun z => ?_, by omega, by omega, h6.2⟩
    have := hO _ z
    omega
  have HC := Lib.hid hcon
  rw [hV] at HC HG
  generalize A 0 = a0 at cl HC HG
  generalize C 0 = k0 at cl HC HG
  obtain ⟨m, hm⟩ : ∃ m, X.n + 1 = m := ⟨_, rfl⟩
  rw [hm] at c0 c1 HG
  rw [hL]
  have i1 : (0 : Int) < (m : Int) := by omega
  have i2 : ¬ (59 : Int) < (l0 : Int) := by omega
  have i3 : (l0 : Int) < 60 := by omega
  obtain ⟨l1, hl1⟩ : ∃ l1, l1 = l0 + 1 := ⟨_, rfl⟩
  rw [← hl1] at HG ⊢
  have e1 : (l0 : Int) + 1 = (l1 : Int) := by omega
  clear r hO hl0 hm h60 s1 s2 hcon hbV hV hL hLl hl1
  go_enter Try.func15, Try.ntmps15
  go_wp2_with fail
  go_region_with (go_at_call 31; refine HC.out.mono ?_; intro e w5 hn; obtain ⟨a, c, rfl, d0, d1, d2, d3, d4, d5, hg⟩ := HG.out e w5 hn; have HGG := Lib.hid hg; clear hn hg)
  all_goals
    go_wp2_with fail
    go_ret2
    exact ⟨rfl, HGG.out⟩
end

/-! ## a row's numbers, a text -/
theorem at_any {w : World} {r : RowI} {n : Nat} (hr : r.in_ w) (hn : r.z.length = n) (j : Nat) (hj : j < 10) :
    Calls Try.prog 12 #[.slice r.a n r.c, .int .i64 (j : Int)] w fun e w' => e = .returned (.int .i64 (r.z.getD j 0)) ∧ w' = w := by
  by_cases h : j < n
  · have i1 : (j : Int) < (n : Int) := by omega
    have i2 : (0 : Int) ≤ (j : Int) := by omega
    obtain ⟨x, hx⟩ : ∃ x, r.z[j]? = some x := ⟨_, List.getElem?_eq_getElem (by omega)⟩
    obtain ⟨b, off, e, hc⟩ := hr.at_ j x hx
    have e2 : r.z.getD j 0 = x := by rw [List.getD_eq_getElem?_getD, hx]; rfl
    rw [e2, e]
    generalize r.c = rc
    clear hr hn h hx e e2
    go_enter Try.func12, Try.ntmps12
    go_wp2_with fail
    go_ret
    exact ⟨rfl, rfl⟩
  · have i1 : ¬ (j : Int) < (n : Int) := by omega
    have e2 : r.z.getD j 0 = 0 := by rw [List.getD_eq_getElem?_getD, List.getElem?_eq_none (by omega)]; rfl
    rw [e2]
    generalize r.c = rc
    generalize r.a = ra
    clear hr hn h e2
    go_enter Try.func12, Try.ntmps12
    go_wp2_with fail
    go_ret
    exact ⟨rfl, rfl⟩
end Go.Proofs.Ytkgbaaaklijopaa
