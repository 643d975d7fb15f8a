/- slices.Delete at a list of strings that one owns: all from a place on; Lose. -/
import Derived.Test.YtkgbaaaklijopaaGAck
import Derived.Test.YtkgbaaaklijopaaShelf3
import Derived.Shelf.Slices.Delete
import Derived.Sort.OwnSorted
set_option linter.unusedVariables false
set_option linter.unusedSimpArgs false
set_option maxRecDepth 100000
namespace Go.Proofs.Ytkgbaaaklijopaa
open Go.RowKit Go.Sort Go.Shelf

theorem map_enc (l : List ByteArray) : (l.map fun s => s.data.toList).map encStr = l.map Value.string := by
  rw [List.map_map]
  exact List.map_congr_left fun s _ => by simp [encStr]

def DelTo (A : Option Addr) (m c : Nat) (l : List ByteArray) (w : World) (e : Ending) (w' : World) : Prop :=
  e = .returned (.slice A m c) ∧ OwnS 0 w' (.slice A m c) l ∧ Kept (fun z => ∀ d, A = some d → z ≠ d.block) w w'

theorem del_some {k m : Nat} (A : Option Addr) (c : Nat) (l : List ByteArray) (w : World) (ho : OwnS 0 w (.slice A k c) l) (hl : l.length = k) (hk : k ≤ 100000) (hm : m < k) :
    Calls Try.prog 37 #[.slice A k c, .int .i64 (m : Int), .int .i64 (k : Int)] w (DelTo A m c (l.take m) w) := by
  subst hl
  rcases ho.2 with ⟨e1, h0⟩ | ⟨g, c', cur, e1, hbase, hgb, r1, r2, r3, r4⟩
  · omega
  · injection e1 with ea ek ec
    subst ea ec
    obtain ⟨zs, hzs⟩ : ∃ zs, (l.map fun s => s.data.toList) = zs := ⟨_, rfl⟩
    have hzl : zs.length = l.length := by rw [← hzs, List.length_map]
    have hH : Holds encStr w g 0 zs.toArray := by
      rw [← hzs]
      exact holds_of_block hgb (by rw [map_enc]; simpa [cellsS] using r4)
    have hd := Any.slices_Delete_string Try.lays24 g 0 c m l.length zs w hH (by rw [hzl]; exact r1) (by unfold maxLen at r2; omega) (by omega) (by rw [hzl]; omega)
    rw [hzl, show l.length - (l.length - m) = m by omega] at hd
    unfold DelTo
    refine hd.mono fun e w' ⟨he, q, hw⟩ => ?_
    have htl : zs.length = (zs.take m ++ zs.drop l.length ++ List.replicate (l.length - m) []).length := by
      rw [List.length_append, List.length_append, List.length_take, List.length_drop, List.length_replicate, hzl]
      omega
    have hrow4 := ownsRow_sorted (w := w) (n := q) (os := #[]) (ss := zs) (ts := zs.take m ++ zs.drop l.length ++ List.replicate (l.length - m) []) (e := 9) (base := 0) (cap := c) htl.symm hbase hgb (by rw [hzl]; exact r1) r2 r3
    have hg4 : w.grownBy (grow (putRow encStr (Sort.ahead w q) g 0 (zs.take m ++ zs.drop l.length ++ List.replicate (l.length - m) []).toArray) #[]) (some g) := grownBy_sorted _
    rw [grow_empty, ← hw] at hrow4 hg4
    refine ⟨he, ?_, Kept.grown hg4 fun z hz e => hz _ rfl (by injection e)⟩
    have hcut : ((zs.take m ++ zs.drop l.length ++ List.replicate (l.length - m) []).map encStr).take m = cellsS (l.take m) := by
      rw [List.map_append, List.map_append, List.append_assoc, List.take_left' (by rw [List.length_map, List.length_take, hzl]; omega)]
      unfold cellsS
      rw [List.map_take, List.map_take, ← hzs, map_enc]
    have hml : (l.take m).length = m := by rw [List.length_take]; omega
    unfold OwnS
    rw [hml, ← hcut]
    rcases hrow4.2 with ⟨e1, _⟩ | ⟨g', cap', cur', e1, hb', hh', k1, k2, k3, k4⟩
    · cases e1
    · injection e1 with ea _ ec
      injection ea with ea
      injection ea with ea
      subst ea ec
      refine ⟨by rw [List.length_take, hrow4.1, hzl]; omega, .inr ⟨g, c, cur', rfl, hb', hh', by omega, k2, k3, ?_⟩⟩
      rw [← k4, List.take_take, Nat.mul_one, hzl, Nat.mul_one]
      congr 1
      omega
theorem del_none {k : Nat} (A : Option Addr) (c : Nat) (l : List ByteArray) (w : World) (ho : OwnS 0 w (.slice A k c) l) (hl : l.length = k) :
    Calls Try.prog 37 #[.slice A k c, .int .i64 (k : Int), .int .i64 (k : Int)] w (DelTo A k c l w) := by
  have hc : k ≤ c := by
    subst hl
    exact (OwnS.sl ho).2.1
  have n1 : (0 : Int) ≤ (k : Int) := by omega
  have n2 : (k : Int) ≤ (c : Int) := by omega
  have HO := Lib.hid ho
  clear ho hl
  go_enter Try.func37, Try.ntmps37
  go_wp2_with fail
  go_ret
  exact ⟨rfl, HO.out, Kept.refl _ _⟩
theorem del_is {k m : Nat} (A : Option Addr) (c : Nat) (l : List ByteArray) (w : World) (ho : OwnS 0 w (.slice A k c) l) (hl : l.length = k) (hk : k ≤ 100000) (hm : m ≤ k) :
    Calls Try.prog 37 #[.slice A k c, .int .i64 (m : Int), .int .i64 (k : Int)] w (DelTo A m c (l.take m) w) := by
  rcases Nat.lt_or_ge m k with h | h
  · exact del_some A c l w ho hl hk h
  · obtain rfl : m = k := by omega
    rw [List.take_of_length_le (by omega)]
    exact del_none A c l w ho hl

/-! ## Lose -/
theorem setL_ok {X : GrpX} {j : Nat} {l : List ByteArray} (h : X.Ok) (h60 : l.length ≤ 60) (ht : X.told (j + 1) ≤ l.length) : (X.setL (j + 1) l).Ok := by
  refine ⟨h.n4, fun i hi => ?_, fun i h1 hi => ?_⟩
  · by_cases e : i = j + 1
    · simp only [GrpX.setL, if_pos e]; exact h60
    · simp only [GrpX.setL, if_neg e]; exact h.few i hi
  · have e0 : ¬ 0 = j + 1 := by omega
    have := h.tl i h1 hi
    by_cases e : i = j + 1
    · subst e
      simp only [GrpX.setL, if_true, if_neg e0]
      omega
    · simp only [GrpX.setL, if_neg e, if_neg e0]
      exact this

set_option maxHeartbeats 1000000 in
theorem lose_yes {w : World} {O : Nat → Prop} {p q : Nat} {X : GrpX} {i : Int} {j m : Nat} (h : Grp w O p q X) (hi : i = ((j + 1 : Nat) : Int)) (hj : j < X.n) (ht : X.told (j + 1) ≤ m) (hm : m ≤ (X.L (j + 1)).length) :
    Calls Try.prog 22 #[ptr p, .int .i64 i, .int .i64 (m : Int)] w fun e w' => e = .returned (.int .i64 0) ∧ GTo O p q (X.setL (j + 1) ((X.L (j + 1)).take m)) w w' := by
  obtain ⟨A, C, h⟩ := h
  have cj := h.cl (j + 1) hj
  rw [gloc_succ] at cj
  have ct := h.ct j hj
  have fq := h.zq (j * 2)
  have hql := h.lt q h.oq
  have HF := Lib.hid (fol_yes w h.c1 hi hj h.ok.n4)
  have hd : Below w.heap.size w w.drew := (Below.refl _ _).drew
  have ho := OwnS.below (h.ow (j + 1) hj) hd
  have h60 := h.ok.few (j + 1) hj
  obtain ⟨k, hk⟩ : ∃ k, (X.L (j + 1)).length = k := ⟨_, rfl⟩
  rw [hk] at cj ho h60 hm
  have hdel := del_is (m := m) (A (j + 1)) (C (j + 1)) (X.L (j + 1)) w.drew ho hk (by omega) hm
  have HG : Hid (∀ e w', DelTo (A (j + 1)) m (C (j + 1)) ((X.L (j + 1)).take m) w.drew e w' → e = .returned (.slice (A (j + 1)) m (C (j + 1))) ∧ w'.cell? ⟨q, j * 2, none⟩ = some (.slice (A (j + 1)) k (C (j + 1))) ∧ w'.frozen? ⟨q, j * 2, none⟩ = false ∧
      GTo O p q (X.setL (j + 1) ((X.L (j + 1)).take m)) w (w'.setCell ⟨q, j * 2, none⟩ (.slice (A (j + 1)) m (C (j + 1))))) := fun e w' ⟨he, h1, h2⟩ => by
    have hz : ∀ d, A (j + 1) = some d → q ≠ d.block := fun d e => ((h.ob (j + 1) hj d e).2.2).symm
    have hk2 : Kept (fun z => ∀ d, A (j + 1) = some d → z ≠ d.block) w w' := (Kept.of hd).trans h2
    refine ⟨he, hk2.cell hz cj, (hk2.frozen (b := q) (o := j * 2) hz hql).trans fq, ?_⟩
    have hml : ((X.L (j + 1)).take m).length = m := by rw [List.length_take, hk]; omega
    have := GTo.app h hd hj hml h2 h1 (fun d e => .inl ⟨d, e, rfl⟩) (setL_ok h.ok (by omega) (by omega))
    rwa [gloc_succ] at this
  have HD := Lib.hid hdel
  have n1 : ¬ (m : Int) < (X.told (j + 1) : Int) := by omega
  have n2 : ¬ (k : Int) < (m : Int) := by omega
  generalize X.told (j + 1) = T at ct n1
  generalize A (j + 1) = a1 at cj HG HD
  generalize C (j + 1) = kc1 at cj HG HD
  clear h ht hm hi hj hdel ho hd h60 hk
  go_enter Try.func22, Try.ntmps22
  go_wp2_with fail
  refine HF.out.mono ?_
  rintro e w' ⟨rfl, rfl⟩
  go_wp2_with fail
  go_region_with (go_at_call 37; refine HD.out.mono ?_; intro e w5 hdt; obtain ⟨rfl, c5, f5, hg⟩ := HG.out e w5 hdt; have HG5 := Lib.hid hg; clear hdt hg)
  all_goals
    go_wp2_with fail
    go_ret
    exact ⟨rfl, HG5.out⟩
theorem lose_arg {w : World} {O : Nat → Prop} {p q : Nat} {X : GrpX} {i m : Int} {j : Nat} (h : Grp w O p q X) (hi : i = ((j + 1 : Nat) : Int)) (hj : j < X.n) (hm : m < (X.told (j + 1) : Int) ∨ ((X.L (j + 1)).length : Int) < m) :
    Calls Try.prog 22 #[ptr p, .int .i64 i, .int .i64 m] w fun e w' => e = .returned (.int .i64 1) ∧ w' = w := by
  obtain ⟨A, C, h⟩ := h
  have cj := h.cl (j + 1) hj
  rw [gloc_succ] at cj
  have ct := h.ct j hj
  have HF := Lib.hid (fol_yes w h.c1 hi hj h.ok.n4)
  generalize (X.L (j + 1)).length = k at cj hm
  generalize X.told (j + 1) = T at ct hm
  generalize A (j + 1) = a1 at cj
  generalize C (j + 1) = kc1 at cj
  clear h hi hj
  by_cases h0 : m < (T : Int)
  · clear hm
    go_enter Try.func22, Try.ntmps22
    go_wp2_with fail
    refine HF.out.mono ?_
    rintro e w' ⟨rfl, rfl⟩
    go_wp2_with fail
    go_ret
    exact ⟨rfl, rfl⟩
  · have h2 : (k : Int) < m := by omega
    clear hm
    go_enter Try.func22, Try.ntmps22
    go_wp2_with fail
    refine HF.out.mono ?_
    rintro e w' ⟨rfl, rfl⟩
    go_wp2_with fail
    go_ret
    exact ⟨rfl, rfl⟩
theorem lose_none {w : World} {O : Nat → Prop} {p q : Nat} {X : GrpX} {i m : Int} (h : Grp w O p q X) (hi : i < 1 ∨ (X.n : Int) < i) :
    Calls Try.prog 22 #[ptr p, .int .i64 i, .int .i64 m] w fun e w' => e = .returned (.int .i64 4) ∧ w' = w := by
  obtain ⟨A, C, h⟩ := h
  have HF := Lib.hid (fol_no w h.c1 hi)
  clear h hi
  go_enter Try.func22, Try.ntmps22
  go_wp2_with fail
  refine HF.out.mono ?_
  rintro e w' ⟨rfl, rfl⟩
  go_wp2_with fail
  go_ret
  exact ⟨rfl, rfl⟩
end Go.Proofs.Ytkgbaaaklijopaa
