/- Contracts of wyref's Seen and Hist. -/
import Derived.Test.YtekjlbbacieafaaDoorStorePuts
set_option linter.unusedVariables false
set_option linter.unusedSimpArgs false
set_option maxRecDepth 100000
namespace Go.Proofs.YtekjlbbacieafaaDoor
open Go.RowKit Go.Sort Go.Maps

theorem part_to {b : Bool} (c ct : Int) (w : World) (h0 : 0 ≤ c) (h1 : c ≤ 255) (h2 : 0 ≤ ct) (h3 : ct ≤ 255) (hb : among c ct = b) :
    Calls Tryd.prog 52 #[.int .i64 c, .int .i64 ct] w fun e w' => e = .returned (.bool b) ∧ Below w.heap.size w w' := by
  obtain ⟨n, rfl⟩ := Int.eq_ofNat_of_zero_le h0
  obtain ⟨m, rfl⟩ := Int.eq_ofNat_of_zero_le h2
  subst hb
  exact part_any n m w (by omega) (by omega)

/-- what the document's lists are: those of l that are chosen, as they lie -/
def PickTo (R : List VerL) (w : World) (e : Ending) (w' : World) : Prop := ∃ A m c, e = .returned (.slice A m c) ∧ VsAt w' A m R ∧ Below w.heap.size w w'

set_option maxHeartbeats 4000000 in
theorem refSeen_is (a : Option Addr) (l : List PV) (c : Nat) (ct : Int) (w : World) (hs : SlW w a l) (hn : l.length ≤ 5120) (hcs : ∀ x ∈ l, 0 ≤ x.v.r.cats ∧ x.v.r.cats ≤ 255) (h0 : 0 ≤ ct) (h1 : ct ≤ 255) :
    Calls Tryd.prog 21 #[.slice a l.length c, .int .i64 ct] w (PickTo (prt (l.map (·.v)) ct) w) := by
  obtain ⟨i0, hi, hz0, hz1, hz2⟩ := info_parts Tryd.infoVer
  have HS := Lib.hid hs
  have HCS := Lib.hid hcs
  have HC0 := Lib.hid h0
  have HC1 := Lib.hid h1
  obtain ⟨n, hN⟩ : ∃ n, n = l.length := ⟨_, rfl⟩
  have HN := Lib.hid hN
  rw [← hN] at hn ⊢
  clear hs hcs hN h0 h1
  go_enter Tryd.func21, Tryd.ntmps21
  go_wp2_with fail
  go_loopw [5, 10] (fun v i wr => ∃ (k : Nat) (q : List PV), k ≤ n ∧ i = .int .i64 k ∧ q.length ≤ k ∧ Hid (q.map (·.v) = prt ((l.map (·.v)).take k) ct) ∧ RowV w.heap.size wr v q ∧ Hid (∀ x ∈ q, x ∈ l) ∧ Below w.heap.size w wr) (fun _ i _ => n - (intOf i).toNat)
  case atStart => exact ⟨0, [], Nat.zero_le _, rfl, Nat.le_refl _, rfl, RowV.nil _ _, fun x h => (by cases h), Below.refl _ _⟩
  case round =>
    obtain ⟨k, q, hk, rfl, hqk, HQ, hrow, HA, hB⟩ := hrel
    by_cases hlt : k < n
    · obtain ⟨x, hx⟩ : ∃ x, l[k]? = some x := ⟨_, List.getElem?_eq_getElem (by rw [← HN.out]; exact hlt)⟩
      have hv : (l.map (·.v))[k]? = some x.v := by rw [List.getElem?_map, hx]; rfl
      obtain ⟨hin, b, off, rfl, d0, d1, d2, d3, d4⟩ := (HS.out.below hB) k x hx
      have hxm := List.mem_of_getElem? hx
      obtain ⟨n0, n1⟩ := HCS.out x hxm
      have i1 : (0 : Int) ≤ (k : Int) := by omega
      have i2 : (k : Int) < (n : Int) := by omega
      have HV := Lib.hid hv
      have HXM := Lib.hid hxm
      have hbx : Below w.heap.size w (x.box wr) := hB.trans ((x.box_below wr).mono hB.size)
      obtain ⟨bb, hbb⟩ : ∃ bb, among x.v.r.cats ct = bb := ⟨_, rfl⟩
      have HCALL := Lib.hid (part_to x.v.r.cats ct (x.box wr) n0 n1 HC0.out HC1.out hbb)
      have HBB := Lib.hid hbb
      have HBX := Lib.hid hbx
      obtain ⟨A, cp, rfl⟩ := hrow.form
      have HROW := Lib.hid hrow
      clear hx hv hin hxm hrow hbx hbb n0 n1
      go_wp2_with fail
      refine HCALL.out.mono ?_
      rintro e w1 ⟨rfl, hb1⟩
      have hsz1 : wr.heap.size < w1.heap.size := by have := hb1.size; simp at this; omega
      obtain ⟨hc1, hf1⟩ := bcell hb1
      have a0 : w1.cell? ⟨wr.heap.size, 0, none⟩ = some (.string x.v.r.id) := by rw [hc1 _ _ (by simp)]; simp [go_sem]
      have a1 : w1.cell? ⟨wr.heap.size, 1, none⟩ = some (.int .i64 x.v.r.cats) := by rw [hc1 _ _ (by simp)]; simp [go_sem]
      have a2 : w1.cell? ⟨wr.heap.size, 2, none⟩ = some (.slice x.p.fa x.v.r.fs.length x.p.fc) := by rw [hc1 _ _ (by simp)]; simp [go_sem]
      have a3 : w1.cell? ⟨wr.heap.size, 3, none⟩ = some (.slice x.p.ra x.v.r.rs.length x.p.rc) := by rw [hc1 _ _ (by simp)]; simp [go_sem]
      have a4 : w1.cell? ⟨wr.heap.size, 4, none⟩ = some (.bool x.v.gone) := by rw [hc1 _ _ (by simp)]; simp [go_sem]
      have hB1 : Below w.heap.size w w1 := HBX.out.trans (hb1.mono HBX.out.size)
      have hwr1 : Below wr.heap.size wr w1 := (x.box_below wr).trans (hb1.mono (by simp))
      have HROW1 := Lib.hid (HROW.out.below hwr1)
      clear hb1 hc1 hf1 d0 d1 d2 d3 d4 HCALL hwr1
      cases bb with
      | true =>
        have hrow2 : RowV w.heap.size (x.box w1) (.slice A q.length cp) q := HROW1.out.below (x.box_below w1)
        have hbB := hB1.alloc hB1.size (.cells #[.string x.v.r.id, .int .i64 x.v.r.cats, .slice x.p.fa x.v.r.fs.length x.p.fc, .slice x.p.ra x.v.r.rs.length x.p.rc, .bool x.v.gone] 37)
        have hnews := cell_five_new w1 x 37
        have hsz2 : w.heap.size ≤ (x.box w1).heap.size := hbB.size
        have HNE := Lib.hid hnews
        have HBO := Lib.hid hbB
        have HR2 := Lib.hid hrow2
        clear hrow2 hnews hbB hB1
        go_wp2_with (at_builtin; refine wpList_append_own _ rfl _ _ 22 rfl w.heap.size 37 i0 _ 5 80 Tryd.underlying22 hi hz0 hz1 hz2 rfl (by decide) (.slice A q.length cp) q.length (cellsV q) rfl HR2.out ⟨w1.heap.size, 0, none⟩ 1 1 (cellsV [x]) rfl rfl HNE.out (cellsV_one _) (by unfold maxLen; omega) (by omega) hsz2 ?_; intro v' w3 hown' hgrow hnv)
        have hr3 : RowV w.heap.size w3 v' (q ++ [x]) := by
          unfold RowV
          rw [cellsV_append, List.length_append]
          exact hown'
        have hB3 : Below w.heap.size w w3 := HBO.out.grown hgrow HBO.out.size (fun j hj => ((World.ownsRow.lt HR2.out) j (show (Value.slice A q.length cp).ownBlock = some j from hj)).1)
        have HR3 := Lib.hid hr3
        clear hown' hgrow hnv HBO HNE HR2 hr3
        go_wp2_with fail
        go_roundw
        case rel =>
          refine ⟨k + 1, q ++ [x], by omega, by go_num, by simp; omega, ?_, HR3.out, fun y hy => ?_, hB3⟩
          · show (q ++ [x]).map (·.v) = _
            unfold prt
            rw [List.map_append, HQ.out, filter_take_hit HV.out HBB.out]
            rfl
          · rcases List.mem_append.1 hy with hy | hy
            · exact HA.out y hy
            · rw [List.mem_singleton] at hy; rw [hy]; exact HXM.out
        case measure => simp [intOf]; omega
      | false =>
        go_wp2_with fail
        go_roundw
        case rel =>
          refine ⟨k + 1, q, by omega, by go_num, by omega, ?_, HROW1.out, HA.out, hB1⟩
          show q.map (·.v) = _
          unfold prt
          rw [HQ.out, filter_take_miss HV.out HBB.out]
          rfl
        case measure => simp [intOf]; omega
    · obtain rfl : k = n := by omega
      obtain ⟨A, cp, rfl⟩ := hrow.form
      have hq : q.map (·.v) = prt (l.map (·.v)) ct := by
        have := HQ.out
        rwa [List.take_of_length_le (by rw [List.length_map, ← HN.out]; exact Nat.le_refl _)] at this
      have HROW := Lib.hid hrow
      have HQQ := Lib.hid hq
      clear hq hrow
      go_wp2_with fail
      go_ret
      exact ⟨A, q.length, cp, rfl, ⟨q, HQQ.out, rfl, (RowV.sl HROW.out (fun x hx => (HS.out.below hB).all x (HA.out x hx))).1⟩, hB⟩

set_option maxHeartbeats 4000000 in
theorem refHist_is (a : Option Addr) (l : List PV) (c : Nat) (id : ByteArray) (w : World) (hs : SlW w a l) (hn : l.length ≤ 5120) :
    Calls Tryd.prog 24 #[.slice a l.length c, .string id] w (PickTo (hist (l.map (·.v)) id) w) := by
  obtain ⟨i0, hi, hz0, hz1, hz2⟩ := info_parts Tryd.infoVer
  have HS := Lib.hid hs
  obtain ⟨n, hN⟩ : ∃ n, n = l.length := ⟨_, rfl⟩
  have HN := Lib.hid hN
  rw [← hN] at hn ⊢
  clear hs hN
  go_enter Tryd.func24, Tryd.ntmps24
  go_wp2_with fail
  go_loopw [5, 10] (fun v i wr => ∃ (k : Nat) (q : List PV), k ≤ n ∧ i = .int .i64 k ∧ q.length ≤ k ∧ Hid (q.map (·.v) = hist ((l.map (·.v)).take k) id) ∧ RowV w.heap.size wr v q ∧ Hid (∀ x ∈ q, x ∈ l) ∧ Below w.heap.size w wr) (fun _ i _ => n - (intOf i).toNat)
  case atStart => exact ⟨0, [], Nat.zero_le _, rfl, Nat.le_refl _, rfl, RowV.nil _ _, fun x h => (by cases h), Below.refl _ _⟩
  case round =>
    obtain ⟨k, q, hk, rfl, hqk, HQ, hrow, HA, hB⟩ := hrel
    by_cases hlt : k < n
    · obtain ⟨x, hx⟩ : ∃ x, l[k]? = some x := ⟨_, List.getElem?_eq_getElem (by rw [← HN.out]; exact hlt)⟩
      have hv : (l.map (·.v))[k]? = some x.v := by rw [List.getElem?_map, hx]; rfl
      obtain ⟨hin, b, off, rfl, d0, d1, d2, d3, d4⟩ := (HS.out.below hB) k x hx
      have hxm := List.mem_of_getElem? hx
      have i1 : (0 : Int) ≤ (k : Int) := by omega
      have i2 : (k : Int) < (n : Int) := by omega
      have HV := Lib.hid hv
      have HXM := Lib.hid hxm
      have hbx : Below w.heap.size w (x.box wr) := hB.trans ((x.box_below wr).mono hB.size)
      obtain ⟨bb, hbb⟩ : ∃ bb, sEq x.v.r.id id = bb := ⟨_, rfl⟩
      have e1 : (x.v.r.id.toList == id.toList) = bb := hbb
      have HBB := Lib.hid hbb
      have HBX := Lib.hid hbx
      obtain ⟨A, cp, rfl⟩ := hrow.form
      have HROW := Lib.hid hrow
      have hrow2 : RowV w.heap.size ((x.box wr).alloc (.cells #[.string x.v.r.id, .int .i64 x.v.r.cats, .slice x.p.fa x.v.r.fs.length x.p.fc, .slice x.p.ra x.v.r.rs.length x.p.rc, .bool x.v.gone] 37)) (.slice A q.length cp) q := (hrow.below (x.box_below wr)).below ((Below.refl _ _).alloc (Nat.le_refl _) _)
      have hbB := HBX.out.alloc HBX.out.size (.cells #[.string x.v.r.id, .int .i64 x.v.r.cats, .slice x.p.fa x.v.r.fs.length x.p.fc, .slice x.p.ra x.v.r.rs.length x.p.rc, .bool x.v.gone] 37)
      have hnews := cell_five_new (x.box wr) x 37
      have hnews' : ∀ j u, (cellsV [x])[j]? = some u → ((x.box wr).alloc (.cells #[.string x.v.r.id, .int .i64 x.v.r.cats, .slice x.p.fa x.v.r.fs.length x.p.fc, .slice x.p.ra x.v.r.rs.length x.p.rc, .bool x.v.gone] 37)).cell? ((⟨wr.heap.size + 1, 0, none⟩ : Addr).add j) = some u := by simpa using hnews
      have hsz2 : w.heap.size ≤ ((x.box wr).alloc (.cells #[.string x.v.r.id, .int .i64 x.v.r.cats, .slice x.p.fa x.v.r.fs.length x.p.fc, .slice x.p.ra x.v.r.rs.length x.p.rc, .bool x.v.gone] 37)).heap.size := hbB.size
      have HNE := Lib.hid hnews'
      have HBO := Lib.hid hbB
      have HR2 := Lib.hid hrow2
      clear hx hv hin hxm hrow hbx hbb hrow2 hbB hnews hnews'
      cases bb with
      | true =>
        go_wp2_with (at_builtin; refine wpList_append_own _ rfl _ _ 22 rfl w.heap.size 37 i0 _ 5 80 Tryd.underlying22 hi hz0 hz1 hz2 rfl (by decide) (.slice A q.length cp) q.length (cellsV q) rfl HR2.out ⟨wr.heap.size + 1, 0, none⟩ 1 1 (cellsV [x]) rfl rfl HNE.out (cellsV_one _) (by unfold maxLen; omega) (by omega) hsz2 ?_; intro v' w3 hown' hgrow hnv)
        have hr3 : RowV w.heap.size w3 v' (q ++ [x]) := by
          unfold RowV
          rw [cellsV_append, List.length_append]
          exact hown'
        have hB3 : Below w.heap.size w w3 := HBO.out.grown hgrow HBO.out.size (fun j hj => ((World.ownsRow.lt HR2.out) j (show (Value.slice A q.length cp).ownBlock = some j from hj)).1)
        have HR3 := Lib.hid hr3
        clear hown' hgrow hnv HBO HNE HR2 hr3
        go_wp2_with fail
        go_roundw
        case rel =>
          refine ⟨k + 1, q ++ [x], by omega, by go_num, by simp; omega, ?_, HR3.out, fun y hy => ?_, hB3⟩
          · show (q ++ [x]).map (·.v) = _
            unfold hist
            rw [List.map_append, HQ.out, filter_take_hit HV.out HBB.out]
            rfl
          · rcases List.mem_append.1 hy with hy | hy
            · exact HA.out y hy
            · rw [List.mem_singleton] at hy; rw [hy]; exact HXM.out
        case measure => simp [intOf]; omega
      | false =>
        go_wp2_with fail
        go_roundw
        case rel =>
          refine ⟨k + 1, q, by omega, by go_num, by omega, ?_, HROW.out.below (x.box_below wr), HA.out, HBX.out⟩
          show q.map (·.v) = _
          unfold hist
          rw [HQ.out, filter_take_miss HV.out HBB.out]
          rfl
        case measure => simp [intOf]; omega
    · obtain rfl : k = n := by omega
      obtain ⟨A, cp, rfl⟩ := hrow.form
      have hq : q.map (·.v) = hist (l.map (·.v)) id := by
        have := HQ.out
        rwa [List.take_of_length_le (by rw [List.length_map, ← HN.out]; exact Nat.le_refl _)] at this
      have HROW := Lib.hid hrow
      have HQQ := Lib.hid hq
      clear hq hrow
      go_wp2_with fail
      go_ret
      exact ⟨A, q.length, cp, rfl, ⟨q, HQQ.out, rfl, (RowV.sl HROW.out (fun x hx => (HS.out.below hB).all x (HA.out x hx))).1⟩, hB⟩
end Go.Proofs.YtekjlbbacieafaaDoor
