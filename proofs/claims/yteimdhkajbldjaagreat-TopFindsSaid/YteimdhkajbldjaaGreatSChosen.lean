/- Contracts of chosen, at each of the functions that it is handed. -/
import Derived.Test.YteimdhkajbldjaaGreatSOwn
set_option linter.unusedVariables false
set_option linter.unusedSimpArgs false
set_option maxRecDepth 100000
namespace Go.Proofs.YteimdhkajbldjaaGreat
open Go.RowKit Go.Sort Go.Maps

/-- versions that are new from block B on: vs -/
def NewVs (B : Nat) (vs : List VerL) (w : World) (v : Value) : Prop := ∃ l : List PV, l.map (·.v) = vs ∧ RowV B w v l ∧ AllNew B w l
def ChosenTo (vs : List VerL) (w : World) (e : Ending) (w' : World) : Prop := ∃ A c, e = .returned (.slice A vs.length c) ∧ NewVs w.heap.size vs w' (.slice A vs.length c) ∧ Below w.heap.size w w'

theorem cell_five_new (w : World) (x : PV) (t : TypeId) : ∀ j u, (cellsV [x])[j]? = some u → (w.alloc (.cells #[.string x.v.r.id, .int .i64 x.v.r.cats, .slice x.p.fa x.v.r.fs.length x.p.fc, .slice x.p.ra x.v.r.rs.length x.p.rc, .bool x.v.gone] t)).cell? ((⟨w.heap.size, 0, none⟩ : Addr).add j) = some u := fun j u hu => by
  rw [addr_at]
  match j, hu with
  | 0, hu => cases hu; simp [go_sem]
  | 1, hu => cases hu; simp [go_sem]
  | 2, hu => cases hu; simp [go_sem]
  | 3, hu => cases hu; simp [go_sem]
  | 4, hu => cases hu; simp [go_sem]
  | j + 5, hu => simp [cellsV, PV.cells] at hu
theorem filter_take_hit {α : Type} {p : α → Bool} {l : List α} {k : Nat} {x : α} (h : l[k]? = some x) (hp : p x = true) : (l.take (k + 1)).filter p = (l.take k).filter p ++ [x] := by
  rw [take_snoc h, List.filter_append, List.filter_cons_of_pos hp, List.filter_nil]
theorem filter_take_miss {α : Type} {p : α → Bool} {l : List α} {k : Nat} {x : α} (h : l[k]? = some x) (hp : p x = false) : (l.take (k + 1)).filter p = (l.take k).filter p := by
  rw [take_snoc h, List.filter_append, List.filter_cons_of_neg (by simp [hp]), List.filter_nil, List.append_nil]

set_option maxHeartbeats 4000000 in
theorem chosenPart (b0 : Nat) (pr : VerL → Bool) (a : Option Addr) (l : List PV) (c : Nat) (w : World) (hs : SlW w a l) (hn : l.length ≤ 5120) (hok : ∀ x ∈ l, x.v.r.fs.length ≤ 6 ∧ x.v.r.rs.length ≤ 4)
    (hf : ∀ W x, Below w.heap.size w W → x ∈ l → Calls Tryz.prog 93 #[x.val, .pointer (some ⟨b0, 0, none⟩)] W fun e w' => e = .returned (.bool (pr x.v)) ∧ Below W.heap.size W w') :
    Calls Tryz.prog 94 #[.slice a l.length c, .func (.func 93) #[] #[.pointer (some ⟨b0, 0, none⟩)]] w (ChosenTo ((l.map (·.v)).filter pr) w) := by
  obtain ⟨i0, hi, hz0, hz1, hz2⟩ := info_parts Tryz.infoVer
  have HS := Lib.hid hs
  have HF := Lib.hid hf
  have HOK := Lib.hid hok
  obtain ⟨n, hN⟩ : ∃ n, n = l.length := ⟨_, rfl⟩
  have HN := Lib.hid hN
  rw [← hN] at hn ⊢
  clear hs hf hok hN
  go_enter Tryz.func94, Tryz.ntmps94
  go_wp2_with fail
  go_loopw [5, 10] (fun v i wr => ∃ (k : Nat) (q : List PV), k ≤ n ∧ i = .int .i64 k ∧ q.length ≤ k ∧ Hid (q.map (·.v) = ((l.map (·.v)).take k).filter pr) ∧ RowV w.heap.size wr v q ∧ Hid (AllNew w.heap.size wr q) ∧ Below w.heap.size w wr) (fun _ i _ => n - (intOf i).toNat)
  case atStart => exact ⟨0, [], Nat.zero_le _, rfl, Nat.le_refl _, rfl, RowV.nil _ _, AllNew.nil _ _, Below.refl _ _⟩
  case round =>
    obtain ⟨k, q, hk, rfl, hqk, HQ, hrow, HA, hB⟩ := hrel
    by_cases hlt : k < n
    · obtain ⟨x, hx⟩ : ∃ x, l[k]? = some x := ⟨_, List.getElem?_eq_getElem (by rw [← HN.out]; exact hlt)⟩
      have hv : (l.map (·.v))[k]? = some x.v := by rw [List.getElem?_map, hx]; rfl
      obtain ⟨hin, b, off, rfl, d0, d1, d2, d3, d4⟩ := (HS.out.below hB) k x hx
      have hxm := List.mem_of_getElem? hx
      obtain ⟨n6, n4⟩ := HOK.out x hxm
      have i1 : (0 : Int) ≤ (k : Int) := by omega
      have i2 : (k : Int) < (n : Int) := by omega
      have HV := Lib.hid hv
      have HIN := Lib.hid hin
      have hbx : Below w.heap.size w (x.box wr) := hB.trans ((x.box_below wr).mono hB.size)
      have hcall := HF.out (x.box wr) x hbx hxm
      obtain ⟨A, cp, rfl⟩ := hrow.form
      have HROW := Lib.hid hrow
      clear hx hv hin hxm hrow
      cases hp : pr x.v with
      | true =>
        rw [hp] at hcall
        have HC := Lib.hid hcall
        have HP := Lib.hid hp
        clear hcall hp
        go_wp2_with fail
        refine HC.out.mono ?_
        rintro e w1 ⟨rfl, hb1⟩
        have hsz1 : wr.heap.size < w1.heap.size := by have := hb1.size; simp at this; omega
        obtain ⟨hc1, hf1⟩ := bcell hb1
        have a0 : w1.cell? ⟨wr.heap.size, 0, none⟩ = some (.string x.v.r.id) := by rw [hc1 _ _ (by simp)]; simp [go_sem]
        have a1 : w1.cell? ⟨wr.heap.size, 1, none⟩ = some (.int .i64 x.v.r.cats) := by rw [hc1 _ _ (by simp)]; simp [go_sem]
        have a2 : w1.cell? ⟨wr.heap.size, 2, none⟩ = some (.slice x.p.fa x.v.r.fs.length x.p.fc) := by rw [hc1 _ _ (by simp)]; simp [go_sem]
        have a3 : w1.cell? ⟨wr.heap.size, 3, none⟩ = some (.slice x.p.ra x.v.r.rs.length x.p.rc) := by rw [hc1 _ _ (by simp)]; simp [go_sem]
        have a4 : w1.cell? ⟨wr.heap.size, 4, none⟩ = some (.bool x.v.gone) := by rw [hc1 _ _ (by simp)]; simp [go_sem]
        have hB1 : Below w.heap.size w w1 := hbx.trans (hb1.mono hbx.size)
        have hwr1 : Below wr.heap.size wr w1 := (x.box_below wr).trans (hb1.mono (by simp))
        clear hb1 hc1 hf1 d0 d1 d2 d3 d4 hbx
        go_wp2_with fail
        refine (copy_any x _ (HIN.out.below hwr1) n6 n4).mono ?_
        rintro e w2 ⟨p', rfl, hnew, hb2⟩
        have hB2 : Below w.heap.size w w2 := hB1.trans (hb2.mono hB1.size)
        have hwr2 : Below wr.heap.size wr w2 := hwr1.trans (hb2.mono hwr1.size)
        obtain ⟨y, hy⟩ : ∃ y : PV, y = ⟨x.v, p'⟩ := ⟨_, rfl⟩
        have hyv : y.v = x.v := by rw [hy]
        have hba : Below w2.heap.size w2 (y.box w2) := y.box_below w2
        have hrow2 : RowV w.heap.size (y.box w2) (.slice A q.length cp) q := (HROW.out.below hwr2).below hba
        have hall2 : AllNew w.heap.size (y.box w2) (q ++ [y]) := ((HA.out.below hwr2).below hba).append (AllNew.one ((show NewRec _ _ y.v.r y.p by rw [hy]; exact hnew.low hB1.size).below hba))
        have hbB := hB2.alloc hB2.size (.cells #[.string y.v.r.id, .int .i64 y.v.r.cats, .slice y.p.fa y.v.r.fs.length y.p.fc, .slice y.p.ra y.v.r.rs.length y.p.rc, .bool y.v.gone] 55)
        have hnews := cell_five_new w2 y 55
        have hsz2 : w.heap.size ≤ (y.box w2).heap.size := hbB.size
        have HALL := Lib.hid hall2
        have HNE := Lib.hid hnews
        have HYV := Lib.hid hyv
        have HBB := Lib.hid hbB
        have HR2 := Lib.hid hrow2
        subst hy
        clear hwr1 hwr2 hb2 hnew hrow2 hall2 hnews hyv hbB hba hB2 hB1 a0 a1 a2 a3 a4
        go_wp2_with (at_builtin; refine wpList_append_own _ rfl _ _ 45 rfl w.heap.size 55 i0 _ 5 80 Tryz.underlying45 hi hz0 hz1 hz2 rfl (by decide) (.slice A q.length cp) q.length (cellsV q) rfl HR2.out ⟨w2.heap.size, 0, none⟩ 1 1 (cellsV [(⟨x.v, p'⟩ : PV)]) rfl rfl HNE.out (cellsV_one _) (by unfold maxLen; omega) (by omega) hsz2 ?_; intro v' w3 hown' hgrow hnv)
        have hr3 : RowV w.heap.size w3 v' (q ++ [(⟨x.v, p'⟩ : PV)]) := by
          unfold RowV
          rw [cellsV_append, List.length_append]
          exact hown'
        have ha3 := HALL.out.grown HR2.out hgrow
        have hB3 : Below w.heap.size w w3 := HBB.out.grown hgrow HBB.out.size (fun j hj => ((World.ownsRow.lt HR2.out) j (show (Value.slice A q.length cp).ownBlock = some j from hj)).1)
        have HR3 := Lib.hid hr3
        have HA3 := Lib.hid ha3
        clear hown' hgrow hnv ha3 HALL HBB HNE HR2 hr3
        go_wp2_with fail
        go_roundw
        case rel =>
          refine ⟨k + 1, q ++ [(⟨x.v, p'⟩ : PV)], by omega, by go_num, by simp; omega, ?_, HR3.out, HA3.out, hB3⟩
          show (q ++ [(⟨x.v, p'⟩ : PV)]).map (·.v) = _
          rw [List.map_append, HQ.out, filter_take_hit HV.out HP.out]
          rfl
        case measure => simp [intOf]; omega
      | false =>
        rw [hp] at hcall
        have HC := Lib.hid hcall
        have HP := Lib.hid hp
        clear hcall hp
        go_wp2_with fail
        refine HC.out.mono ?_
        rintro e w1 ⟨rfl, hb1⟩
        have hB1 : Below w.heap.size w w1 := hbx.trans (hb1.mono hbx.size)
        have hwr1 : Below wr.heap.size wr w1 := (x.box_below wr).trans (hb1.mono (by simp))
        clear hb1
        go_wp2_with fail
        go_roundw
        case rel =>
          refine ⟨k + 1, q, by omega, by go_num, by omega, ?_, HROW.out.below hwr1, HA.out.below hwr1, hB1⟩
          show q.map (·.v) = _
          rw [HQ.out, filter_take_miss HV.out HP.out]
        case measure => simp [intOf]; omega
    · obtain rfl : k = n := by omega
      obtain ⟨A, cp, rfl⟩ := hrow.form
      have hq : q.map (·.v) = (l.map (·.v)).filter pr := by
        have := HQ.out
        rwa [List.take_of_length_le (by rw [List.length_map, ← HN.out]; exact Nat.le_refl _)] at this
      have hql : q.length = ((l.map (·.v)).filter pr).length := by rw [← hq, List.length_map]
      have HROW := Lib.hid hrow
      have HQQ := Lib.hid hq
      have HQL := Lib.hid hql
      clear hq hql hrow
      go_wp2_with fail
      go_ret
      refine ⟨A, cp, (by rw [← HQL.out]; rfl), ⟨q, HQQ.out, ?_, HA.out⟩, hB⟩
      rw [← HQL.out]
      exact HROW.out

set_option maxHeartbeats 4000000 in
theorem chosenHist (b0 : Nat) (pr : VerL → Bool) (a : Option Addr) (l : List PV) (c : Nat) (w : World) (hs : SlW w a l) (hn : l.length ≤ 5120) (hok : ∀ x ∈ l, x.v.r.fs.length ≤ 6 ∧ x.v.r.rs.length ≤ 4)
    (hf : ∀ W x, Below w.heap.size w W → x ∈ l → Calls Tryz.prog 132 #[x.val, .pointer (some ⟨b0, 0, none⟩)] W fun e w' => e = .returned (.bool (pr x.v)) ∧ Below W.heap.size W w') :
    Calls Tryz.prog 94 #[.slice a l.length c, .func (.func 132) #[] #[.pointer (some ⟨b0, 0, none⟩)]] w (ChosenTo ((l.map (·.v)).filter pr) w) := by
  obtain ⟨i0, hi, hz0, hz1, hz2⟩ := info_parts Tryz.infoVer
  have HS := Lib.hid hs
  have HF := Lib.hid hf
  have HOK := Lib.hid hok
  obtain ⟨n, hN⟩ : ∃ n, n = l.length := ⟨_, rfl⟩
  have HN := Lib.hid hN
  rw [← hN] at hn ⊢
  clear hs hf hok hN
  go_enter Tryz.func94, Tryz.ntmps94
  go_wp2_with fail
  go_loopw [5, 10] (fun v i wr => ∃ (k : Nat) (q : List PV), k ≤ n ∧ i = .int .i64 k ∧ q.length ≤ k ∧ Hid (q.map (·.v) = ((l.map (·.v)).take k).filter pr) ∧ RowV w.heap.size wr v q ∧ Hid (AllNew w.heap.size wr q) ∧ Below w.heap.size w wr) (fun _ i _ => n - (intOf i).toNat)
  case atStart => exact ⟨0, [], Nat.zero_le _, rfl, Nat.le_refl _, rfl, RowV.nil _ _, AllNew.nil _ _, Below.refl _ _⟩
  case round =>
    obtain ⟨k, q, hk, rfl, hqk, HQ, hrow, HA, hB⟩ := hrel
    by_cases hlt : k < n
    · obtain ⟨x, hx⟩ : ∃ x, l[k]? = some x := ⟨_, List.getElem?_eq_getElem (by rw [← HN.out]; exact hlt)⟩
      have hv : (l.map (·.v))[k]? = some x.v := by rw [List.getElem?_map, hx]; rfl
      obtain ⟨hin, b, off, rfl, d0, d1, d2, d3, d4⟩ := (HS.out.below hB) k x hx
      have hxm := List.mem_of_getElem? hx
      obtain ⟨n6, n4⟩ := HOK.out x hxm
      have i1 : (0 : Int) ≤ (k : Int) := by omega
      have i2 : (k : Int) < (n : Int) := by omega
      have HV := Lib.hid hv
      have HIN := Lib.hid hin
      have hbx : Below w.heap.size w (x.box wr) := hB.trans ((x.box_below wr).mono hB.size)
      have hcall := HF.out (x.box wr) x hbx hxm
      obtain ⟨A, cp, rfl⟩ := hrow.form
      have HROW := Lib.hid hrow
      clear hx hv hin hxm hrow
      cases hp : pr x.v with
      | true =>
        rw [hp] at hcall
        have HC := Lib.hid hcall
        have HP := Lib.hid hp
        clear hcall hp
        go_wp2_with fail
        refine HC.out.mono ?_
        rintro e w1 ⟨rfl, hb1⟩
        have hsz1 : wr.heap.size < w1.heap.size := by have := hb1.size; simp at this; omega
        obtain ⟨hc1, hf1⟩ := bcell hb1
        have a0 : w1.cell? ⟨wr.heap.size, 0, none⟩ = some (.string x.v.r.id) := by rw [hc1 _ _ (by simp)]; simp [go_sem]
        have a1 : w1.cell? ⟨wr.heap.size, 1, none⟩ = some (.int .i64 x.v.r.cats) := by rw [hc1 _ _ (by simp)]; simp [go_sem]
        have a2 : w1.cell? ⟨wr.heap.size, 2, none⟩ = some (.slice x.p.fa x.v.r.fs.length x.p.fc) := by rw [hc1 _ _ (by simp)]; simp [go_sem]
        have a3 : w1.cell? ⟨wr.heap.size, 3, none⟩ = some (.slice x.p.ra x.v.r.rs.length x.p.rc) := by rw [hc1 _ _ (by simp)]; simp [go_sem]
        have a4 : w1.cell? ⟨wr.heap.size, 4, none⟩ = some (.bool x.v.gone) := by rw [hc1 _ _ (by simp)]; simp [go_sem]
        have hB1 : Below w.heap.size w w1 := hbx.trans (hb1.mono hbx.size)
        have hwr1 : Below wr.heap.size wr w1 := (x.box_below wr).trans (hb1.mono (by simp))
        clear hb1 hc1 hf1 d0 d1 d2 d3 d4 hbx
        go_wp2_with fail
        refine (copy_any x _ (HIN.out.below hwr1) n6 n4).mono ?_
        rintro e w2 ⟨p', rfl, hnew, hb2⟩
        have hB2 : Below w.heap.size w w2 := hB1.trans (hb2.mono hB1.size)
        have hwr2 : Below wr.heap.size wr w2 := hwr1.trans (hb2.mono hwr1.size)
        obtain ⟨y, hy⟩ : ∃ y : PV, y = ⟨x.v, p'⟩ := ⟨_, rfl⟩
        have hyv : y.v = x.v := by rw [hy]
        have hba : Below w2.heap.size w2 (y.box w2) := y.box_below w2
        have hrow2 : RowV w.heap.size (y.box w2) (.slice A q.length cp) q := (HROW.out.below hwr2).below hba
        have hall2 : AllNew w.heap.size (y.box w2) (q ++ [y]) := ((HA.out.below hwr2).below hba).append (AllNew.one ((show NewRec _ _ y.v.r y.p by rw [hy]; exact hnew.low hB1.size).below hba))
        have hbB := hB2.alloc hB2.size (.cells #[.string y.v.r.id, .int .i64 y.v.r.cats, .slice y.p.fa y.v.r.fs.length y.p.fc, .slice y.p.ra y.v.r.rs.length y.p.rc, .bool y.v.gone] 55)
        have hnews := cell_five_new w2 y 55
        have hsz2 : w.heap.size ≤ (y.box w2).heap.size := hbB.size
        have HALL := Lib.hid hall2
        have HNE := Lib.hid hnews
        have HYV := Lib.hid hyv
        have HBB := Lib.hid hbB
        have HR2 := Lib.hid hrow2
        subst hy
        clear hwr1 hwr2 hb2 hnew hrow2 hall2 hnews hyv hbB hba hB2 hB1 a0 a1 a2 a3 a4
        go_wp2_with (at_builtin; refine wpList_append_own _ rfl _ _ 45 rfl w.heap.size 55 i0 _ 5 80 Tryz.underlying45 hi hz0 hz1 hz2 rfl (by decide) (.slice A q.length cp) q.length (cellsV q) rfl HR2.out ⟨w2.heap.size, 0, none⟩ 1 1 (cellsV [(⟨x.v, p'⟩ : PV)]) rfl rfl HNE.out (cellsV_one _) (by unfold maxLen; omega) (by omega) hsz2 ?_; intro v' w3 hown' hgrow hnv)
        have hr3 : RowV w.heap.size w3 v' (q ++ [(⟨x.v, p'⟩ : PV)]) := by
          unfold RowV
          rw [cellsV_append, List.length_append]
          exact hown'
        have ha3 := HALL.out.grown HR2.out hgrow
        have hB3 : Below w.heap.size w w3 := HBB.out.grown hgrow HBB.out.size (fun j hj => ((World.ownsRow.lt HR2.out) j (show (Value.slice A q.length cp).ownBlock = some j from hj)).1)
        have HR3 := Lib.hid hr3
        have HA3 := Lib.hid ha3
        clear hown' hgrow hnv ha3 HALL HBB HNE HR2 hr3
        go_wp2_with fail
        go_roundw
        case rel =>
          refine ⟨k + 1, q ++ [(⟨x.v, p'⟩ : PV)], by omega, by go_num, by simp; omega, ?_, HR3.out, HA3.out, hB3⟩
          show (q ++ [(⟨x.v, p'⟩ : PV)]).map (·.v) = _
          rw [List.map_append, HQ.out, filter_take_hit HV.out HP.out]
          rfl
        case measure => simp [intOf]; omega
      | false =>
        rw [hp] at hcall
        have HC := Lib.hid hcall
        have HP := Lib.hid hp
        clear hcall hp
        go_wp2_with fail
        refine HC.out.mono ?_
        rintro e w1 ⟨rfl, hb1⟩
        have hB1 : Below w.heap.size w w1 := hbx.trans (hb1.mono hbx.size)
        have hwr1 : Below wr.heap.size wr w1 := (x.box_below wr).trans (hb1.mono (by simp))
        clear hb1
        go_wp2_with fail
        go_roundw
        case rel =>
          refine ⟨k + 1, q, by omega, by go_num, by omega, ?_, HROW.out.below hwr1, HA.out.below hwr1, hB1⟩
          show q.map (·.v) = _
          rw [HQ.out, filter_take_miss HV.out HP.out]
        case measure => simp [intOf]; omega
    · obtain rfl : k = n := by omega
      obtain ⟨A, cp, rfl⟩ := hrow.form
      have hq : q.map (·.v) = (l.map (·.v)).filter pr := by
        have := HQ.out
        rwa [List.take_of_length_le (by rw [List.length_map, ← HN.out]; exact Nat.le_refl _)] at this
      have hql : q.length = ((l.map (·.v)).filter pr).length := by rw [← hq, List.length_map]
      have HROW := Lib.hid hrow
      have HQQ := Lib.hid hq
      have HQL := Lib.hid hql
      clear hq hql hrow
      go_wp2_with fail
      go_ret
      refine ⟨A, cp, (by rw [← HQL.out]; rfl), ⟨q, HQQ.out, ?_, HA.out⟩, hB⟩
      rw [← HQL.out]
      exact HROW.out

set_option maxHeartbeats 4000000 in
theorem chosenAll (pr : VerL → Bool) (a : Option Addr) (l : List PV) (c : Nat) (w : World) (hs : SlW w a l) (hn : l.length ≤ 5120) (hok : ∀ x ∈ l, x.v.r.fs.length ≤ 6 ∧ x.v.r.rs.length ≤ 4)
    (hf : ∀ W x, Below w.heap.size w W → x ∈ l → Calls Tryz.prog 135 #[x.val] W fun e w' => e = .returned (.bool (pr x.v)) ∧ Below W.heap.size W w') :
    Calls Tryz.prog 94 #[.slice a l.length c, .func (.func 135) #[] #[]] w (ChosenTo ((l.map (·.v)).filter pr) w) := by
  obtain ⟨i0, hi, hz0, hz1, hz2⟩ := info_parts Tryz.infoVer
  have HS := Lib.hid hs
  have HF := Lib.hid hf
  have HOK := Lib.hid hok
  obtain ⟨n, hN⟩ : ∃ n, n = l.length := ⟨_, rfl⟩
  have HN := Lib.hid hN
  rw [← hN] at hn ⊢
  clear hs hf hok hN
  go_enter Tryz.func94, Tryz.ntmps94
  go_wp2_with fail
  go_loopw [5, 10] (fun v i wr => ∃ (k : Nat) (q : List PV), k ≤ n ∧ i = .int .i64 k ∧ q.length ≤ k ∧ Hid (q.map (·.v) = ((l.map (·.v)).take k).filter pr) ∧ RowV w.heap.size wr v q ∧ Hid (AllNew w.heap.size wr q) ∧ Below w.heap.size w wr) (fun _ i _ => n - (intOf i).toNat)
  case atStart => exact ⟨0, [], Nat.zero_le _, rfl, Nat.le_refl _, rfl, RowV.nil _ _, AllNew.nil _ _, Below.refl _ _⟩
  case round =>
    obtain ⟨k, q, hk, rfl, hqk, HQ, hrow, HA, hB⟩ := hrel
    by_cases hlt : k < n
    · obtain ⟨x, hx⟩ : ∃ x, l[k]? = some x := ⟨_, List.getElem?_eq_getElem (by rw [← HN.out]; exact hlt)⟩
      have hv : (l.map (·.v))[k]? = some x.v := by rw [List.getElem?_map, hx]; rfl
      obtain ⟨hin, b, off, rfl, d0, d1, d2, d3, d4⟩ := (HS.out.below hB) k x hx
      have hxm := List.mem_of_getElem? hx
      obtain ⟨n6, n4⟩ := HOK.out x hxm
      have i1 : (0 : Int) ≤ (k : Int) := by omega
      have i2 : (k : Int) < (n : Int) := by omega
      have HV := Lib.hid hv
      have HIN := Lib.hid hin
      have hbx : Below w.heap.size w (x.box wr) := hB.trans ((x.box_below wr).mono hB.size)
      have hcall := HF.out (x.box wr) x hbx hxm
      obtain ⟨A, cp, rfl⟩ := hrow.form
      have HROW := Lib.hid hrow
      clear hx hv hin hxm hrow
      cases hp : pr x.v with
      | true =>
        rw [hp] at hcall
        have HC := Lib.hid hcall
        have HP := Lib.hid hp
        clear hcall hp
        go_wp2_with fail
        refine HC.out.mono ?_
        rintro e w1 ⟨rfl, hb1⟩
        have hsz1 : wr.heap.size < w1.heap.size := by have := hb1.size; simp at this; omega
        obtain ⟨hc1, hf1⟩ := bcell hb1
        have a0 : w1.cell? ⟨wr.heap.size, 0, none⟩ = some (.string x.v.r.id) := by rw [hc1 _ _ (by simp)]; simp [go_sem]
        have a1 : w1.cell? ⟨wr.heap.size, 1, none⟩ = some (.int .i64 x.v.r.cats) := by rw [hc1 _ _ (by simp)]; simp [go_sem]
        have a2 : w1.cell? ⟨wr.heap.size, 2, none⟩ = some (.slice x.p.fa x.v.r.fs.length x.p.fc) := by rw [hc1 _ _ (by simp)]; simp [go_sem]
        have a3 : w1.cell? ⟨wr.heap.size, 3, none⟩ = some (.slice x.p.ra x.v.r.rs.length x.p.rc) := by rw [hc1 _ _ (by simp)]; simp [go_sem]
        have a4 : w1.cell? ⟨wr.heap.size, 4, none⟩ = some (.bool x.v.gone) := by rw [hc1 _ _ (by simp)]; simp [go_sem]
        have hB1 : Below w.heap.size w w1 := hbx.trans (hb1.mono hbx.size)
        have hwr1 : Below wr.heap.size wr w1 := (x.box_below wr).trans (hb1.mono (by simp))
        clear hb1 hc1 hf1 d0 d1 d2 d3 d4 hbx
        go_wp2_with fail
        refine (copy_any x _ (HIN.out.below hwr1) n6 n4).mono ?_
        rintro e w2 ⟨p', rfl, hnew, hb2⟩
        have hB2 : Below w.heap.size w w2 := hB1.trans (hb2.mono hB1.size)
        have hwr2 : Below wr.heap.size wr w2 := hwr1.trans (hb2.mono hwr1.size)
        obtain ⟨y, hy⟩ : ∃ y : PV, y = ⟨x.v, p'⟩ := ⟨_, rfl⟩
        have hyv : y.v = x.v := by rw [hy]
        have hba : Below w2.heap.size w2 (y.box w2) := y.box_below w2
        have hrow2 : RowV w.heap.size (y.box w2) (.slice A q.length cp) q := (HROW.out.below hwr2).below hba
        have hall2 : AllNew w.heap.size (y.box w2) (q ++ [y]) := ((HA.out.below hwr2).below hba).append (AllNew.one ((show NewRec _ _ y.v.r y.p by rw [hy]; exact hnew.low hB1.size).below hba))
        have hbB := hB2.alloc hB2.size (.cells #[.string y.v.r.id, .int .i64 y.v.r.cats, .slice y.p.fa y.v.r.fs.length y.p.fc, .slice y.p.ra y.v.r.rs.length y.p.rc, .bool y.v.gone] 55)
        have hnews := cell_five_new w2 y 55
        have hsz2 : w.heap.size ≤ (y.box w2).heap.size := hbB.size
        have HALL := Lib.hid hall2
        have HNE := Lib.hid hnews
        have HYV := Lib.hid hyv
        have HBB := Lib.hid hbB
        have HR2 := Lib.hid hrow2
        subst hy
        clear hwr1 hwr2 hb2 hnew hrow2 hall2 hnews hyv hbB hba hB2 hB1 a0 a1 a2 a3 a4
        go_wp2_with (at_builtin; refine wpList_append_own _ rfl _ _ 45 rfl w.heap.size 55 i0 _ 5 80 Tryz.underlying45 hi hz0 hz1 hz2 rfl (by decide) (.slice A q.length cp) q.length (cellsV q) rfl HR2.out ⟨w2.heap.size, 0, none⟩ 1 1 (cellsV [(⟨x.v, p'⟩ : PV)]) rfl rfl HNE.out (cellsV_one _) (by unfold maxLen; omega) (by omega) hsz2 ?_; intro v' w3 hown' hgrow hnv)
        have hr3 : RowV w.heap.size w3 v' (q ++ [(⟨x.v, p'⟩ : PV)]) := by
          unfold RowV
          rw [cellsV_append, List.length_append]
          exact hown'
        have ha3 := HALL.out.grown HR2.out hgrow
        have hB3 : Below w.heap.size w w3 := HBB.out.grown hgrow HBB.out.size (fun j hj => ((World.ownsRow.lt HR2.out) j (show (Value.slice A q.length cp).ownBlock = some j from hj)).1)
        have HR3 := Lib.hid hr3
        have HA3 := Lib.hid ha3
        clear hown' hgrow hnv ha3 HALL HBB HNE HR2 hr3
        go_wp2_with fail
        go_roundw
        case rel =>
          refine ⟨k + 1, q ++ [(⟨x.v, p'⟩ : PV)], by omega, by go_num, by simp; omega, ?_, HR3.out, HA3.out, hB3⟩
          show (q ++ [(⟨x.v, p'⟩ : PV)]).map (·.v) = _
          rw [List.map_append, HQ.out, filter_take_hit HV.out HP.out]
          rfl
        case measure => simp [intOf]; omega
      | false =>
        rw [hp] at hcall
        have HC := Lib.hid hcall
        have HP := Lib.hid hp
        clear hcall hp
        go_wp2_with fail
        refine HC.out.mono ?_
        rintro e w1 ⟨rfl, hb1⟩
        have hB1 : Below w.heap.size w w1 := hbx.trans (hb1.mono hbx.size)
        have hwr1 : Below wr.heap.size wr w1 := (x.box_below wr).trans (hb1.mono (by simp))
        clear hb1
        go_wp2_with fail
        go_roundw
        case rel =>
          refine ⟨k + 1, q, by omega, by go_num, by omega, ?_, HROW.out.below hwr1, HA.out.below hwr1, hB1⟩
          show q.map (·.v) = _
          rw [HQ.out, filter_take_miss HV.out HP.out]
        case measure => simp [intOf]; omega
    · obtain rfl : k = n := by omega
      obtain ⟨A, cp, rfl⟩ := hrow.form
      have hq : q.map (·.v) = (l.map (·.v)).filter pr := by
        have := HQ.out
        rwa [List.take_of_length_le (by rw [List.length_map, ← HN.out]; exact Nat.le_refl _)] at this
      have hql : q.length = ((l.map (·.v)).filter pr).length := by rw [← hq, List.length_map]
      have HROW := Lib.hid hrow
      have HQQ := Lib.hid hq
      have HQL := Lib.hid hql
      clear hq hql hrow
      go_wp2_with fail
      go_ret
      refine ⟨A, cp, (by rw [← HQL.out]; rfl), ⟨q, HQQ.out, ?_, HA.out⟩, hB⟩
      rw [← HQL.out]
      exact HROW.out
end Go.Proofs.YteimdhkajbldjaaGreat
