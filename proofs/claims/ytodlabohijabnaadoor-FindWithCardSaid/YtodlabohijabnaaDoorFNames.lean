/- slices.Contains at fields; the names that find.names picks. -/
import Derived.Test.YtodlabohijabnaaDoorRNe
import Derived.Test.YtodlabohijabnaaDoorLNamed
import Derived.Test.YtodlabohijabnaaDoorSStrs
set_option linter.unusedVariables false
set_option linter.unusedSimpArgs false
set_option maxRecDepth 100000
namespace Go.Proofs.YtodlabohijabnaaDoor
open Go.RowKit Go.Sort

set_option maxHeartbeats 1000000 in
set_option maxRecDepth 100000 in
theorem indexF_no (a : Option Addr) (fs : List FieldL) (c : Nat) (f : FieldL) (w : World) (hs : SlF w a fs) (hm : fs.length ≤ maxLen) (h : f ∉ fs) :
    Calls Tryd.prog 66 #[.slice a fs.length c, f.v] w fun e w' => e = .returned (.int .i64 (-1)) ∧ Below w.heap.size w w' := by
  unfold maxLen at hm
  have H := Lib.hid h
  obtain ⟨n, hn⟩ : ∃ n, n = fs.length := ⟨_, rfl⟩
  have HN := Lib.hid hn
  rw [← hn] at hm ⊢
  have hA : Below w.heap.size w (w.alloc (.cells #[.string f.key, .string f.val] 24)) := (Below.refl _ _).alloc (Nat.le_refl _) _
  have HS := Lib.hid hs
  clear hn h hs
  go_enter Tryd.func66, Tryd.ntmps66
  go_wp2_with fail
  go_loopw [8] (fun i wr => ∃ k : Nat, k ≤ n ∧ i = .int .i64 k ∧ Below w.heap.size w wr ∧ wr.cell? ⟨w.heap.size, 0, none⟩ = some (.string f.key) ∧ wr.cell? ⟨w.heap.size, 1, none⟩ = some (.string f.val)) (fun i _ => n - (intOf i).toNat)
  case atStart => exact ⟨0, Nat.zero_le _, rfl, hA, by simp [go_sem], by simp [go_sem]⟩
  case round =>
    obtain ⟨k, hk, rfl, hB, q0, q1⟩ := hrel
    by_cases hlt : k < n
    · obtain ⟨g, hg⟩ : ∃ g, fs[k]? = some g := ⟨_, List.getElem?_eq_getElem (by rw [← HN.out]; exact hlt)⟩
      obtain ⟨b, off, rfl, h1, h2⟩ := HS.out k g hg
      have c1 : wr.cell? ⟨b, off + k * 2, none⟩ = some (.string g.key) := (hB.cell (p := ⟨b, off + k * 2, none⟩) (cell_lt h1)).trans h1
      have c2 : wr.cell? ⟨b, off + k * 2 + 1, none⟩ = some (.string g.val) := (hB.cell (p := ⟨b, off + k * 2 + 1, none⟩) (cell_lt h2)).trans h2
      have hne := ne_field (f := f) (g := g) (fun e => H.out (by rw [e]; exact List.mem_of_getElem? hg))
      have j1 : (0 : Int) ≤ (k : Int) := by omega
      have j2 : (k : Int) < (n : Int) := by omega
      clear h1 h2 hg
      rcases hne with l1 | ⟨l1, l2⟩
      all_goals
        go_wp2_with fail
        go_quiet (fail)
        go_wp2_with fail
        go_roundw
        case rel => exact ⟨k + 1, by omega, by go_num, hB.trans ((drewn_below wr _).mono hB.size), q0, q1⟩
        case measure => simp [intOf]; omega
    · go_wp2_with fail
      go_ret
      exact ⟨rfl, hB⟩

def SomeIdxF (w : World) (e : Ending) (w' : World) : Prop := ∃ n : Nat, e = .returned (.int .i64 n) ∧ Below w.heap.size w w'

set_option maxHeartbeats 1000000 in
set_option maxRecDepth 100000 in
theorem indexF_yes (a : Option Addr) (fs : List FieldL) (c : Nat) (f : FieldL) (w : World) (hs : SlF w a fs) (hm : fs.length ≤ maxLen) (h : f ∈ fs) :
    Calls Tryd.prog 66 #[.slice a fs.length c, f.v] w (SomeIdxF w) := by
  unfold maxLen at hm
  have H := Lib.hid h
  obtain ⟨n, hn⟩ : ∃ n, n = fs.length := ⟨_, rfl⟩
  have HN := Lib.hid hn
  rw [← hn] at hm ⊢
  have hA : Below w.heap.size w (w.alloc (.cells #[.string f.key, .string f.val] 24)) := (Below.refl _ _).alloc (Nat.le_refl _) _
  have HS := Lib.hid hs
  clear hn h hs
  go_enter Tryd.func66, Tryd.ntmps66
  go_wp2_with fail
  go_loopw [8] (fun i wr => ∃ k : Nat, k ≤ n ∧ i = .int .i64 k ∧ Below w.heap.size w wr ∧ wr.cell? ⟨w.heap.size, 0, none⟩ = some (.string f.key) ∧ wr.cell? ⟨w.heap.size, 1, none⟩ = some (.string f.val) ∧ Hid (f ∉ fs.take k)) (fun i _ => n - (intOf i).toNat)
  case atStart => exact ⟨0, Nat.zero_le _, rfl, hA, by simp [go_sem], by simp [go_sem], by show f ∉ _; simp⟩
  case round =>
    obtain ⟨k, hk, rfl, hB, q0, q1, HK⟩ := hrel
    by_cases hlt : k < n
    · obtain ⟨g, hg⟩ : ∃ g, fs[k]? = some g := ⟨_, List.getElem?_eq_getElem (by rw [← HN.out]; exact hlt)⟩
      obtain ⟨b, off, rfl, h1, h2⟩ := HS.out k g hg
      have c1 : wr.cell? ⟨b, off + k * 2, none⟩ = some (.string g.key) := (hB.cell (p := ⟨b, off + k * 2, none⟩) (cell_lt h1)).trans h1
      have c2 : wr.cell? ⟨b, off + k * 2 + 1, none⟩ = some (.string g.val) := (hB.cell (p := ⟨b, off + k * 2 + 1, none⟩) (cell_lt h2)).trans h2
      have HG := Lib.hid hg
      have j1 : (0 : Int) ≤ (k : Int) := by omega
      have j2 : (k : Int) < (n : Int) := by omega
      clear h1 h2 hg
      by_cases he : f = g
      · subst he
        obtain ⟨l1, l2⟩ := eq_field f
        go_wp2_with fail
        go_quiet (fail)
        go_wp2_with fail
        go_ret
        exact ⟨k, rfl, hB.trans ((drewn_below wr _).mono hB.size)⟩
      · have HE := Lib.hid he
        rcases ne_field he with l1 | ⟨l1, l2⟩
        all_goals
          clear he
          go_wp2_with fail
          go_quiet (fail)
          go_wp2_with fail
          go_roundw
          case rel =>
            refine ⟨k + 1, by omega, by go_num, hB.trans ((drewn_below wr _).mono hB.size), q0, q1, ?_⟩
            show f ∉ _
            rw [List.take_add_one, HG.out]
            intro hm
            rcases List.mem_append.1 hm with hm | hm
            · exact HK.out hm
            · exact HE.out (by simpa using hm)
          case measure => simp [intOf]; omega
    · exfalso
      exact HK.out (by rw [List.take_of_length_le (by have := HN.out; omega)]; exact H.out)

set_option maxHeartbeats 1000000 in
theorem containsF_any (a : Option Addr) (fs : List FieldL) (c : Nat) (f : FieldL) (w : World) (hs : SlF w a fs) (hm : fs.length ≤ maxLen) :
    Calls Tryd.prog 31 #[.slice a fs.length c, f.v] w fun e w' => e = .returned (.bool (decide (f ∈ fs))) ∧ Below w.heap.size w w' := by
  have hA : Below w.heap.size w (w.alloc (.cells #[.string f.key, .string f.val] 24)) := (Below.refl _ _).alloc (Nat.le_refl _) _
  have HS := Lib.hid hs
  have HM := Lib.hid hm
  clear hs hm
  by_cases h : f ∈ fs
  · have e : decide (f ∈ fs) = true := by simpa using h
    rw [e]
    clear e
    have H := Lib.hid h
    clear h
    go_enter Tryd.func31, Tryd.ntmps31
    go_wp2_with fail
    refine (indexF_yes a fs c f _ (HS.out.below hA) HM.out H.out).mono ?_
    rintro e w1 ⟨m, rfl, hb1⟩
    have hB1 : Below w.heap.size w w1 := hA.trans (hb1.mono (by simp))
    have hm0 : (0 : Int) ≤ (m : Int) := by omega
    go_wp2_with fail
    go_ret
    exact ⟨by simp, hB1⟩
  · have e : decide (f ∈ fs) = false := by simpa using h
    rw [e]
    clear e
    have H := Lib.hid h
    clear h
    go_enter Tryd.func31, Tryd.ntmps31
    go_wp2_with fail
    refine (indexF_no a fs c f _ (HS.out.below hA) HM.out H.out).mono ?_
    rintro e w1 ⟨rfl, hb1⟩
    have hB1 : Below w.heap.size w w1 := hA.trans (hb1.mono (by simp))
    go_wp2_with fail
    go_ret
    exact ⟨rfl, hB1⟩
theorem containsF_is {b : Bool} (a : Option Addr) (fs : List FieldL) (c : Nat) (f : FieldL) (w : World) (hs : SlF w a fs) (hm : fs.length ≤ maxLen) (h : decide (f ∈ fs) = b) :
    Calls Tryd.prog 31 #[.slice a fs.length c, f.v] w fun e w' => e = .returned (.bool b) ∧ Below w.heap.size w w' := h ▸ containsF_any a fs c f w hs hm
end Go.Proofs.YtodlabohijabnaaDoor

namespace Go.Proofs.YtodlabohijabnaaDoor
open Go.RowKit Go.Sort Go.Maps

def NamesTo (ids : List ByteArray) (w : World) (e : Ending) (w' : World) : Prop := ∃ A c, e = .returned (.slice A ids.length c) ∧ OwnS w.heap.size w' (.slice A ids.length c) ids ∧ Below w.heap.size w w'
abbrev rcBox (x : RC) (w : World) : World := w.alloc (.cells #[.string x.r.id, .int .i64 x.r.cats, .slice x.p.fa x.r.fs.length x.p.fc, .slice x.p.ra x.r.rs.length x.p.rc] 32)
theorem rcBox_below (x : RC) (w : World) : Below w.heap.size w (rcBox x w) := (Below.refl _ _).alloc (Nat.le_refl _) _
theorem take_hit {α : Type} {p : α → Bool} {l : List α} {k : Nat} {x : α} (h : l[k]? = some x) (hp : p x = true) : (l.take (k + 1)).filter p = (l.take k).filter p ++ [x] := by
  rw [take_snoc h, List.filter_append, List.filter_cons_of_pos hp, List.filter_nil]
theorem take_miss {α : Type} {p : α → Bool} {l : List α} {k : Nat} {x : α} (h : l[k]? = some x) (hp : p x = false) : (l.take (k + 1)).filter p = (l.take k).filter p := by
  rw [take_snoc h, List.filter_append, List.filter_cons_of_neg (by simp [hp]), List.filter_nil, List.append_nil]
theorem cell_one_at (w : World) (s : ByteArray) (t : TypeId) : ∀ j u, [Value.string s][j]? = some u → (w.alloc (.cells #[.string s] t)).cell? ((⟨w.heap.size, 0, none⟩ : Addr).add j) = some u := fun j u hu => by
  rw [addr_at]
  match j, hu with
  | 0, hu => cases hu; simp [go_sem]
  | j + 1, hu => simp at hu

set_option maxHeartbeats 4000000 in
theorem namesBy (b0 : Nat) (pr : RecL → Bool) (a : Option Addr) (l : List RC) (c : Nat) (w : World) (hs : SlRc w a l) (hn : l.length ≤ 5120)
    (hf : ∀ (W : World) (x : RC), Below w.heap.size w W → x ∈ l → Calls Tryd.prog 46 #[x.r.v x.p, .pointer (some ⟨b0, 0, none⟩)] W fun e w' => e = .returned (.bool (pr x.r)) ∧ Below W.heap.size W w') :
    Calls Tryd.prog 47 #[.slice a l.length c, .func (.func 46) #[] #[.pointer (some ⟨b0, 0, none⟩)]] w (NamesTo (((l.map (·.r)).filter pr).map (·.id)) w) := by
  obtain ⟨i0, hi, hz0, hz1, hz2⟩ := info_parts Tryd.infoStr
  have HS := Lib.hid hs
  have HF := Lib.hid hf
  obtain ⟨n, hN⟩ : ∃ n, n = l.length := ⟨_, rfl⟩
  have HN := Lib.hid hN
  rw [← hN] at hn ⊢
  clear hs hf hN
  go_enter Tryd.func47, Tryd.ntmps47
  go_wp2_with fail
  go_loopw [5, 10] (fun v i wr => ∃ (k : Nat) (q : List ByteArray), k ≤ n ∧ i = .int .i64 k ∧ q.length ≤ k ∧ Hid (q = (((l.map (·.r)).take k).filter pr).map (·.id)) ∧ OwnS w.heap.size wr v q ∧ Below w.heap.size w wr) (fun _ i _ => n - (intOf i).toNat)
  case atStart => exact ⟨0, [], Nat.zero_le _, rfl, Nat.le_refl _, rfl, World.ownsRow_nil _ _ _ _, Below.refl _ _⟩
  case round =>
    obtain ⟨k, q, hk, rfl, hqk, HQ, hrow, hB⟩ := hrel
    by_cases hlt : k < n
    · obtain ⟨x, hx⟩ : ∃ x, l[k]? = some x := ⟨_, List.getElem?_eq_getElem (by rw [← HN.out]; exact hlt)⟩
      have hv : (l.map (·.r))[k]? = some x.r := by rw [List.getElem?_map, hx]; rfl
      obtain ⟨hin, b, off, rfl, d0, d1, d2, d3⟩ := (HS.out.below hB) k x hx
      have hxm := List.mem_of_getElem? hx
      have i1 : (0 : Int) ≤ (k : Int) := by omega
      have i2 : (k : Int) < (n : Int) := by omega
      have HV := Lib.hid hv
      have hbx : Below w.heap.size w (rcBox x wr) := hB.trans ((rcBox_below x wr).mono hB.size)
      have hcall := HF.out (rcBox x wr) x hbx hxm
      obtain ⟨A, cp, rfl⟩ := hrow.form
      have HROW := Lib.hid hrow
      clear hx hv hin hxm hrow
      cases hp : pr x.r with
      | true =>
        rw [hp] at hcall
        have HC := Lib.hid hcall
        have HP := Lib.hid hp
        clear hcall hp
        go_wp2_with fail
        refine HC.out.mono ?_
        rintro e w1 ⟨rfl, hb1⟩
        have hsz1 : wr.heap.size < w1.heap.size := by have := hb1.size; simp at this; omega
        obtain ⟨hc1, hf1⟩ := bcell hb1
        have a0 : w1.cell? ⟨wr.heap.size, 0, none⟩ = some (.string x.r.id) := by rw [hc1 _ _ (by simp)]; simp [go_sem]
        have hB1 : Below w.heap.size w w1 := hbx.trans (hb1.mono hbx.size)
        have hwr1 : Below wr.heap.size wr w1 := (rcBox_below x wr).trans (hb1.mono (by simp))
        have hbB := hB1.alloc hB1.size (.cells #[.string x.r.id] 9)
        have HR1 := Lib.hid (show (w1.alloc (.cells #[.string x.r.id] 9)).ownsRow w.heap.size 9 1 (.slice A q.length cp) q.length (cellsS q) from ((HROW.out.below hwr1).below ((Below.refl _ _).alloc (Nat.le_refl _) _)))
        have HNE := Lib.hid (cell_one_at w1 x.r.id 9)
        have hsz2 : w.heap.size ≤ (w1.alloc (.cells #[.string x.r.id] 9)).heap.size := hbB.size
        have HBB := Lib.hid hbB
        clear hb1 hc1 hf1 d0 d1 d2 d3 hbx hwr1 hbB hB1
        go_wp2_with (at_builtin; refine wpList_append_own _ rfl _ _ 25 rfl w.heap.size 9 i0 _ 1 16 Tryd.underlying25 hi hz0 hz1 hz2 rfl (by decide) (.slice A q.length cp) q.length (cellsS q) rfl HR1.out ⟨w1.heap.size, 0, none⟩ 1 1 [.string x.r.id] rfl rfl HNE.out (by simp [Value.oneCell']) (by unfold maxLen; omega) (by omega) hsz2 ?_; intro v' w3 hown' hgrow hnv)
        have hr3 : OwnS w.heap.size w3 v' (q ++ [x.r.id]) := by
          unfold OwnS cellsS
          rw [List.map_append, List.length_append]
          exact hown'
        have hB3 : Below w.heap.size w w3 := HBB.out.grown hgrow HBB.out.size (fun j hj => ((World.ownsRow.lt HR1.out) j (show (Value.slice A q.length cp).ownBlock = some j from hj)).1)
        have HR3 := Lib.hid hr3
        clear hown' hgrow hnv HBB HNE HR1 hr3 a0
        go_wp2_with fail
        go_roundw
        case rel =>
          refine ⟨k + 1, q ++ [x.r.id], by omega, by go_num, by simp; omega, ?_, HR3.out, hB3⟩
          show q ++ [x.r.id] = _
          rw [take_hit HV.out HP.out, List.map_append, HQ.out]
          rfl
        case measure => simp [intOf]; omega
      | false =>
        rw [hp] at hcall
        have HC := Lib.hid hcall
        have HP := Lib.hid hp
        clear hcall hp
        go_wp2_with fail
        refine HC.out.mono ?_
        rintro e w1 ⟨rfl, hb1⟩
        have hB1 : Below w.heap.size w w1 := hbx.trans (hb1.mono hbx.size)
        have hwr1 : Below wr.heap.size wr w1 := (rcBox_below x wr).trans (hb1.mono (by simp))
        clear hb1
        go_wp2_with fail
        go_roundw
        case rel =>
          refine ⟨k + 1, q, by omega, by go_num, by omega, ?_, HROW.out.below hwr1, hB1⟩
          show q = _
          rw [take_miss HV.out HP.out, HQ.out]
        case measure => simp [intOf]; omega
    · obtain rfl : k = n := by omega
      obtain ⟨A, cp, rfl⟩ := hrow.form
      have hq : q = ((l.map (·.r)).filter pr).map (·.id) := by
        have := HQ.out
        rwa [List.take_of_length_le (by rw [List.length_map, ← HN.out]; exact Nat.le_refl _)] at this
      have HROW := Lib.hid hrow
      have HQQ := Lib.hid hq
      clear hq hrow
      go_wp2_with fail
      go_ret
      rw [← HQQ.out]
      exact ⟨A, cp, rfl, HROW.out, hB⟩

set_option maxHeartbeats 4000000 in
theorem namesWith (b0 : Nat) (pr : RecL → Bool) (a : Option Addr) (l : List RC) (c : Nat) (w : World) (hs : SlRc w a l) (hn : l.length ≤ 5120)
    (hf : ∀ (W : World) (x : RC), Below w.heap.size w W → x ∈ l → Calls Tryd.prog 48 #[x.r.v x.p, .pointer (some ⟨b0, 0, none⟩)] W fun e w' => e = .returned (.bool (pr x.r)) ∧ Below W.heap.size W w') :
    Calls Tryd.prog 47 #[.slice a l.length c, .func (.func 48) #[] #[.pointer (some ⟨b0, 0, none⟩)]] w (NamesTo (((l.map (·.r)).filter pr).map (·.id)) w) := by
  obtain ⟨i0, hi, hz0, hz1, hz2⟩ := info_parts Tryd.infoStr
  have HS := Lib.hid hs
  have HF := Lib.hid hf
  obtain ⟨n, hN⟩ : ∃ n, n = l.length := ⟨_, rfl⟩
  have HN := Lib.hid hN
  rw [← hN] at hn ⊢
  clear hs hf hN
  go_enter Tryd.func47, Tryd.ntmps47
  go_wp2_with fail
  go_loopw [5, 10] (fun v i wr => ∃ (k : Nat) (q : List ByteArray), k ≤ n ∧ i = .int .i64 k ∧ q.length ≤ k ∧ Hid (q = (((l.map (·.r)).take k).filter pr).map (·.id)) ∧ OwnS w.heap.size wr v q ∧ Below w.heap.size w wr) (fun _ i _ => n - (intOf i).toNat)
  case atStart => exact ⟨0, [], Nat.zero_le _, rfl, Nat.le_refl _, rfl, World.ownsRow_nil _ _ _ _, Below.refl _ _⟩
  case round =>
    obtain ⟨k, q, hk, rfl, hqk, HQ, hrow, hB⟩ := hrel
    by_cases hlt : k < n
    · obtain ⟨x, hx⟩ : ∃ x, l[k]? = some x := ⟨_, List.getElem?_eq_getElem (by rw [← HN.out]; exact hlt)⟩
      have hv : (l.map (·.r))[k]? = some x.r := by rw [List.getElem?_map, hx]; rfl
      obtain ⟨hin, b, off, rfl, d0, d1, d2, d3⟩ := (HS.out.below hB) k x hx
      have hxm := List.mem_of_getElem? hx
      have i1 : (0 : Int) ≤ (k : Int) := by omega
      have i2 : (k : Int) < (n : Int) := by omega
      have HV := Lib.hid hv
      have hbx : Below w.heap.size w (rcBox x wr) := hB.trans ((rcBox_below x wr).mono hB.size)
      have hcall := HF.out (rcBox x wr) x hbx hxm
      obtain ⟨A, cp, rfl⟩ := hrow.form
      have HROW := Lib.hid hrow
      clear hx hv hin hxm hrow
      cases hp : pr x.r with
      | true =>
        rw [hp] at hcall
        have HC := Lib.hid hcall
        have HP := Lib.hid hp
        clear hcall hp
        go_wp2_with fail
        refine HC.out.mono ?_
        rintro e w1 ⟨rfl, hb1⟩
        have hsz1 : wr.heap.size < w1.heap.size := by have := hb1.size; simp at this; omega
        obtain ⟨hc1, hf1⟩ := bcell hb1
        have a0 : w1.cell? ⟨wr.heap.size, 0, none⟩ = some (.string x.r.id) := by rw [hc1 _ _ (by simp)]; simp [go_sem]
        have hB1 : Below w.heap.size w w1 := hbx.trans (hb1.mono hbx.size)
        have hwr1 : Below wr.heap.size wr w1 := (rcBox_below x wr).trans (hb1.mono (by simp))
        have hbB := hB1.alloc hB1.size (.cells #[.string x.r.id] 9)
        have HR1 := Lib.hid (show (w1.alloc (.cells #[.string x.r.id] 9)).ownsRow w.heap.size 9 1 (.slice A q.length cp) q.length (cellsS q) from ((HROW.out.below hwr1).below ((Below.refl _ _).alloc (Nat.le_refl _) _)))
        have HNE := Lib.hid (cell_one_at w1 x.r.id 9)
        have hsz2 : w.heap.size ≤ (w1.alloc (.cells #[.string x.r.id] 9)).heap.size := hbB.size
        have HBB := Lib.hid hbB
        clear hb1 hc1 hf1 d0 d1 d2 d3 hbx hwr1 hbB hB1
        go_wp2_with (at_builtin; refine wpList_append_own _ rfl _ _ 25 rfl w.heap.size 9 i0 _ 1 16 Tryd.underlying25 hi hz0 hz1 hz2 rfl (by decide) (.slice A q.length cp) q.length (cellsS q) rfl HR1.out ⟨w1.heap.size, 0, none⟩ 1 1 [.string x.r.id] rfl rfl HNE.out (by simp [Value.oneCell']) (by unfold maxLen; omega) (by omega) hsz2 ?_; intro v' w3 hown' hgrow hnv)
        have hr3 : OwnS w.heap.size w3 v' (q ++ [x.r.id]) := by
          unfold OwnS cellsS
          rw [List.map_append, List.length_append]
          exact hown'
        have hB3 : Below w.heap.size w w3 := HBB.out.grown hgrow HBB.out.size (fun j hj => ((World.ownsRow.lt HR1.out) j (show (Value.slice A q.length cp).ownBlock = some j from hj)).1)
        have HR3 := Lib.hid hr3
        clear hown' hgrow hnv HBB HNE HR1 hr3 a0
        go_wp2_with fail
        go_roundw
        case rel =>
          refine ⟨k + 1, q ++ [x.r.id], by omega, by go_num, by simp; omega, ?_, HR3.out, hB3⟩
          show q ++ [x.r.id] = _
          rw [take_hit HV.out HP.out, List.map_append, HQ.out]
          rfl
        case measure => simp [intOf]; omega
      | false =>
        rw [hp] at hcall
        have HC := Lib.hid hcall
        have HP := Lib.hid hp
        clear hcall hp
        go_wp2_with fail
        refine HC.out.mono ?_
        rintro e w1 ⟨rfl, hb1⟩
        have hB1 : Below w.heap.size w w1 := hbx.trans (hb1.mono hbx.size)
        have hwr1 : Below wr.heap.size wr w1 := (rcBox_below x wr).trans (hb1.mono (by simp))
        clear hb1
        go_wp2_with fail
        go_roundw
        case rel =>
          refine ⟨k + 1, q, by omega, by go_num, by omega, ?_, HROW.out.below hwr1, hB1⟩
          show q = _
          rw [take_miss HV.out HP.out, HQ.out]
        case measure => simp [intOf]; omega
    · obtain rfl : k = n := by omega
      obtain ⟨A, cp, rfl⟩ := hrow.form
      have hq : q = ((l.map (·.r)).filter pr).map (·.id) := by
        have := HQ.out
        rwa [List.take_of_length_le (by rw [List.length_map, ← HN.out]; exact Nat.le_refl _)] at this
      have HROW := Lib.hid hrow
      have HQQ := Lib.hid hq
      clear hq hrow
      go_wp2_with fail
      go_ret
      rw [← HQQ.out]
      exact ⟨A, cp, rfl, HROW.out, hB⟩
end Go.Proofs.YtodlabohijabnaaDoor
