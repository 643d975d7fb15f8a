/- find's functions: slices.Contains at fields, names, By, With; small stores written out. -/
import Derived.Test.YteimdhkajbldjaaGreatRNe
import Derived.Test.YteimdhkajbldjaaGreatLNamed
import Derived.Test.YteimdhkajbldjaaGreatSStrs
import Derived.Test.YteimdhkajbldjaaGreatLRecs
import Derived.Test.YteimdhkajbldjaaGreatREq
import Derived.Test.YteimdhkajbldjaaGreatSGrid
set_option linter.unusedVariables false
set_option linter.unusedSimpArgs false
set_option maxRecDepth 100000
namespace Go.Proofs.YteimdhkajbldjaaGreat
open Go.RowKit Go.Sort

set_option maxHeartbeats 1000000 in
set_option maxRecDepth 100000 in
theorem indexF_no (a : Option Addr) (fs : List FieldL) (c : Nat) (f : FieldL) (w : World) (hs : SlF w a fs) (hm : fs.length ≤ maxLen) (h : f ∉ fs) :
    Calls Tryz.prog 117 #[.slice a fs.length c, f.v] w fun e w' => e = .returned (.int .i64 (-1)) ∧ Below w.heap.size w w' := by
  unfold maxLen at hm
  have H := Lib.hid h
  obtain ⟨n, hn⟩ : ∃ n, n = fs.length := ⟨_, rfl⟩
  have HN := Lib.hid hn
  rw [← hn] at hm ⊢
  have hA : Below w.heap.size w (w.alloc (.cells #[.string f.key, .string f.val] 37)) := (Below.refl _ _).alloc (Nat.le_refl _) _
  have HS := Lib.hid hs
  clear hn h hs
  go_enter Tryz.func117, Tryz.ntmps117
  go_wp2_with fail
  go_loopw [8] (fun i wr => ∃ k : Nat, k ≤ n ∧ i = .int .i64 k ∧ Below w.heap.size w wr ∧ wr.cell? ⟨w.heap.size, 0, none⟩ = some (.string f.key) ∧ wr.cell? ⟨w.heap.size, 1, none⟩ = some (.string f.val)) (fun i _ => n - (intOf i).toNat)
  case atStart => exact ⟨0, Nat.zero_le _, rfl, hA, by simp [go_sem], by simp [go_sem]⟩
  case round =>
    obtain ⟨k, hk, rfl, hB, q0, q1⟩ := hrel
    by_cases hlt : k < n
    · obtain ⟨g, hg⟩ : ∃ g, fs[k]? = some g := ⟨_, List.getElem?_eq_getElem (by rw [← HN.out]; exact hlt)⟩
      obtain ⟨b, off, rfl, h1, h2⟩ := HS.out k g hg
      have c1 : wr.cell? ⟨b, off + k * 2, none⟩ = some (.string g.key) := (hB.cell (p := ⟨b, off + k * 2, none⟩) (cell_lt h1)).trans h1
      have c2 : wr.cell? ⟨b, off + k * 2 + 1, none⟩ = some (.string g.val) := (hB.cell (p := ⟨b, off + k * 2 + 1, none⟩) (cell_lt h2)).trans h2
      have hne := ne_field (f := f) (g := g) (fun e => H.out (by rw [e]; exact List.mem_of_getElem? hg))
      have j1 : (0 : Int) ≤ (k : Int) := by omega
      have j2 : (k : Int) < (n : Int) := by omega
      clear h1 h2 hg
      rcases hne with l1 | ⟨l1, l2⟩
      all_goals
        go_wp2_with fail
        go_quiet (fail)
        go_wp2_with fail
        go_roundw
        case rel => exact ⟨k + 1, by omega, by go_num, hB.trans ((drewn_below wr _).mono hB.size), q0, q1⟩
        case measure => simp [intOf]; omega
    · go_wp2_with fail
      go_ret
      exact ⟨rfl, hB⟩

def SomeIdxF (w : World) (e : Ending) (w' : World) : Prop := ∃ n : Nat, e = .returned (.int .i64 n) ∧ Below w.heap.size w w'

set_option maxHeartbeats 1000000 in
set_option maxRecDepth 100000 in
theorem indexF_yes (a : Option Addr) (fs : List FieldL) (c : Nat) (f : FieldL) (w : World) (hs : SlF w a fs) (hm : fs.length ≤ maxLen) (h : f ∈ fs) :
    Calls Tryz.prog 117 #[.slice a fs.length c, f.v] w (SomeIdxF w) := by
  unfold maxLen at hm
  have H := Lib.hid h
  obtain ⟨n, hn⟩ : ∃ n, n = fs.length := ⟨_, rfl⟩
  have HN := Lib.hid hn
  rw [← hn] at hm ⊢
  have hA : Below w.heap.size w (w.alloc (.cells #[.string f.key, .string f.val] 37)) := (Below.refl _ _).alloc (Nat.le_refl _) _
  have HS := Lib.hid hs
  clear hn h hs
  go_enter Tryz.func117, Tryz.ntmps117
  go_wp2_with fail
  go_loopw [8] (fun i wr => ∃ k : Nat, k ≤ n ∧ i = .int .i64 k ∧ Below w.heap.size w wr ∧ wr.cell? ⟨w.heap.size, 0, none⟩ = some (.string f.key) ∧ wr.cell? ⟨w.heap.size, 1, none⟩ = some (.string f.val) ∧ Hid (f ∉ fs.take k)) (fun i _ => n - (intOf i).toNat)
  case atStart => exact ⟨0, Nat.zero_le _, rfl, hA, by simp [go_sem], by simp [go_sem], by show f ∉ _; simp⟩
  case round =>
    obtain ⟨k, hk, rfl, hB, q0, q1, HK⟩ := hrel
    by_cases hlt : k < n
    · obtain ⟨g, hg⟩ : ∃ g, fs[k]? = some g := ⟨_, List.getElem?_eq_getElem (by rw [← HN.out]; exact hlt)⟩
      obtain ⟨b, off, rfl, h1, h2⟩ := HS.out k g hg
      have c1 : wr.cell? ⟨b, off + k * 2, none⟩ = some (.string g.key) := (hB.cell (p := ⟨b, off + k * 2, none⟩) (cell_lt h1)).trans h1
      have c2 : wr.cell? ⟨b, off + k * 2 + 1, none⟩ = some (.string g.val) := (hB.cell (p := ⟨b, off + k * 2 + 1, none⟩) (cell_lt h2)).trans h2
      have HG := Lib.hid hg
      have j1 : (0 : Int) ≤ (k : Int) := by omega
      have j2 : (k : Int) < (n : Int) := by omega
      clear h1 h2 hg
      by_cases he : f = g
      · subst he
        obtain ⟨l1, l2⟩ := eq_field f
        go_wp2_with fail
        go_quiet (fail)
        go_wp2_with fail
        go_ret
        exact ⟨k, rfl, hB.trans ((drewn_below wr _).mono hB.size)⟩
      · have HE := Lib.hid he
        rcases ne_field he with l1 | ⟨l1, l2⟩
        all_goals
          clear he
          go_wp2_with fail
          go_quiet (fail)
          go_wp2_with fail
          go_roundw
          case rel =>
            refine ⟨k + 1, by omega, by go_num, hB.trans ((drewn_below wr _).mono hB.size), q0, q1, ?_⟩
            show f ∉ _
            rw [List.take_add_one, HG.out]
            intro hm
            rcases List.mem_append.1 hm with hm | hm
            · exact HK.out hm
            · exact HE.out (by simpa using hm)
          case measure => simp [intOf]; omega
    · exfalso
      exact HK.out (by rw [List.take_of_length_le (by have := HN.out; omega)]; exact H.out)

set_option maxHeartbeats 1000000 in
theorem containsF_any (a : Option Addr) (fs : List FieldL) (c : Nat) (f : FieldL) (w : World) (hs : SlF w a fs) (hm : fs.length ≤ maxLen) :
    Calls Tryz.prog 78 #[.slice a fs.length c, f.v] w fun e w' => e = .returned (.bool (decide (f ∈ fs))) ∧ Below w.heap.size w w' := by
  have hA : Below w.heap.size w (w.alloc (.cells #[.string f.key, .string f.val] 37)) := (Below.refl _ _).alloc (Nat.le_refl _) _
  have HS := Lib.hid hs
  have HM := Lib.hid hm
  clear hs hm
  by_cases h : f ∈ fs
  · have e : decide (f ∈ fs) = true := by simpa using h
    rw [e]
    clear e
    have H := Lib.hid h
    clear h
    go_enter Tryz.func78, Tryz.ntmps78
    go_wp2_with fail
    refine (indexF_yes a fs c f _ (HS.out.below hA) HM.out H.out).mono ?_
    rintro e w1 ⟨m, rfl, hb1⟩
    have hB1 : Below w.heap.size w w1 := hA.trans (hb1.mono (by simp))
    have hm0 : (0 : Int) ≤ (m : Int) := by omega
    go_wp2_with fail
    go_ret
    exact ⟨by simp, hB1⟩
  · have e : decide (f ∈ fs) = false := by simpa using h
    rw [e]
    clear e
    have H := Lib.hid h
    clear h
    go_enter Tryz.func78, Tryz.ntmps78
    go_wp2_with fail
    refine (indexF_no a fs c f _ (HS.out.below hA) HM.out H.out).mono ?_
    rintro e w1 ⟨rfl, hb1⟩
    have hB1 : Below w.heap.size w w1 := hA.trans (hb1.mono (by simp))
    go_wp2_with fail
    go_ret
    exact ⟨rfl, hB1⟩
theorem containsF_is {b : Bool} (a : Option Addr) (fs : List FieldL) (c : Nat) (f : FieldL) (w : World) (hs : SlF w a fs) (hm : fs.length ≤ maxLen) (h : decide (f ∈ fs) = b) :
    Calls Tryz.prog 78 #[.slice a fs.length c, f.v] w fun e w' => e = .returned (.bool b) ∧ Below w.heap.size w w' := h ▸ containsF_any a fs c f w hs hm
end Go.Proofs.YteimdhkajbldjaaGreat

namespace Go.Proofs.YteimdhkajbldjaaGreat
open Go.RowKit Go.Sort Go.Maps

def NamesTo (ids : List ByteArray) (w : World) (e : Ending) (w' : World) : Prop := ∃ A c, e = .returned (.slice A ids.length c) ∧ OwnS w.heap.size w' (.slice A ids.length c) ids ∧ Below w.heap.size w w'
abbrev rcBox (x : RC) (w : World) : World := w.alloc (.cells #[.string x.r.id, .int .i64 x.r.cats, .slice x.p.fa x.r.fs.length x.p.fc, .slice x.p.ra x.r.rs.length x.p.rc] 35)
theorem rcBox_below (x : RC) (w : World) : Below w.heap.size w (rcBox x w) := (Below.refl _ _).alloc (Nat.le_refl _) _
theorem take_hit {α : Type} {p : α → Bool} {l : List α} {k : Nat} {x : α} (h : l[k]? = some x) (hp : p x = true) : (l.take (k + 1)).filter p = (l.take k).filter p ++ [x] := by
  rw [take_snoc h, List.filter_append, List.filter_cons_of_pos hp, List.filter_nil]
theorem take_miss {α : Type} {p : α → Bool} {l : List α} {k : Nat} {x : α} (h : l[k]? = some x) (hp : p x = false) : (l.take (k + 1)).filter p = (l.take k).filter p := by
  rw [take_snoc h, List.filter_append, List.filter_cons_of_neg (by simp [hp]), List.filter_nil, List.append_nil]
theorem cell_one_at (w : World) (s : ByteArray) (t : TypeId) : ∀ j u, [Value.string s][j]? = some u → (w.alloc (.cells #[.string s] t)).cell? ((⟨w.heap.size, 0, none⟩ : Addr).add j) = some u := fun j u hu => by
  rw [addr_at]
  match j, hu with
  | 0, hu => cases hu; simp [go_sem]
  | j + 1, hu => simp at hu

set_option maxHeartbeats 4000000 in
theorem namesBy (b0 : Nat) (pr : RecL → Bool) (a : Option Addr) (l : List RC) (c : Nat) (w : World) (hs : SlRc w a l) (hn : l.length ≤ 5120)
    (hf : ∀ (W : World) (x : RC), Below w.heap.size w W → x ∈ l → Calls Tryz.prog 77 #[x.r.v x.p, .pointer (some ⟨b0, 0, none⟩)] W fun e w' => e = .returned (.bool (pr x.r)) ∧ Below W.heap.size W w') :
    Calls Tryz.prog 79 #[.slice a l.length c, .func (.func 77) #[] #[.pointer (some ⟨b0, 0, none⟩)]] w (NamesTo (((l.map (·.r)).filter pr).map (·.id)) w) := by
  obtain ⟨i0, hi, hz0, hz1, hz2⟩ := info_parts Tryz.infoStr
  have HS := Lib.hid hs
  have HF := Lib.hid hf
  obtain ⟨n, hN⟩ : ∃ n, n = l.length := ⟨_, rfl⟩
  have HN := Lib.hid hN
  rw [← hN] at hn ⊢
  clear hs hf hN
  go_enter Tryz.func79, Tryz.ntmps79
  go_wp2_with fail
  go_loopw [5, 10] (fun v i wr => ∃ (k : Nat) (q : List ByteArray), k ≤ n ∧ i = .int .i64 k ∧ q.length ≤ k ∧ Hid (q = (((l.map (·.r)).take k).filter pr).map (·.id)) ∧ OwnS w.heap.size wr v q ∧ Below w.heap.size w wr) (fun _ i _ => n - (intOf i).toNat)
  case atStart => exact ⟨0, [], Nat.zero_le _, rfl, Nat.le_refl _, rfl, World.ownsRow_nil _ _ _ _, Below.refl _ _⟩
  case round =>
    obtain ⟨k, q, hk, rfl, hqk, HQ, hrow, hB⟩ := hrel
    by_cases hlt : k < n
    · obtain ⟨x, hx⟩ : ∃ x, l[k]? = some x := ⟨_, List.getElem?_eq_getElem (by rw [← HN.out]; exact hlt)⟩
      have hv : (l.map (·.r))[k]? = some x.r := by rw [List.getElem?_map, hx]; rfl
      obtain ⟨hin, b, off, rfl, d0, d1, d2, d3⟩ := (HS.out.below hB) k x hx
      have hxm := List.mem_of_getElem? hx
      have i1 : (0 : Int) ≤ (k : Int) := by omega
      have i2 : (k : Int) < (n : Int) := by omega
      have HV := Lib.hid hv
      have hbx : Below w.heap.size w (rcBox x wr) := hB.trans ((rcBox_below x wr).mono hB.size)
      have hcall := HF.out (rcBox x wr) x hbx hxm
      obtain ⟨A, cp, rfl⟩ := hrow.form
      have HROW := Lib.hid hrow
      clear hx hv hin hxm hrow
      cases hp : pr x.r with
      | true =>
        rw [hp] at hcall
        have HC := Lib.hid hcall
        have HP := Lib.hid hp
        clear hcall hp
        go_wp2_with fail
        refine HC.out.mono ?_
        rintro e w1 ⟨rfl, hb1⟩
        have hsz1 : wr.heap.size < w1.heap.size := by have := hb1.size; simp at this; omega
        obtain ⟨hc1, hf1⟩ := bcell hb1
        have a0 : w1.cell? ⟨wr.heap.size, 0, none⟩ = some (.string x.r.id) := by rw [hc1 _ _ (by simp)]; simp [go_sem]
        have hB1 : Below w.heap.size w w1 := hbx.trans (hb1.mono hbx.size)
        have hwr1 : Below wr.heap.size wr w1 := (rcBox_below x wr).trans (hb1.mono (by simp))
        have hbB := hB1.alloc hB1.size (.cells #[.string x.r.id] 9)
        have HR1 := Lib.hid (show (w1.alloc (.cells #[.string x.r.id] 9)).ownsRow w.heap.size 9 1 (.slice A q.length cp) q.length (cellsS q) from ((HROW.out.below hwr1).below ((Below.refl _ _).alloc (Nat.le_refl _) _)))
        have HNE := Lib.hid (cell_one_at w1 x.r.id 9)
        have hsz2 : w.heap.size ≤ (w1.alloc (.cells #[.string x.r.id] 9)).heap.size := hbB.size
        have HBB := Lib.hid hbB
        clear hb1 hc1 hf1 d0 d1 d2 d3 hbx hwr1 hbB hB1
        go_wp2_with (at_builtin; refine wpList_append_own _ rfl _ _ 33 rfl w.heap.size 9 i0 _ 1 16 Tryz.underlying33 hi hz0 hz1 hz2 rfl (by decide) (.slice A q.length cp) q.length (cellsS q) rfl HR1.out ⟨w1.heap.size, 0, none⟩ 1 1 [.string x.r.id] rfl rfl HNE.out (by simp [Value.oneCell']) (by unfold maxLen; omega) (by omega) hsz2 ?_; intro v' w3 hown' hgrow hnv)
        have hr3 : OwnS w.heap.size w3 v' (q ++ [x.r.id]) := by
          unfold OwnS cellsS
          rw [List.map_append, List.length_append]
          exact hown'
        have hB3 : Below w.heap.size w w3 := HBB.out.grown hgrow HBB.out.size (fun j hj => ((World.ownsRow.lt HR1.out) j (show (Value.slice A q.length cp).ownBlock = some j from hj)).1)
        have HR3 := Lib.hid hr3
        clear hown' hgrow hnv HBB HNE HR1 hr3 a0
        go_wp2_with fail
        go_roundw
        case rel =>
          refine ⟨k + 1, q ++ [x.r.id], by omega, by go_num, by simp; omega, ?_, HR3.out, hB3⟩
          show q ++ [x.r.id] = _
          rw [take_hit HV.out HP.out, List.map_append, HQ.out]
          rfl
        case measure => simp [intOf]; omega
      | false =>
        rw [hp] at hcall
        have HC := Lib.hid hcall
        have HP := Lib.hid hp
        clear hcall hp
        go_wp2_with fail
        refine HC.out.mono ?_
        rintro e w1 ⟨rfl, hb1⟩
        have hB1 : Below w.heap.size w w1 := hbx.trans (hb1.mono hbx.size)
        have hwr1 : Below wr.heap.size wr w1 := (rcBox_below x wr).trans (hb1.mono (by simp))
        clear hb1
        go_wp2_with fail
        go_roundw
        case rel =>
          refine ⟨k + 1, q, by omega, by go_num, by omega, ?_, HROW.out.below hwr1, hB1⟩
          show q = _
          rw [take_miss HV.out HP.out, HQ.out]
        case measure => simp [intOf]; omega
    · obtain rfl : k = n := by omega
      obtain ⟨A, cp, rfl⟩ := hrow.form
      have hq : q = ((l.map (·.r)).filter pr).map (·.id) := by
        have := HQ.out
        rwa [List.take_of_length_le (by rw [List.length_map, ← HN.out]; exact Nat.le_refl _)] at this
      have HROW := Lib.hid hrow
      have HQQ := Lib.hid hq
      clear hq hrow
      go_wp2_with fail
      go_ret
      rw [← HQQ.out]
      exact ⟨A, cp, rfl, HROW.out, hB⟩

set_option maxHeartbeats 4000000 in
theorem namesWith (b0 : Nat) (pr : RecL → Bool) (a : Option Addr) (l : List RC) (c : Nat) (w : World) (hs : SlRc w a l) (hn : l.length ≤ 5120)
    (hf : ∀ (W : World) (x : RC), Below w.heap.size w W → x ∈ l → Calls Tryz.prog 80 #[x.r.v x.p, .pointer (some ⟨b0, 0, none⟩)] W fun e w' => e = .returned (.bool (pr x.r)) ∧ Below W.heap.size W w') :
    Calls Tryz.prog 79 #[.slice a l.length c, .func (.func 80) #[] #[.pointer (some ⟨b0, 0, none⟩)]] w (NamesTo (((l.map (·.r)).filter pr).map (·.id)) w) := by
  obtain ⟨i0, hi, hz0, hz1, hz2⟩ := info_parts Tryz.infoStr
  have HS := Lib.hid hs
  have HF := Lib.hid hf
  obtain ⟨n, hN⟩ : ∃ n, n = l.length := ⟨_, rfl⟩
  have HN := Lib.hid hN
  rw [← hN] at hn ⊢
  clear hs hf hN
  go_enter Tryz.func79, Tryz.ntmps79
  go_wp2_with fail
  go_loopw [5, 10] (fun v i wr => ∃ (k : Nat) (q : List ByteArray), k ≤ n ∧ i = .int .i64 k ∧ q.length ≤ k ∧ Hid (q = (((l.map (·.r)).take k).filter pr).map (·.id)) ∧ OwnS w.heap.size wr v q ∧ Below w.heap.size w wr) (fun _ i _ => n - (intOf i).toNat)
  case atStart => exact ⟨0, [], Nat.zero_le _, rfl, Nat.le_refl _, rfl, World.ownsRow_nil _ _ _ _, Below.refl _ _⟩
  case round =>
    obtain ⟨k, q, hk, rfl, hqk, HQ, hrow, hB⟩ := hrel
    by_cases hlt : k < n
    · obtain ⟨x, hx⟩ : ∃ x, l[k]? = some x := ⟨_, List.getElem?_eq_getElem (by rw [← HN.out]; exact hlt)⟩
      have hv : (l.map (·.r))[k]? = some x.r := by rw [List.getElem?_map, hx]; rfl
      obtain ⟨hin, b, off, rfl, d0, d1, d2, d3⟩ := (HS.out.below hB) k x hx
      have hxm := List.mem_of_getElem? hx
      have i1 : (0 : Int) ≤ (k : Int) := by omega
      have i2 : (k : Int) < (n : Int) := by omega
      have HV := Lib.hid hv
      have hbx : Below w.heap.size w (rcBox x wr) := hB.trans ((rcBox_below x wr).mono hB.size)
      have hcall := HF.out (rcBox x wr) x hbx hxm
      obtain ⟨A, cp, rfl⟩ := hrow.form
      have HROW := Lib.hid hrow
      clear hx hv hin hxm hrow
      cases hp : pr x.r with
      | true =>
        rw [hp] at hcall
        have HC := Lib.hid hcall
        have HP := Lib.hid hp
        clear hcall hp
        go_wp2_with fail
        refine HC.out.mono ?_
        rintro e w1 ⟨rfl, hb1⟩
        have hsz1 : wr.heap.size < w1.heap.size := by have := hb1.size; simp at this; omega
        obtain ⟨hc1, hf1⟩ := bcell hb1
        have a0 : w1.cell? ⟨wr.heap.size, 0, none⟩ = some (.string x.r.id) := by rw [hc1 _ _ (by simp)]; simp [go_sem]
        have hB1 : Below w.heap.size w w1 := hbx.trans (hb1.mono hbx.size)
        have hwr1 : Below wr.heap.size wr w1 := (rcBox_below x wr).trans (hb1.mono (by simp))
        have hbB := hB1.alloc hB1.size (.cells #[.string x.r.id] 9)
        have HR1 := Lib.hid (show (w1.alloc (.cells #[.string x.r.id] 9)).ownsRow w.heap.size 9 1 (.slice A q.length cp) q.length (cellsS q) from ((HROW.out.below hwr1).below ((Below.refl _ _).alloc (Nat.le_refl _) _)))
        have HNE := Lib.hid (cell_one_at w1 x.r.id 9)
        have hsz2 : w.heap.size ≤ (w1.alloc (.cells #[.string x.r.id] 9)).heap.size := hbB.size
        have HBB := Lib.hid hbB
        clear hb1 hc1 hf1 d0 d1 d2 d3 hbx hwr1 hbB hB1
        go_wp2_with (at_builtin; refine wpList_append_own _ rfl _ _ 33 rfl w.heap.size 9 i0 _ 1 16 Tryz.underlying33 hi hz0 hz1 hz2 rfl (by decide) (.slice A q.length cp) q.length (cellsS q) rfl HR1.out ⟨w1.heap.size, 0, none⟩ 1 1 [.string x.r.id] rfl rfl HNE.out (by simp [Value.oneCell']) (by unfold maxLen; omega) (by omega) hsz2 ?_; intro v' w3 hown' hgrow hnv)
        have hr3 : OwnS w.heap.size w3 v' (q ++ [x.r.id]) := by
          unfold OwnS cellsS
          rw [List.map_append, List.length_append]
          exact hown'
        have hB3 : Below w.heap.size w w3 := HBB.out.grown hgrow HBB.out.size (fun j hj => ((World.ownsRow.lt HR1.out) j (show (Value.slice A q.length cp).ownBlock = some j from hj)).1)
        have HR3 := Lib.hid hr3
        clear hown' hgrow hnv HBB HNE HR1 hr3 a0
        go_wp2_with fail
        go_roundw
        case rel =>
          refine ⟨k + 1, q ++ [x.r.id], by omega, by go_num, by simp; omega, ?_, HR3.out, hB3⟩
          show q ++ [x.r.id] = _
          rw [take_hit HV.out HP.out, List.map_append, HQ.out]
          rfl
        case measure => simp [intOf]; omega
      | false =>
        rw [hp] at hcall
        have HC := Lib.hid hcall
        have HP := Lib.hid hp
        clear hcall hp
        go_wp2_with fail
        refine HC.out.mono ?_
        rintro e w1 ⟨rfl, hb1⟩
        have hB1 : Below w.heap.size w w1 := hbx.trans (hb1.mono hbx.size)
        have hwr1 : Below wr.heap.size wr w1 := (rcBox_below x wr).trans (hb1.mono (by simp))
        clear hb1
        go_wp2_with fail
        go_roundw
        case rel =>
          refine ⟨k + 1, q, by omega, by go_num, by omega, ?_, HROW.out.below hwr1, hB1⟩
          show q = _
          rw [take_miss HV.out HP.out, HQ.out]
        case measure => simp [intOf]; omega
    · obtain rfl : k = n := by omega
      obtain ⟨A, cp, rfl⟩ := hrow.form
      have hq : q = ((l.map (·.r)).filter pr).map (·.id) := by
        have := HQ.out
        rwa [List.take_of_length_le (by rw [List.length_map, ← HN.out]; exact Nat.le_refl _)] at this
      have HROW := Lib.hid hrow
      have HQQ := Lib.hid hq
      clear hq hrow
      go_wp2_with fail
      go_ret
      rw [← HQQ.out]
      exact ⟨A, cp, rfl, HROW.out, hB⟩
end Go.Proofs.YteimdhkajbldjaaGreat

namespace Go.Proofs.YteimdhkajbldjaaGreat
open Go.RowKit Go.Sort Go.Maps

def StrsTo (L : List ByteArray) (er : Int) (w : World) (e : Ending) (w' : World) : Prop := ∃ A k c, e = .returned (.tuple #[.slice A k c, .int .i64 er]) ∧ L.length = k ∧ OwnS w.heap.size w' (.slice A k c) L ∧ Below w.heap.size w w'

theorem byClos_is {b : Bool} (b0 : Nat) (f : FieldL) (x : RC) (w : World) (h0 : w.cell? ⟨b0, 0, none⟩ = some (.string f.key)) (h1 : w.cell? ⟨b0, 1, none⟩ = some (.string f.val)) (hi : x.r.in_ x.p w) (hb : hasF f x.r = b) :
    Calls Tryz.prog 77 #[x.r.v x.p, .pointer (some ⟨b0, 0, none⟩)] w fun e w' => e = .returned (.bool b) ∧ Below w.heap.size w w' := by
  have hbx := rcBox_below x w
  have HC := Lib.hid (containsF_is x.p.fa x.r.fs x.p.fc f (rcBox x w) ((hi.below hbx).hf) (Nat.le_trans hi.fl hi.fm) (b := b) hb)
  have HB := Lib.hid hbx
  have hl := cell_lt h0
  have k0 : (rcBox x w).cell? ⟨b0, 0, none⟩ = some (.string f.key) := (hbx.cell (p := ⟨b0, 0, none⟩) hl).trans h0
  have k1 : (rcBox x w).cell? ⟨b0, 1, none⟩ = some (.string f.val) := (hbx.cell (p := ⟨b0, 1, none⟩) hl).trans h1
  clear h0 h1 hi hb hbx
  go_enter Tryz.func77, Tryz.ntmps77
  go_wp2_with fail
  refine HC.out.mono ?_
  rintro e w1 ⟨rfl, hb1⟩
  have HB1 := Lib.hid (HB.out.trans (hb1.mono HB.out.size))
  clear hb1
  go_wp2_with fail
  go_ret
  exact ⟨rfl, HB1.out⟩

set_option maxHeartbeats 2000000 in
theorem by_is {n : Nat} {er : Int} {L : List ByteArray} {a : Option Addr} {vs : List VerL} (c : Nat) (f : FieldL) (w : World) (h : VsAt w a n vs) (hm : n ≤ maxLen) (hL : byR vs f = L) (he : byErr vs f = er) :
    Calls Tryz.prog 28 #[.slice a n c, f.v] w (StrsTo L er w) := by
  have hA : Below w.heap.size w (w.alloc (.cells #[.string f.key, .string f.val] 37)) := (Below.refl _ _).alloc (Nat.le_refl _) _
  have HA := Lib.hid hA
  by_cases hst : stErr vs = 0
  · have HC := Lib.hid (recs_ok_is c _ (h.below hA) hst)
    have HST := Lib.hid hst
    by_cases hf : isFd f = true
    · have he0 : byErr vs f = 0 := by unfold byErr; rw [if_neg (fun k => k hst), if_pos hf]
      rw [he0] at he
      subst he
      have hL2 : byL vs f = L := by unfold byR at hL; rwa [if_pos he0] at hL
      have HL := Lib.hid hL2
      unfold isFd at hf
      rw [Bool.and_eq_true] at hf
      obtain ⟨hk, hv⟩ := hf
      clear h hm hL hst hL2 hA he0
      go_enter Tryz.func28, Tryz.ntmps28
      go_wp2_with fail
      refine HC.out.mono ?_
      rintro e w1 ⟨A1, l, c1, rfl, hlr, hsl, hll, hb1⟩
      have k0 : w1.cell? ⟨w.heap.size, 0, none⟩ = some (.string f.key) := (hb1.cell (p := ⟨w.heap.size, 0, none⟩) (by simp)).trans (by simp [go_sem])
      have k1 : w1.cell? ⟨w.heap.size, 1, none⟩ = some (.string f.val) := (hb1.cell (p := ⟨w.heap.size, 1, none⟩) (by simp)).trans (by simp [go_sem])
      have HLR := Lib.hid hlr
      have HSL := Lib.hid hsl
      have HLL := Lib.hid hll
      have HB1 := Lib.hid (HA.out.trans (hb1.mono HA.out.size))
      have HK1 := Lib.hid (show isNm f.key = true from hk)
      have HV1 := Lib.hid (show isVl f.val = true from hv)
      clear hlr hsl hll hb1 HC hk hv
      go_wp2_with fail
      refine (id_is f.key _ HK1.out).mono ?_
      rintro e w2 ⟨rfl, hb2⟩
      have q0 := (hb2.cell (p := ⟨w.heap.size, 0, none⟩) (cell_lt k0)).trans k0
      have q1 := (hb2.cell (p := ⟨w.heap.size, 1, none⟩) (cell_lt k0)).trans k1
      have HSL2 := Lib.hid (HSL.out.below hb2)
      have HB2 := Lib.hid (HB1.out.trans (hb2.mono HB1.out.size))
      clear hb2 k0 k1
      go_wp2_with fail
      refine (value_is f.val _ HV1.out).mono ?_
      rintro e w3 ⟨rfl, hb3⟩
      have r0 := (hb3.cell (p := ⟨w.heap.size, 0, none⟩) (cell_lt q0)).trans q0
      have r1 := (hb3.cell (p := ⟨w.heap.size, 1, none⟩) (cell_lt q0)).trans q1
      have HSL3 := Lib.hid (HSL2.out.below hb3)
      have HB3 := Lib.hid (HB2.out.trans (hb3.mono HB2.out.size))
      have hnm := namesBy w.heap.size (hasF f) A1 l c1 w3 HSL3.out HLL.out (fun W x hW hx => by
        obtain ⟨j, hj⟩ := List.getElem?_of_mem hx
        exact byClos_is w.heap.size f x W ((hW.cell (p := ⟨w.heap.size, 0, none⟩) (cell_lt r0)).trans r0) ((hW.cell (p := ⟨w.heap.size, 1, none⟩) (cell_lt r0)).trans r1) (((HSL3.out j x hj).1).below hW) rfl)
      rw [HLR.out, show ((recs vs).filter (hasF f)).map (·.id) = L from HL.out] at hnm
      have HNM := Lib.hid hnm
      clear hb3 q0 q1 r0 r1 hnm
      go_wp2_with fail
      refine HNM.out.mono ?_
      rintro e w4 ⟨A4, c4, rfl, ho4, hb4⟩
      have HO4 := Lib.hid (own_low ho4 HB3.out.size)
      have HB4 := Lib.hid (HB3.out.trans (hb4.mono HB3.out.size))
      clear ho4 hb4
      go_wp2_with fail
      go_ret2
      exact ⟨A4, _, c4, rfl, rfl, HO4.out, HB4.out⟩
    · have he0 : byErr vs f = 3 := by unfold byErr; rw [if_neg (fun k => k hst), if_neg hf]
      rw [he0] at he
      subst he
      have hL2 : L = [] := by rw [← hL]; unfold byR; rw [if_neg (by rw [he0]; decide)]
      subst hL2
      have hf2 : isFd f = false := by simpa using hf
      unfold isFd at hf2
      clear h hm hL hst hA he0 hf
      go_enter Tryz.func28, Tryz.ntmps28
      go_wp2_with fail
      refine HC.out.mono ?_
      rintro e w1 ⟨A1, l, c1, rfl, hlr, hsl, hll, hb1⟩
      have k0 : w1.cell? ⟨w.heap.size, 0, none⟩ = some (.string f.key) := (hb1.cell (p := ⟨w.heap.size, 0, none⟩) (by simp)).trans (by simp [go_sem])
      have k1 : w1.cell? ⟨w.heap.size, 1, none⟩ = some (.string f.val) := (hb1.cell (p := ⟨w.heap.size, 1, none⟩) (by simp)).trans (by simp [go_sem])
      have HB1 := Lib.hid (HA.out.trans (hb1.mono HA.out.size))
      clear hlr hsl hll hb1 HC
      cases hk : isNm f.key with
      | false =>
        have HK1 := Lib.hid hk
        clear hf2 hk
        go_wp2_with fail
        refine (id_is f.key _ HK1.out).mono ?_
        rintro e w2 ⟨rfl, hb2⟩
        have HB2 := Lib.hid (HB1.out.trans (hb2.mono HB1.out.size))
        clear hb2
        go_wp2_with fail
        go_ret2
        exact ⟨none, 0, 0, rfl, rfl, World.ownsRow_nil _ _ _ _, HB2.out⟩
      | true =>
        have HK1 := Lib.hid hk
        have HV1 : Hid (isVl f.val = false) := by show isVl f.val = false; rw [hk] at hf2; simpa using hf2
        clear hf2 hk
        go_wp2_with fail
        refine (id_is f.key _ HK1.out).mono ?_
        rintro e w2 ⟨rfl, hb2⟩
        have q0 := (hb2.cell (p := ⟨w.heap.size, 0, none⟩) (cell_lt k0)).trans k0
        have q1 := (hb2.cell (p := ⟨w.heap.size, 1, none⟩) (cell_lt k0)).trans k1
        have HB2 := Lib.hid (HB1.out.trans (hb2.mono HB1.out.size))
        clear hb2 k0 k1
        go_wp2_with fail
        refine (value_is f.val _ HV1.out).mono ?_
        rintro e w3 ⟨rfl, hb3⟩
        have HB3 := Lib.hid (HB2.out.trans (hb3.mono HB2.out.size))
        clear hb3
        go_wp2_with fail
        go_ret2
        exact ⟨none, 0, 0, rfl, rfl, World.ownsRow_nil _ _ _ _, HB3.out⟩
  · obtain ⟨er2, her⟩ : ∃ er2, stErr vs = er2 := ⟨_, rfl⟩
    have he0 : byErr vs f = er2 := by unfold byErr; rw [if_pos hst, her]
    rw [he0] at he
    subst he
    have hne : er2 ≠ 0 := by rw [← her]; exact hst
    have hL2 : L = [] := by rw [← hL]; unfold byR; rw [if_neg (by rw [he0]; exact hne)]
    subst hL2
    have HC := Lib.hid (recs_no c _ (h.below hA) hm her hne)
    have h1 : (er2 == 0) = false := by simpa using hne
    have h2 : (er2 != 0) = true := by simpa using hne
    clear h hm hL hst hA he0 her
    go_enter Tryz.func28, Tryz.ntmps28
    go_wp2_with fail
    refine HC.out.mono ?_
    rintro e w1 ⟨rfl, hb1⟩
    have HB1 := Lib.hid (HA.out.trans (hb1.mono HA.out.size))
    clear hb1
    go_wp2_with fail
    go_ret2
    exact ⟨none, 0, 0, rfl, rfl, World.ownsRow_nil _ _ _ _, HB1.out⟩
end Go.Proofs.YteimdhkajbldjaaGreat

namespace Go.Proofs.YteimdhkajbldjaaGreat
open Go.RowKit Go.Sort Go.Maps

/-- a map of names to whether they are asked for -/
structure Wants (w : World) (b n : Nat) (g : ByteArray → Bool) : Prop where
  m : ∃ D : DataW Unit, w.ownsMap Tryz.prog 9 (plainElem Tryz.prog 4) b n D ∧ ∀ s : ByteArray, D.atKey (strK s) (.lit (.bool false)) = .lit (.bool (g s))
theorem Wants.below {w w' : World} {b n : Nat} {g : ByteArray → Bool} (h : Wants w b n g) (hb : Below w.heap.size w w') : Wants w' b n g := by
  obtain ⟨D, h1, k1⟩ := h.m
  exact ⟨D, h1.kept (grown_of_below hb) (by simp), k1⟩
theorem Wants.congr {w : World} {b n : Nat} {g g' : ByteArray → Bool} (h : Wants w b n g) (e : ∀ s, g s = g' s) : Wants w b n g' := by
  have : g = g' := funext e
  rw [← this]
  exact h
theorem Wants.lt {w : World} {b n : Nat} {g : ByteArray → Bool} (h : Wants w b n g) : b < w.heap.size := by
  obtain ⟨D, h1, _⟩ := h.m
  exact h1.lt
theorem wants_made (w : World) : Wants (w.alloc (.map #[] 0)) w.heap.size 0 (fun _ => false) := ⟨⟨.map [], World.ownsMap_made w _ _ _, fun s => rfl⟩⟩
theorem Wants.look {w : World} {b n : Nat} {g : ByteArray → Bool} (h : Wants w b n g) {s : ByteArray} (hs : s.size ≤ maxLen) :
    (Instr.lookup 134 (.map (some b)) (.string s) false).run Tryz.prog w = .ok (.bool (g s)) w := by
  obtain ⟨D, h1, k1⟩ := h.m
  obtain ⟨v, ps, hrun, hv⟩ := h1.lookup lawStr Tryz.underlying134 (zeroBool w) (plainElem_bool Tryz.underlying4 false) (keyStr hs)
  obtain ⟨x, rfl, hx⟩ := plainElem_bool_inv Tryz.underlying4 hv
  simp only [Prod.mk.injEq] at hx
  rw [k1 s] at hx
  have := hx.1
  cases this
  exact hrun
theorem Wants.note {w : World} {b n : Nat} {g : ByteArray → Bool} (h : Wants w b n g) (hn : n < maxLen) {s : ByteArray} (hs : s.size ≤ maxLen) :
    ∃ w', (Instr.mapUpdate 134 (.map (some b)) (.string s) (.bool true)).run Tryz.prog w = .ok () w' ∧ Hid (Wants w' b (n + 1) (fun t => g t || sEq t s)) ∧ Hid (w.grownBy w' (some b)) := by
  obtain ⟨D, h1, k1⟩ := h.m
  obtain ⟨w', hrun, ho, hg⟩ := h1.update lawStr Tryz.underlying134 hn (keyStr hs) (plainElem_bool Tryz.underlying4 true)
  refine ⟨w', hrun, ⟨⟨_, ho, fun t => ?_⟩⟩, hg⟩
  by_cases e : t = s
  · subst e
    rw [sEq_iff.2 rfl, Bool.or_true]
    exact atKey_put_same h1.isMap (lawStr.key (keyStr hs)) _ _
  · rw [sEq_false.2 e, Bool.or_false, atKey_put_other (fun ek => e (strK_inj ek))]
    exact k1 t

theorem Wants.not_cell {w : World} {b n k o : Nat} {g : ByteArray → Bool} {v : Value} (h : Wants w b n g) (hc : w.cell? ⟨k, o, none⟩ = some v) : k ≠ b := fun e => by
  obtain ⟨D, ⟨es, clock, hb, _⟩, _⟩ := h.m
  subst e
  simp [World.cell?, hb] at hc
theorem SlS.mapped {w w' : World} {a : Option Addr} {ids : List ByteArray} {b n : Nat} {g : ByteArray → Bool} (h : SlS w a ids) (hw : Wants w b n g) (hg : w.grownBy w' (some b)) : SlS w' a ids := fun k s hk => by
  obtain ⟨b', off, e, hc⟩ := h k s hk
  exact ⟨b', off, e, (cell_grown hg (cell_lt hc) (hw.not_cell hc)).trans hc⟩

theorem withClos_is {b0 bm n : Nat} {g : ByteArray → Bool} {t : Bool} (x : RC) (w : World) (h0 : w.cell? ⟨b0, 0, none⟩ = some (.map (some bm))) (hw : Wants w bm n g) (hs : x.r.id.size ≤ maxLen) (ht : g x.r.id = t) :
    Calls Tryz.prog 80 #[x.r.v x.p, .pointer (some ⟨b0, 0, none⟩)] w fun e w' => e = .returned (.bool t) ∧ Below w.heap.size w w' := by
  have hbx := rcBox_below x w
  have HB := Lib.hid hbx
  have hl := cell_lt h0
  have k0 : (rcBox x w).cell? ⟨b0, 0, none⟩ = some (.map (some bm)) := (hbx.cell (p := ⟨b0, 0, none⟩) hl).trans h0
  have hlk := (hw.below hbx).look hs
  rw [ht] at hlk
  clear h0 hw hs ht hbx
  go_enter Tryz.func80, Tryz.ntmps80
  go_wp2_with fail
  go_ret
  exact ⟨rfl, HB.out⟩

theorem wantB_snoc (l : List RecL) (r : RecL) (ids : List ByteArray) (s : ByteArray) : wantB (l ++ [r]) ids s = (wantB l ids s || (memS ids r.id && (sEq s r.id || memS r.rs s))) := by
  unfold wantB
  rw [List.any_append]
  simp
theorem memS_snoc (l : List ByteArray) (x s : ByteArray) : memS (l ++ [x]) s = (memS l s || sEq s x) := by
  unfold memS
  rw [List.any_append]
  simp
  rw [Bool.eq_iff_iff]
  simp only [Bool.or_eq_true, sEq_iff]
  exact ⟨fun h => h.imp id Eq.symm, fun h => h.imp id Eq.symm⟩
theorem memS_nil (s : ByteArray) : memS [] s = false := rfl

set_option maxHeartbeats 8000000 in
theorem fwith_ok {n m : Nat} {L : List ByteArray} {a a2 : Option Addr} {vs : List VerL} (c c2 : Nat) (ids : List ByteArray) (w : World) (h : VsAt w a n vs) (hst : stErr vs = 0) (hs : SlS w a2 ids) (hl : ids.length = m) (hm : m ≤ 60) (hL : withL vs ids = L) :
    Calls Tryz.prog 29 #[.slice a n c, .slice a2 m c2] w (StrsTo L 0 w) := by
  have HC := Lib.hid (recs_ok_is c _ h hst)
  have hok := (stErr_ok.1 hst).2
  have HRO := Lib.hid (recs_ok hok)
  have HS := Lib.hid hs
  have HL := Lib.hid hl
  have HLL := Lib.hid hL
  have hmm := @run_makeMap Tryz.prog
  clear h hst hs hl hL hok
  go_enter Tryz.func29, Tryz.ntmps29
  go_wp2_with fail
  refine HC.out.mono ?_
  rintro e w1 ⟨A1, l, c1, rfl, hlr, hsl, hll, hb1⟩
  have HLR := Lib.hid hlr
  have HSL := Lib.hid hsl
  have HB1 := Lib.hid hb1
  have HLN := Lib.hid hll
  obtain ⟨N, hN⟩ : ∃ N, l.length = N := ⟨_, rfl⟩
  have HN := Lib.hid hN
  rw [hN] at hll ⊢
  have HW0 := Lib.hid (wants_made w1)
  obtain ⟨bm, hbm⟩ : ∃ bm, bm = w1.heap.size := ⟨_, rfl⟩
  clear hlr hsl hb1 HC hN
  go_wp2_with fail
  obtain ⟨W2, hW2⟩ : ∃ W2, W2 = (w1.alloc (.map #[] 0)).alloc (.cells #[.map (some w1.heap.size)] 134) := ⟨_, rfl⟩
  have hA2 : Below w1.heap.size w1 W2 := by rw [hW2]; exact ((Below.refl _ _).alloc (Nat.le_refl _) _).alloc (by simp) _
  have hbox : W2.cell? ⟨w1.heap.size + 1, 0, none⟩ = some (.map (some w1.heap.size)) := by rw [hW2]; simp [go_sem]
  have hwt : Wants W2 w1.heap.size 0 (fun _ => false) := by rw [hW2]; exact HW0.out.below ((Below.refl _ _).alloc (Nat.le_refl _) _)
  rw [← hW2]
  have HA2 := Lib.hid hA2
  have HBOX := Lib.hid hbox
  have HWT := Lib.hid hwt
  clear hW2 hA2 hbox hwt hbm HW0
  go_loopw [27] (fun i wr => ∃ (k q : Nat), k ≤ N ∧ i = .int .i64 k ∧ q ≤ k * 5 ∧ Hid (Wants wr w1.heap.size q (wantB ((l.map (·.r)).take k) ids)) ∧ Hid (wr.cell? ⟨w1.heap.size + 1, 0, none⟩ = some (.map (some w1.heap.size))) ∧ Hid (Below w1.heap.size w1 wr)) (fun i _ => N - (intOf i).toNat)
  case atStart => exact ⟨0, 0, Nat.zero_le _, rfl, Nat.zero_le _, HWT.out, HBOX.out, HA2.out⟩
  case round =>
    obtain ⟨k, q, hk, rfl, hq, HW, HBX, HB⟩ := hrel
    by_cases hlt : k < N
    · obtain ⟨x, hx⟩ : ∃ x, l[k]? = some x := ⟨_, List.getElem?_eq_getElem (by rw [HN.out]; exact hlt)⟩
      have hv : (l.map (·.r))[k]? = some x.r := by rw [List.getElem?_map, hx]; rfl
      have htk := take_snoc hv
      obtain ⟨hin, b, off, rfl, d0, d1, d2, d3⟩ := (HSL.out.below HB.out) k x hx
      have hxo : x.r.Ok := HRO.out x.r (by rw [← HLR.out]; exact List.mem_map_of_mem (List.mem_of_getElem? hx))
      have hxi := nm_max hxo.id
      have i1 : (0 : Int) ≤ (k : Int) := by omega
      have i2 : (k : Int) < (N : Int) := by omega
      have hbx := rcBox_below x wr
      have HTK := Lib.hid htk
      have HIN := Lib.hid (hin.below hbx)
      have HXO := Lib.hid hxo
      have HXI := Lib.hid hxi
      obtain ⟨t, ht⟩ : ∃ t, memS ids x.r.id = t := ⟨_, rfl⟩
      have HT := Lib.hid ht
      have hwr1 : Below w.heap.size w (rcBox x wr) := (HB1.out.trans (HB.out.mono HB1.out.size)).trans (hbx.mono (HB1.out.trans (HB.out.mono HB1.out.size)).size)
      have HCT := Lib.hid (contains_is (b := t) a2 ids c2 x.r.id (rcBox x wr) (HS.out.below hwr1) HL.out (by unfold maxLen; omega) (by rw [← ht]; exact memS_iff.symm))
      have HBr := Lib.hid (HB.out.trans (hbx.mono HB.out.size))
      have HW1 := Lib.hid (HW.out.below hbx)
      have HBX1 := Lib.hid ((hbx.cell (p := ⟨w1.heap.size + 1, 0, none⟩) (cell_lt HBX.out)).trans HBX.out)
      clear hx hv htk hin hxo hxi hbx ht hwr1
      go_wp2_with fail
      refine HCT.out.mono ?_
      rintro e w2 ⟨rfl, hb2⟩
      have hsz2 : wr.heap.size < w2.heap.size := by have := hb2.size; simp at this; omega
      obtain ⟨hc2, hf2⟩ := bcell hb2
      have a0 : w2.cell? ⟨wr.heap.size, 0, none⟩ = some (.string x.r.id) := by rw [hc2 _ _ (by simp)]; simp [go_sem]
      have a3 : w2.cell? ⟨wr.heap.size, 3, none⟩ = some (.slice x.p.ra x.r.rs.length x.p.rc) := by rw [hc2 _ _ (by simp)]; simp [go_sem]
      have HW2 := Lib.hid (HW1.out.below hb2)
      have bx2 := (hb2.cell (p := ⟨w1.heap.size + 1, 0, none⟩) (cell_lt HBX1.out)).trans HBX1.out
      have HB2 := Lib.hid (HBr.out.trans (hb2.mono HBr.out.size))
      have HIN2 := Lib.hid (HIN.out.below hb2)
      clear hb2 hc2 hf2 HCT d0 d1 d2 d3 HW1 HBX1 HIN
      cases t with
      | false =>
        go_wp2_with fail
        go_roundw
        case rel =>
          refine ⟨k + 1, q, by omega, by go_num, by omega, (show Wants _ _ _ _ from HW2.out.congr fun s => ?_), bx2, HB2.out⟩
          rw [HTK.out, wantB_snoc, HT.out]
          simp
        case measure => simp [intOf]; omega
      | true =>
        obtain ⟨w3, hst3, HW3, HG3⟩ := HW2.out.note (show q < maxLen by unfold maxLen; omega) HXI.out
        have b3 : w3.cell? ⟨w1.heap.size + 1, 0, none⟩ = some (.map (some w1.heap.size)) := (cell_grown HG3.out (cell_lt bx2) (HW2.out.not_cell bx2)).trans bx2
        have c3 : w3.cell? ⟨wr.heap.size, 3, none⟩ = some (.slice x.p.ra x.r.rs.length x.p.rc) := (cell_grown HG3.out (cell_lt a3) (HW2.out.not_cell a3)).trans a3
        have hgB : Below w1.heap.size w1 w3 := HB2.out.grown HG3.out HB2.out.size (fun j hj => by cases hj; exact Nat.le_refl _)
        have hnr : x.r.rs.length ≤ 4 := HXO.out.nr
        have HSR := Lib.hid (HIN2.out.hr.mapped HW2.out HG3.out)
        obtain ⟨M, hM⟩ : ∃ M, x.r.rs.length = M := ⟨_, rfl⟩
        have HM := Lib.hid hM
        rw [hM] at hnr c3 a3
        have HB3 := Lib.hid hgB
        have HC3 := Lib.hid c3
        have HBX3 := Lib.hid b3
        clear hM hgB HW2 HIN2 HB2
        go_wp2_with fail
        clear hst3
        go_loopw [42] (fun i wi => ∃ (j q' : Nat), j ≤ M ∧ i = .int .i64 j ∧ q' ≤ k * 5 + 1 + j ∧ Hid (Wants wi w1.heap.size q' (fun s => (wantB ((l.map (·.r)).take k) ids s || sEq s x.r.id) || memS (x.r.rs.take j) s)) ∧ Hid (wi.cell? ⟨w1.heap.size + 1, 0, none⟩ = some (.map (some w1.heap.size))) ∧ Hid (SlS wi x.p.ra x.r.rs) ∧ Hid (Below w1.heap.size w1 wi)) (fun i _ => M - (intOf i).toNat)
        case atStart => exact ⟨0, q + 1, Nat.zero_le _, rfl, by omega, (show Wants _ _ _ _ from HW3.out.congr fun s => by simp [memS_nil]), HBX3.out, HSR.out, HB3.out⟩
        case round =>
          obtain ⟨j, q', hj, rfl, hq', HWI, HBI, HSI, HB4⟩ := hrel
          by_cases hjm : j < M
          · obtain ⟨s, hs⟩ : ∃ s, x.r.rs[j]? = some s := ⟨_, List.getElem?_eq_getElem (by rw [HM.out]; exact hjm)⟩
            obtain ⟨bs, os, hra, hc⟩ := HSI.out j s hs
            rw [hra]
            have hsn : s.size ≤ maxLen := nm_max (HXO.out.rs j s (by rw [HM.out]; exact hjm) hs).1
            have hts := take_snoc hs
            have j1 : (0 : Int) ≤ (j : Int) := by omega
            have j2 : (j : Int) < (M : Int) := by omega
            obtain ⟨w5, hst5, HW5, HG5⟩ := HWI.out.note (show q' < maxLen by unfold maxLen; omega) hsn
            have HBI5 := Lib.hid ((cell_grown HG5.out (cell_lt HBI.out) (HWI.out.not_cell HBI.out)).trans HBI.out)
            have HSI5 := Lib.hid (HSI.out.mapped HWI.out HG5.out)
            have HB5 := Lib.hid (HB4.out.grown HG5.out HB4.out.size (fun jj hjj => by cases hjj; exact Nat.le_refl _))
            have bx5 := HBI.out
            have HTS := Lib.hid hts
            have HRA := Lib.hid hra
            clear hs hsn hts hra
            go_wp2_with fail
            go_roundw
            case rel =>
              refine ⟨j + 1, q' + 1, by omega, by go_num, by omega, (show Wants _ _ _ _ from HW5.out.congr fun u => ?_), HBI5.out, (show SlS w5 (some ⟨bs, os, none⟩) x.r.rs by rw [← HRA.out]; exact HSI5.out), HB5.out⟩
              rw [HTS.out, memS_snoc, Bool.or_assoc]
            case measure => simp [intOf]; omega
          · obtain rfl : j = M := by omega
            have hall : x.r.rs.take j = x.r.rs := List.take_of_length_le (by rw [HM.out]; exact Nat.le_refl _)
            have HAL := Lib.hid hall
            clear hall hjm
            go_wp2_with fail
            go_roundw
            case rel =>
              refine ⟨k + 1, q', by omega, by go_num, by omega, (show Wants _ _ _ _ from HWI.out.congr fun u => ?_), HBI.out, HB4.out⟩
              rw [HAL.out, HTK.out, wantB_snoc, HT.out, Bool.or_assoc]
              rfl
            case measure => simp [intOf]; omega
    · obtain rfl : k = N := by omega
      have hall : (l.map (·.r)).take k = recs vs := by rw [List.take_of_length_le (by rw [List.length_map, HN.out]; exact Nat.le_refl _)]; exact HLR.out
      have HW9 : Hid (Wants wr w1.heap.size q (wantB (recs vs) ids)) := by show Wants _ _ _ _; rw [← hall]; exact HW.out
      have hnm := namesWith (w1.heap.size + 1) (fun r => wantB (recs vs) ids r.id) A1 l c1 wr (HSL.out.below HB.out) HLN.out (fun W x hW hx => by
        have hxo : x.r.Ok := HRO.out x.r (by rw [← HLR.out]; exact List.mem_map_of_mem hx)
        exact withClos_is x W ((hW.cell (p := ⟨w1.heap.size + 1, 0, none⟩) (cell_lt HBX.out)).trans HBX.out) (HW9.out.below hW) (nm_max hxo.id) rfl)
      rw [HLR.out, show ((recs vs).filter (fun r => wantB (recs vs) ids r.id)).map (·.id) = L from HLL.out, HN.out] at hnm
      have HNM := Lib.hid hnm
      have HBw := Lib.hid (HB1.out.trans (HB.out.mono HB1.out.size))
      clear hnm hall hlt
      go_wp2_with fail
      refine HNM.out.mono ?_
      rintro e w4 ⟨A4, c4, rfl, ho4, hb4⟩
      have HO4 := Lib.hid (own_low ho4 HBw.out.size)
      have HB4 := Lib.hid (HBw.out.trans (hb4.mono HBw.out.size))
      clear ho4 hb4
      go_wp2_with fail
      go_ret2
      exact ⟨A4, _, c4, rfl, rfl, HO4.out, HB4.out⟩

set_option maxHeartbeats 2000000 in
theorem with_is {n m : Nat} {er : Int} {L : List ByteArray} {a a2 : Option Addr} {vs : List VerL} (c c2 : Nat) (ids : List ByteArray) (w : World) (h : VsAt w a n vs) (hn : n ≤ maxLen) (hs : SlS w a2 ids) (hl : ids.length = m) (hL : withR vs ids = L) (he : withErr vs ids = er) :
    Calls Tryz.prog 29 #[.slice a n c, .slice a2 m c2] w (StrsTo L er w) := by
  by_cases hst : stErr vs = 0
  · by_cases hm : 60 < m
    · have he0 : withErr vs ids = 2 := by unfold withErr; rw [if_neg (fun k => k hst), if_pos (by rw [hl]; exact hm)]
      rw [he0] at he
      subst he
      have hL2 : L = [] := by rw [← hL]; unfold withR; rw [if_neg (by rw [he0]; decide)]
      subst hL2
      have HC := Lib.hid (recs_ok_is c _ h hst)
      clear h hs hl hL hst he0 hn
      go_enter Tryz.func29, Tryz.ntmps29
      go_wp2_with fail
      refine HC.out.mono ?_
      rintro e w1 ⟨A1, l, c1, rfl, hlr, hsl, hll, hb1⟩
      have HB1 := Lib.hid hb1
      clear hlr hsl hll hb1 HC
      go_wp2_with fail
      go_ret2
      exact ⟨none, 0, 0, rfl, rfl, World.ownsRow_nil _ _ _ _, HB1.out⟩
    · have he0 : withErr vs ids = 0 := by unfold withErr; rw [if_neg (fun k => k hst), if_neg (by rw [hl]; exact hm)]
      rw [he0] at he
      subst he
      have hL2 : withL vs ids = L := by unfold withR at hL; rwa [if_pos he0] at hL
      exact fwith_ok c c2 ids w h hst hs hl (by omega) hL2
  · obtain ⟨er2, her⟩ : ∃ er2, stErr vs = er2 := ⟨_, rfl⟩
    have he0 : withErr vs ids = er2 := by unfold withErr; rw [if_pos hst, her]
    rw [he0] at he
    subst he
    have hne : er2 ≠ 0 := by rw [← her]; exact hst
    have hL2 : L = [] := by rw [← hL]; unfold withR; rw [if_neg (by rw [he0]; exact hne)]
    subst hL2
    have HC := Lib.hid (recs_no c w h hn her hne)
    have h1 : (er2 == 0) = false := by simpa using hne
    have h2 : (er2 != 0) = true := by simpa using hne
    clear h hs hl hL hst he0 her hn
    go_enter Tryz.func29, Tryz.ntmps29
    go_wp2_with fail
    refine HC.out.mono ?_
    rintro e w1 ⟨rfl, hb1⟩
    have HB1 := Lib.hid hb1
    clear hb1
    go_wp2_with fail
    go_ret2
    exact ⟨none, 0, 0, rfl, rfl, World.ownsRow_nil _ _ _ _, HB1.out⟩
end Go.Proofs.YteimdhkajbldjaaGreat

namespace Go.Proofs.YteimdhkajbldjaaGreat
open Go.RowKit Go.Sort Go.Maps

abbrev sA : ByteArray := ⟨#[97]⟩
abbrev sB : ByteArray := ⟨#[98]⟩
abbrev sC : ByteArray := ⟨#[99]⟩
abbrev sK : ByteArray := ⟨#[107]⟩
abbrev sV : ByteArray := ⟨#[118]⟩
theorem nameA : isNm sA = true := by kernel_rfl
theorem nameB : isNm sB = true := by kernel_rfl
theorem nameC : isNm sC = true := by kernel_rfl
theorem nameK : isNm sK = true := by kernel_rfl
theorem valV : isVl sV = true := by kernel_rfl
theorem lAB : sLt sA sB = true := by kernel_rfl
theorem lBC : sLt sB sC = true := by kernel_rfl
theorem lAC : sLt sA sC = true := by kernel_rfl
theorem fdKV : isFd ⟨sK, sV⟩ = true := by unfold isFd; rw [nameK, valV]; rfl

theorem getV_other {l : List VerL} {r : RecL} {id : ByteArray} (h : id ≠ r.id) : getV (l ++ [⟨r, false⟩]) id = getV l id := by
  unfold getV
  rw [List.reverse_append]
  show List.find? _ (⟨r, false⟩ :: l.reverse) = _
  have h1 : getP (l ++ [⟨r, false⟩]) id ⟨r, false⟩ = false := by
    unfold getP
    rw [show sEq r.id id = false from sEq_false.2 fun e => h e.symm]
    rfl
  rw [List.find?_cons, h1]
  refine find_same fun x _ => ?_
  unfold getP
  cases hx : sEq x.r.id id with
  | false => rfl
  | true =>
    have e := sEq_iff.1 hx
    rw [lives_snoc_off (by
      unfold VerL.on
      rw [show sEq r.id x.r.id = false from sEq_false.2 fun k => h (by rw [k]; exact e.symm)]
      rfl)]
theorem st_one {r : RecL} (h : r.Ok) : stErr [⟨r, false⟩] = 0 := stErr_ok.2 ⟨by simp, (StOk.put stOk_nil h (by simp [same_nil]) : StOk ([] ++ [⟨r, false⟩]))⟩
theorem getV_one {r : RecL} {s : ByteArray} {v : VerL} : getV [⟨r, false⟩] s = some v ↔ s = r.id ∧ v = ⟨r, false⟩ := by
  have e : ([⟨r, false⟩] : List VerL) = [] ++ [⟨r, false⟩] := rfl
  rw [e]
  by_cases h : s = r.id
  · subst h
    rw [getV_put]
    exact ⟨fun k => ⟨rfl, (Option.some.inj k).symm⟩, fun k => by rw [k.2]⟩
  · rw [getV_other h]
    exact ⟨fun k => by simp [getV] at k, fun k => absurd k.1 h⟩
theorem by_one {r : RecL} {f : FieldL} (h : f ∈ r.fs) : byL [⟨r, false⟩] f = [r.id] :=
  asc_ext (byL_asc' _ _) (List.pairwise_singleton _ _) fun s => by
    rw [mem_byL, List.mem_singleton]
    constructor
    · rintro ⟨v, hv, _⟩
      exact (getV_one.1 hv).1
    · intro e
      exact ⟨⟨r, false⟩, getV_one.2 ⟨e, rfl⟩, h⟩
theorem with_one {r : RecL} (h : ∀ s ∈ r.rs, s ≠ r.id) : withL [⟨r, false⟩] [r.id] = [r.id] :=
  asc_ext (picked_asc _ _) (List.pairwise_singleton _ _) fun s => by
    show s ∈ withL _ _ ↔ _
    rw [mem_withL, List.mem_singleton]
    constructor
    · rintro ⟨⟨v, hv⟩, _⟩
      exact (getV_one.1 hv).1
    · intro e
      exact ⟨⟨⟨r, false⟩, getV_one.2 ⟨e, rfl⟩⟩, .inl (by simp [e])⟩

/-! ## in memory -/
theorem sl_one (w : World) (t : TypeId) (ids : List ByteArray) : SlS (w.alloc (.cells (ids.map Value.string).toArray t)) (some ⟨w.heap.size, 0, none⟩) ids := fun k s hk => by
  refine ⟨w.heap.size, 0, rfl, ?_⟩
  obtain ⟨hlt, he⟩ := List.getElem?_eq_some_iff.1 hk
  simp [go_sem, hlt, he]
theorem slf_one (w : World) (f : FieldL) : SlF (w.alloc (.cells #[.string f.key, .string f.val] 37)) (some ⟨w.heap.size, 0, none⟩) [f] := fun k g hk => by
  match k, hk with
  | 0, hk =>
    simp only [List.getElem?_cons_zero, Option.some.injEq] at hk
    subst hk
    exact ⟨w.heap.size, 0, rfl, by simp [go_sem], by simp [go_sem]⟩
  | k + 1, hk => simp at hk
theorem vs_one (w : World) (x : PV) (h : x.in_ w) : VsAt (x.box w) (some ⟨w.heap.size, 0, none⟩) 1 [x.v] := by
  refine ⟨[x], rfl, rfl, fun k y hk => ?_⟩
  match k, hk with
  | 0, hk =>
    simp only [List.getElem?_cons_zero, Option.some.injEq] at hk
    subst hk
    exact ⟨h.below (x.box_below w), w.heap.size, 0, rfl, by simp [go_sem], by simp [go_sem], by simp [go_sem], by simp [go_sem], by simp [go_sem]⟩
  | k + 1, hk => simp at hk
theorem vs_two (w : World) (x y : PV) (h : x.in_ w) (hy : y.in_ w) : VsAt (w.alloc (.cells #[.string x.v.r.id, .int .i64 x.v.r.cats, .slice x.p.fa x.v.r.fs.length x.p.fc, .slice x.p.ra x.v.r.rs.length x.p.rc, .bool x.v.gone,
    .string y.v.r.id, .int .i64 y.v.r.cats, .slice y.p.fa y.v.r.fs.length y.p.fc, .slice y.p.ra y.v.r.rs.length y.p.rc, .bool y.v.gone] 55)) (some ⟨w.heap.size, 0, none⟩) 2 [x.v, y.v] := by
  have hb := (Below.refl w.heap.size w).alloc (Nat.le_refl _) (.cells #[.string x.v.r.id, .int .i64 x.v.r.cats, .slice x.p.fa x.v.r.fs.length x.p.fc, .slice x.p.ra x.v.r.rs.length x.p.rc, .bool x.v.gone,
    .string y.v.r.id, .int .i64 y.v.r.cats, .slice y.p.fa y.v.r.fs.length y.p.fc, .slice y.p.ra y.v.r.rs.length y.p.rc, .bool y.v.gone] 55)
  refine ⟨[x, y], rfl, rfl, fun k z hk => ?_⟩
  match k, hk with
  | 0, hk =>
    simp only [List.getElem?_cons_zero, Option.some.injEq] at hk
    subst hk
    exact ⟨h.below hb, w.heap.size, 0, rfl, by simp [go_sem], by simp [go_sem], by simp [go_sem], by simp [go_sem], by simp [go_sem]⟩
  | 1, hk =>
    simp only [List.getElem?_cons_succ, List.getElem?_cons_zero, Option.some.injEq] at hk
    subst hk
    exact ⟨hy.below hb, w.heap.size, 0, rfl, by simp [go_sem], by simp [go_sem], by simp [go_sem], by simp [go_sem], by simp [go_sem]⟩
  | k + 2, hk => simp at hk
theorem OwnS.at_ {B : Nat} {w : World} {A : Option Addr} {k c : Nat} {L : List ByteArray} (h : OwnS B w (.slice A k c) L) (hl : L.length = k) : SlS w A L ∧ k ≤ c ∧ c ≤ maxLen := by
  subst hl
  exact OwnS.sl h
end Go.Proofs.YteimdhkajbldjaaGreat
