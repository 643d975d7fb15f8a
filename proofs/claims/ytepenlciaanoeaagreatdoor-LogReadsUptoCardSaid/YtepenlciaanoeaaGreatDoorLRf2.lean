/- The document's answer on logs: the contract of wyref.nums. -/
import Derived.Test.YtepenlciaanoeaaGreatDoorLRdA
import Derived.Test.YtepenlciaanoeaaGreatDoorLKept
set_option linter.unusedVariables false
set_option linter.unusedSimpArgs false
set_option maxRecDepth 100000
namespace Go.Proofs.YtepenlciaanoeaaGreatDoor
open Go.RowKit Go.Sort

/-- v owns, from block B on, these numbers -/
def OwnZ (B : Nat) (w : World) (v : Value) (l : List Int) : Prop := w.ownsRow B 3 1 v l.length (l.map (Value.int .i64))
theorem OwnZ.form {B : Nat} {w : World} {v : Value} {l : List Int} (h : OwnZ B w v l) : ∃ A c, v = .slice A l.length c := by
  rcases h.2 with ⟨e, h0⟩ | ⟨g, cap, cur, e, _⟩
  · exact ⟨none, 0, by rw [e, h0]⟩
  · exact ⟨_, _, e⟩
theorem OwnZ.sl {B : Nat} {w : World} {A : Option Addr} {n c : Nat} {l : List Int} (h : OwnZ B w (.slice A n c) l) : Sl w A l.length (fun k => l.getD k 0) ∧ l.length = n ∧ n ≤ c ∧ c ≤ maxLen := by
  rcases h.2 with ⟨e, h0⟩ | ⟨g, cap, cur, e, hlo, hg, h1, h2, h3, h4⟩
  · cases e
    exact ⟨fun k hk => by omega, h0, Nat.le_refl _, Nat.zero_le _⟩
  · cases e
    refine ⟨fun k hk => ⟨g, 0, rfl, ?_⟩, rfl, h1, h2⟩
    have hj : (l.map (Value.int .i64))[k]? = some (.int .i64 (l.getD k 0)) := by
      rw [List.getElem?_map, List.getElem?_eq_getElem hk, List.getD, List.getElem?_eq_getElem hk]
      rfl
    have := World.ownsRow.cells h (g := g) rfl _ _ hj
    rw [addr_off] at this
    simpa using this
/-- what wyref.nums answers -/
def RNums (ws : List (List UInt8)) (n : Nat) (w : World) (e : Ending) (w' : World) : Prop :=
  ((∃ l A c, numsL ws = some l ∧ l.length = n ∧ e = .returned (.tuple #[.slice A n c, .bool true]) ∧ Sl w' A n (fun k => l.getD k 0) ∧ n ≤ c ∧ ∀ b off, A = some ⟨b, off, none⟩ → w.heap.size ≤ b) ∨
  (numsL ws = none ∧ e = .returned (.tuple #[.slice none 0 0, .bool false]))) ∧ Below w.heap.size w w'

set_option maxHeartbeats 2000000 in
theorem refNums_any (a : Option Addr) (xs : List ByteArray) (n c : Nat) (w : World) (hs : SlS w a xs) (hn : xs.length = n) (hN : n ≤ 1000) :
    Calls Tryz.prog 173 #[.slice a n c] w (RNums (xs.map fun s => s.data.toList) n w) := by
  obtain ⟨i0, hi0, hz0, hz1, hz2⟩ := info_parts Tryz.infoInt
  have HS := Lib.hid hs
  have HN := Lib.hid hn
  obtain ⟨ws, hws⟩ : ∃ ws, ws = xs.map (fun s => s.data.toList) := ⟨_, rfl⟩
  rw [← hws]
  have HWS := Lib.hid hws
  have HWL := Lib.hid (show ws.length = n by rw [hws, List.length_map, hn])
  clear hs hn hws
  go_enter Tryz.func173, Tryz.ntmps173
  go_wp2_with fail
  go_loopw [4, 11] (fun v i wr => ∃ (k : Nat) (l : List Int) (A : Option Addr) (c' : Nat), k ≤ n ∧ i = .int .i64 k ∧ v = .slice A k c' ∧ Hid (l.length = k ∧ numsL (ws.take k) = some l) ∧ Hid (OwnZ w.heap.size wr (.slice A k c') l) ∧ Hid (Below w.heap.size w wr)) (fun _ i _ => n - (intOf i).toNat)
  case atStart => exact ⟨0, [], none, 0, Nat.zero_le _, rfl, rfl, ⟨rfl, rfl⟩, World.ownsRow_nil _ _ _ _, Below.refl _ _⟩
  case round =>
    obtain ⟨k, l, A, c', hk, rfl, rfl, HL, HO, HB⟩ := hrel
    by_cases hlt : k < n
    · obtain ⟨x, hx⟩ : ∃ x, xs[k]? = some x := ⟨_, List.getElem?_eq_getElem (by rw [HN.out]; exact hlt)⟩
      obtain ⟨b, off, rfl, hc0⟩ := (HS.out.below HB.out) k x hx
      have hwk : ws[k]? = some x.data.toList := by rw [HWS.out, List.getElem?_map, hx]; rfl
      have htk : ws.take (k + 1) = ws.take k ++ [x.data.toList] := by rw [List.take_add_one, hwk]; rfl
      have hsp : ws = ws.take k ++ x.data.toList :: ws.drop (k + 1) := by
        have h1 : k < ws.length := by rw [HWL.out]; exact hlt
        have h2 : ws[k] = x.data.toList := (List.getElem?_eq_some_iff.1 hwk).2
        rw [← h2, ← List.drop_eq_getElem_cons h1, List.take_append_drop]
      have HTK := Lib.hid htk
      have HSP := Lib.hid hsp
      have j1 : (0 : Int) ≤ (k : Int) := by omega
      have j2 : (k : Int) < (n : Int) := by omega
      have hbl := cell_lt hc0
      obtain ⟨R, hR⟩ : ∃ R, numL x.data.toList = R := ⟨_, rfl⟩
      have hnum := refNum_any x wr
      unfold NumTo at hnum
      rw [hR] at hnum
      have HNUM := Lib.hid hnum
      have HR := Lib.hid hR
      clear hx hwk htk hsp hnum hR
      go_wp2_with fail
      refine HNUM.out.mono ?_
      rintro e w1 ⟨⟨m, rfl, hm⟩, hb1⟩
      have HB1 := Lib.hid (HB.out.trans (hb1.mono HB.out.size))
      have HO1 := Lib.hid (show OwnZ w.heap.size w1 (.slice A k c') l from own_below HO.out hb1)
      have HM := Lib.hid hm
      clear hb1 hm
      cases R with
      | none =>
        have hnone : numsL ws = none := by rw [HSP.out]; exact numsL_none_at _ _ HR.out
        go_wp2_with fail
        go_ret2
        exact ⟨.inr ⟨hnone, rfl⟩, HB1.out⟩
      | some z =>
        obtain rfl : m = z := HM.out z rfl
        obtain ⟨w2, hw2⟩ : ∃ w2, w1.alloc (.cells #[.int .i64 m] 3) = w2 := ⟨_, rfl⟩
        have h12 : Below w1.heap.size w1 w2 := hw2 ▸ (Below.refl _ _).alloc (Nat.le_refl _) _
        have HNEW := Lib.hid (show ∀ j u, [Value.int .i64 m][j]? = some u → w2.cell? ((⟨w1.heap.size, 0, none⟩ : Addr).add j) = some u from fun j u hj => by
          match j, hj with
          | 0, hj =>
            cases hj
            rw [addr_off, ← hw2]
            simp [go_sem]
          | j + 1, hj => simp at hj)
        have HO2 := Lib.hid (show OwnZ w.heap.size w2 (.slice A k c') l from own_below HO1.out h12)
        have HB2 := Lib.hid (HB1.out.trans (h12.mono HB1.out.size))
        have hbw : w.heap.size ≤ w2.heap.size := HB2.out.size
        have HW2 := Lib.hid hw2
        have hone : ∀ u ∈ [Value.int .i64 m], u.oneCell' = true := fun u hu => by rw [List.mem_singleton.1 hu]; rfl
        have HONE := Lib.hid hone
        clear hw2 h12 hone
        go_wp2_with (at_builtin; rw [HW2.out]; refine wpList_append_own _ rfl _ _ 22 rfl w.heap.size 3 i0 _ 1 8 Tryz.underlying22 hi0 hz0 hz1 hz2 rfl (by decide) (.slice A k c') k (l.map (Value.int .i64)) rfl (HL.out.1 ▸ HO2.out) ⟨w1.heap.size, 0, none⟩ 1 1 [.int .i64 m] rfl rfl HNEW.out HONE.out (by unfold maxLen; omega) (by omega) hbw ?_; intro v' w3 hown' hgrow hnv)
        have ho3 : OwnZ w.heap.size w3 v' (l ++ [m]) := by
          unfold OwnZ
          rw [List.map_append, List.length_append, HL.out.1]
          exact hown'
        obtain ⟨A3, c3, hv⟩ := ho3.form
        rw [List.length_append, HL.out.1] at hv
        have hv' : v' = .slice A3 (k + 1) c3 := hv
        subst hv'
        have HO3 := Lib.hid ho3
        have HB3 := Lib.hid (show Below w.heap.size w w3 from HB2.out.trans ((Kept.grown (Z := fun z => z < w.heap.size) hgrow fun z hz e => by
          have := (World.ownsRow.lt HO2.out z e.symm).1
          omega).to (fun z hz => hz) hbw))
        have HL3 := Lib.hid (show (l ++ [m]).length = k + 1 ∧ numsL (ws.take (k + 1)) = some (l ++ [m]) from ⟨by rw [List.length_append, HL.out.1]; rfl, by rw [HTK.out]; exact numsL_snoc HL.out.2 HR.out⟩)
        clear hown' hgrow hnv ho3 hv
        go_wp2_with fail
        go_roundw
        case rel => exact ⟨k + 1, l ++ [m], A3, c3, by omega, by go_num, rfl, HL3.out, HO3.out, HB3.out⟩
        case measure => simp [intOf]; omega
    · obtain rfl : k = n := by omega
      have HWF := Lib.hid (show numsL ws = some l from by
        have h := HL.out.2
        rw [List.take_of_length_le (by rw [HWL.out]; exact Nat.le_refl _)] at h
        exact h)
      go_wp2_with fail
      go_ret2
      have hs := HO.out.sl
      exact ⟨.inl ⟨l, A, c', HWF.out, HL.out.1, rfl, hs.2.1 ▸ hs.1, hs.2.2.1, fun b off e => by
        subst e
        exact (World.ownsRow.lt HO.out b rfl).1⟩, HB.out⟩
end Go.Proofs.YtepenlciaanoeaaGreatDoor
