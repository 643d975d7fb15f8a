/- The contract of find.With. -/
import Derived.Test.YtodlabohijabnaaDoorFBy
set_option linter.unusedVariables false
set_option linter.unusedSimpArgs false
set_option maxRecDepth 100000
namespace Go.Proofs.YtodlabohijabnaaDoor
open Go.RowKit Go.Sort Go.Maps

/-- a map of names to whether they are asked for -/
structure Wants (w : World) (b n : Nat) (g : ByteArray → Bool) : Prop where
  m : ∃ D : DataW Unit, w.ownsMap Tryd.prog 9 (plainElem Tryd.prog 4) b n D ∧ ∀ s : ByteArray, D.atKey (strK s) (.lit (.bool false)) = .lit (.bool (g s))
theorem Wants.below {w w' : World} {b n : Nat} {g : ByteArray → Bool} (h : Wants w b n g) (hb : Below w.heap.size w w') : Wants w' b n g := by
  obtain ⟨D, h1, k1⟩ := h.m
  exact ⟨D, h1.kept (grown_of_below hb) (by simp), k1⟩
theorem Wants.congr {w : World} {b n : Nat} {g g' : ByteArray → Bool} (h : Wants w b n g) (e : ∀ s, g s = g' s) : Wants w b n g' := by
  have : g = g' := funext e
  rw [← this]
  exact h
theorem Wants.lt {w : World} {b n : Nat} {g : ByteArray → Bool} (h : Wants w b n g) : b < w.heap.size := by
  obtain ⟨D, h1, _⟩ := h.m
  exact h1.lt
theorem wants_made (w : World) : Wants (w.alloc (.map #[] 0)) w.heap.size 0 (fun _ => false) := ⟨⟨.map [], World.ownsMap_made w _ _ _, fun s => rfl⟩⟩
theorem Wants.look {w : World} {b n : Nat} {g : ByteArray → Bool} (h : Wants w b n g) {s : ByteArray} (hs : s.size ≤ maxLen) :
    (Instr.lookup 80 (.map (some b)) (.string s) false).run Tryd.prog w = .ok (.bool (g s)) w := by
  obtain ⟨D, h1, k1⟩ := h.m
  obtain ⟨v, ps, hrun, hv⟩ := h1.lookup lawStr Tryd.underlying80 (zeroBool w) (plainElem_bool Tryd.underlying4 false) (keyStr hs)
  obtain ⟨x, rfl, hx⟩ := plainElem_bool_inv Tryd.underlying4 hv
  simp only [Prod.mk.injEq] at hx
  rw [k1 s] at hx
  have := hx.1
  cases this
  exact hrun
theorem Wants.note {w : World} {b n : Nat} {g : ByteArray → Bool} (h : Wants w b n g) (hn : n < maxLen) {s : ByteArray} (hs : s.size ≤ maxLen) :
    ∃ w', (Instr.mapUpdate 80 (.map (some b)) (.string s) (.bool true)).run Tryd.prog w = .ok () w' ∧ Hid (Wants w' b (n + 1) (fun t => g t || sEq t s)) ∧ Hid (w.grownBy w' (some b)) := by
  obtain ⟨D, h1, k1⟩ := h.m
  obtain ⟨w', hrun, ho, hg⟩ := h1.update lawStr Tryd.underlying80 hn (keyStr hs) (plainElem_bool Tryd.underlying4 true)
  refine ⟨w', hrun, ⟨⟨_, ho, fun t => ?_⟩⟩, hg⟩
  by_cases e : t = s
  · subst e
    rw [sEq_iff.2 rfl, Bool.or_true]
    exact atKey_put_same h1.isMap (lawStr.key (keyStr hs)) _ _
  · rw [sEq_false.2 e, Bool.or_false, atKey_put_other (fun ek => e (strK_inj ek))]
    exact k1 t

theorem Wants.not_cell {w : World} {b n k o : Nat} {g : ByteArray → Bool} {v : Value} (h : Wants w b n g) (hc : w.cell? ⟨k, o, none⟩ = some v) : k ≠ b := fun e => by
  obtain ⟨D, ⟨es, clock, hb, _⟩, _⟩ := h.m
  subst e
  simp [World.cell?, hb] at hc
theorem SlS.mapped {w w' : World} {a : Option Addr} {ids : List ByteArray} {b n : Nat} {g : ByteArray → Bool} (h : SlS w a ids) (hw : Wants w b n g) (hg : w.grownBy w' (some b)) : SlS w' a ids := fun k s hk => by
  obtain ⟨b', off, e, hc⟩ := h k s hk
  exact ⟨b', off, e, (cell_grown hg (cell_lt hc) (hw.not_cell hc)).trans hc⟩

theorem withClos_is {b0 bm n : Nat} {g : ByteArray → Bool} {t : Bool} (x : RC) (w : World) (h0 : w.cell? ⟨b0, 0, none⟩ = some (.map (some bm))) (hw : Wants w bm n g) (hs : x.r.id.size ≤ maxLen) (ht : g x.r.id = t) :
    Calls Tryd.prog 48 #[x.r.v x.p, .pointer (some ⟨b0, 0, none⟩)] w fun e w' => e = .returned (.bool t) ∧ Below w.heap.size w w' := by
  have hbx := rcBox_below x w
  have HB := Lib.hid hbx
  have hl := cell_lt h0
  have k0 : (rcBox x w).cell? ⟨b0, 0, none⟩ = some (.map (some bm)) := (hbx.cell (p := ⟨b0, 0, none⟩) hl).trans h0
  have hlk := (hw.below hbx).look hs
  rw [ht] at hlk
  clear h0 hw hs ht hbx
  go_enter Tryd.func48, Tryd.ntmps48
  go_wp2_with fail
  go_ret
  exact ⟨rfl, HB.out⟩

theorem wantB_snoc (l : List RecL) (r : RecL) (ids : List ByteArray) (s : ByteArray) : wantB (l ++ [r]) ids s = (wantB l ids s || (memS ids r.id && (sEq s r.id || memS r.rs s))) := by
  unfold wantB
  rw [List.any_append]
  simp
theorem memS_snoc (l : List ByteArray) (x s : ByteArray) : memS (l ++ [x]) s = (memS l s || sEq s x) := by
  unfold memS
  rw [List.any_append]
  simp
  rw [Bool.eq_iff_iff]
  simp only [Bool.or_eq_true, sEq_iff]
  exact ⟨fun h => h.imp id Eq.symm, fun h => h.imp id Eq.symm⟩
theorem memS_nil (s : ByteArray) : memS [] s = false := rfl

set_option maxHeartbeats 8000000 in
theorem fwith_ok {n m : Nat} {L : List ByteArray} {a a2 : Option Addr} {vs : List VerL} (c c2 : Nat) (ids : List ByteArray) (w : World) (h : VsAt w a n vs) (hst : stErr vs = 0) (hs : SlS w a2 ids) (hl : ids.length = m) (hm : m ≤ 60) (hL : withL vs ids = L) :
    Calls Tryd.prog 12 #[.slice a n c, .slice a2 m c2] w (StrsTo L 0 w) := by
  have HC := Lib.hid (recs_ok_is c _ h hst)
  have hok := (stErr_ok.1 hst).2
  have HRO := Lib.hid (recs_ok hok)
  have HS := Lib.hid hs
  have HL := Lib.hid hl
  have HLL := Lib.hid hL
  have hmm := @run_makeMap Tryd.prog
  clear h hst hs hl hL hok
  go_enter Tryd.func12, Tryd.ntmps12
  go_wp2_with fail
  refine HC.out.mono ?_
  rintro e w1 ⟨A1, l, c1, rfl, hlr, hsl, hll, hb1⟩
  have HLR := Lib.hid hlr
  have HSL := Lib.hid hsl
  have HB1 := Lib.hid hb1
  have HLN := Lib.hid hll
  obtain ⟨N, hN⟩ : ∃ N, l.length = N := ⟨_, rfl⟩
  have HN := Lib.hid hN
  rw [hN] at hll ⊢
  have HW0 := Lib.hid (wants_made w1)
  obtain ⟨bm, hbm⟩ : ∃ bm, bm = w1.heap.size := ⟨_, rfl⟩
  clear hlr hsl hb1 HC hN
  go_wp2_with fail
  obtain ⟨W2, hW2⟩ : ∃ W2, W2 = (w1.alloc (.map #[] 0)).alloc (.cells #[.map (some w1.heap.size)] 80) := ⟨_, rfl⟩
  have hA2 : Below w1.heap.size w1 W2 := by rw [hW2]; exact ((Below.refl _ _).alloc (Nat.le_refl _) _).alloc (by simp) _
  have hbox : W2.cell? ⟨w1.heap.size + 1, 0, none⟩ = some (.map (some w1.heap.size)) := by rw [hW2]; simp [go_sem]
  have hwt : Wants W2 w1.heap.size 0 (fun _ => false) := by rw [hW2]; exact HW0.out.below ((Below.refl _ _).alloc (Nat.le_refl _) _)
  rw [← hW2]
  have HA2 := Lib.hid hA2
  have HBOX := Lib.hid hbox
  have HWT := Lib.hid hwt
  clear hW2 hA2 hbox hwt hbm HW0
  go_loopw [27] (fun i wr => ∃ (k q : Nat), k ≤ N ∧ i = .int .i64 k ∧ q ≤ k * 5 ∧ Hid (Wants wr w1.heap.size q (wantB ((l.map (·.r)).take k) ids)) ∧ Hid (wr.cell? ⟨w1.heap.size + 1, 0, none⟩ = some (.map (some w1.heap.size))) ∧ Hid (Below w1.heap.size w1 wr)) (fun i _ => N - (intOf i).toNat)
  case atStart => exact ⟨0, 0, Nat.zero_le _, rfl, Nat.zero_le _, HWT.out, HBOX.out, HA2.out⟩
  case round =>
    obtain ⟨k, q, hk, rfl, hq, HW, HBX, HB⟩ := hrel
    by_cases hlt : k < N
    · obtain ⟨x, hx⟩ : ∃ x, l[k]? = some x := ⟨_, List.getElem?_eq_getElem (by rw [HN.out]; exact hlt)⟩
      have hv : (l.map (·.r))[k]? = some x.r := by rw [List.getElem?_map, hx]; rfl
      have htk := take_snoc hv
      obtain ⟨hin, b, off, rfl, d0, d1, d2, d3⟩ := (HSL.out.below HB.out) k x hx
      have hxo : x.r.Ok := HRO.out x.r (by rw [← HLR.out]; exact List.mem_map_of_mem (List.mem_of_getElem? hx))
      have hxi := nm_max hxo.id
      have i1 : (0 : Int) ≤ (k : Int) := by omega
      have i2 : (k : Int) < (N : Int) := by omega
      have hbx := rcBox_below x wr
      have HTK := Lib.hid htk
      have HIN := Lib.hid (hin.below hbx)
      have HXO := Lib.hid hxo
      have HXI := Lib.hid hxi
      obtain ⟨t, ht⟩ : ∃ t, memS ids x.r.id = t := ⟨_, rfl⟩
      have HT := Lib.hid ht
      have hwr1 : Below w.heap.size w (rcBox x wr) := (HB1.out.trans (HB.out.mono HB1.out.size)).trans (hbx.mono (HB1.out.trans (HB.out.mono HB1.out.size)).size)
      have HCT := Lib.hid (contains_is (b := t) a2 ids c2 x.r.id (rcBox x wr) (HS.out.below hwr1) HL.out (by unfold maxLen; omega) (by rw [← ht]; exact memS_iff.symm))
      have HBr := Lib.hid (HB.out.trans (hbx.mono HB.out.size))
      have HW1 := Lib.hid (HW.out.below hbx)
      have HBX1 := Lib.hid ((hbx.cell (p := ⟨w1.heap.size + 1, 0, none⟩) (cell_lt HBX.out)).trans HBX.out)
      clear hx hv htk hin hxo hxi hbx ht hwr1
      go_wp2_with fail
      refine HCT.out.mono ?_
      rintro e w2 ⟨rfl, hb2⟩
      have hsz2 : wr.heap.size < w2.heap.size := by have := hb2.size; simp at this; omega
      obtain ⟨hc2, hf2⟩ := bcell hb2
      have a0 : w2.cell? ⟨wr.heap.size, 0, none⟩ = some (.string x.r.id) := by rw [hc2 _ _ (by simp)]; simp [go_sem]
      have a3 : w2.cell? ⟨wr.heap.size, 3, none⟩ = some (.slice x.p.ra x.r.rs.length x.p.rc) := by rw [hc2 _ _ (by simp)]; simp [go_sem]
      have HW2 := Lib.hid (HW1.out.below hb2)
      have bx2 := (hb2.cell (p := ⟨w1.heap.size + 1, 0, none⟩) (cell_lt HBX1.out)).trans HBX1.out
      have HB2 := Lib.hid (HBr.out.trans (hb2.mono HBr.out.size))
      have HIN2 := Lib.hid (HIN.out.below hb2)
      clear hb2 hc2 hf2 HCT d0 d1 d2 d3 HW1 HBX1 HIN
      cases t with
      | false =>
        go_wp2_with fail
        go_roundw
        case rel =>
          refine ⟨k + 1, q, by omega, by go_num, by omega, (show Wants _ _ _ _ from HW2.out.congr fun s => ?_), bx2, HB2.out⟩
          rw [HTK.out, wantB_snoc, HT.out]
          simp
        case measure => simp [intOf]; omega
      | true =>
        obtain ⟨w3, hst3, HW3, HG3⟩ := HW2.out.note (show q < maxLen by unfold maxLen; omega) HXI.out
        have b3 : w3.cell? ⟨w1.heap.size + 1, 0, none⟩ = some (.map (some w1.heap.size)) := (cell_grown HG3.out (cell_lt bx2) (HW2.out.not_cell bx2)).trans bx2
        have c3 : w3.cell? ⟨wr.heap.size, 3, none⟩ = some (.slice x.p.ra x.r.rs.length x.p.rc) := (cell_grown HG3.out (cell_lt a3) (HW2.out.not_cell a3)).trans a3
        have hgB : Below w1.heap.size w1 w3 := HB2.out.grown HG3.out HB2.out.size (fun j hj => by cases hj; exact Nat.le_refl _)
        have hnr : x.r.rs.length ≤ 4 := HXO.out.nr
        have HSR := Lib.hid (HIN2.out.hr.mapped HW2.out HG3.out)
        obtain ⟨M, hM⟩ : ∃ M, x.r.rs.length = M := ⟨_, rfl⟩
        have HM := Lib.hid hM
        rw [hM] at hnr c3 a3
        have HB3 := Lib.hid hgB
        have HC3 := Lib.hid c3
        have HBX3 := Lib.hid b3
        clear hM hgB HW2 HIN2 HB2
        go_wp2_with fail
        clear hst3
        go_loopw [42] (fun i wi => ∃ (j q' : Nat), j ≤ M ∧ i = .int .i64 j ∧ q' ≤ k * 5 + 1 + j ∧ Hid (Wants wi w1.heap.size q' (fun s => (wantB ((l.map (·.r)).take k) ids s || sEq s x.r.id) || memS (x.r.rs.take j) s)) ∧ Hid (wi.cell? ⟨w1.heap.size + 1, 0, none⟩ = some (.map (some w1.heap.size))) ∧ Hid (SlS wi x.p.ra x.r.rs) ∧ Hid (Below w1.heap.size w1 wi)) (fun i _ => M - (intOf i).toNat)
        case atStart => exact ⟨0, q + 1, Nat.zero_le _, rfl, by omega, (show Wants _ _ _ _ from HW3.out.congr fun s => by simp [memS_nil]), HBX3.out, HSR.out, HB3.out⟩
        case round =>
          obtain ⟨j, q', hj, rfl, hq', HWI, HBI, HSI, HB4⟩ := hrel
          by_cases hjm : j < M
          · obtain ⟨s, hs⟩ : ∃ s, x.r.rs[j]? = some s := ⟨_, List.getElem?_eq_getElem (by rw [HM.out]; exact hjm)⟩
            obtain ⟨bs, os, hra, hc⟩ := HSI.out j s hs
            rw [hra]
            have hsn : s.size ≤ maxLen := nm_max (HXO.out.rs j s (by rw [HM.out]; exact hjm) hs).1
            have hts := take_snoc hs
            have j1 : (0 : Int) ≤ (j : Int) := by omega
            have j2 : (j : Int) < (M : Int) := by omega
            obtain ⟨w5, hst5, HW5, HG5⟩ := HWI.out.note (show q' < maxLen by unfold maxLen; omega) hsn
            have HBI5 := Lib.hid ((cell_grown HG5.out (cell_lt HBI.out) (HWI.out.not_cell HBI.out)).trans HBI.out)
            have HSI5 := Lib.hid (HSI.out.mapped HWI.out HG5.out)
            have HB5 := Lib.hid (HB4.out.grown HG5.out HB4.out.size (fun jj hjj => by cases hjj; exact Nat.le_refl _))
            have bx5 := HBI.out
            have HTS := Lib.hid hts
            have HRA := Lib.hid hra
            clear hs hsn hts hra
            go_wp2_with fail
            go_roundw
            case rel =>
              refine ⟨j + 1, q' + 1, by omega, by go_num, by omega, (show Wants _ _ _ _ from HW5.out.congr fun u => ?_), HBI5.out, (show SlS w5 (some ⟨bs, os, none⟩) x.r.rs by rw [← HRA.out]; exact HSI5.out), HB5.out⟩
              rw [HTS.out, memS_snoc, Bool.or_assoc]
            case measure => simp [intOf]; omega
          · obtain rfl : j = M := by omega
            have hall : x.r.rs.take j = x.r.rs := List.take_of_length_le (by rw [HM.out]; exact Nat.le_refl _)
            have HAL := Lib.hid hall
            clear hall hjm
            go_wp2_with fail
            go_roundw
            case rel =>
              refine ⟨k + 1, q', by omega, by go_num, by omega, (show Wants _ _ _ _ from HWI.out.congr fun u => ?_), HBI.out, HB4.out⟩
              rw [HAL.out, HTK.out, wantB_snoc, HT.out, Bool.or_assoc]
              rfl
            case measure => simp [intOf]; omega
    · obtain rfl : k = N := by omega
      have hall : (l.map (·.r)).take k = recs vs := by rw [List.take_of_length_le (by rw [List.length_map, HN.out]; exact Nat.le_refl _)]; exact HLR.out
      have HW9 : Hid (Wants wr w1.heap.size q (wantB (recs vs) ids)) := by show Wants _ _ _ _; rw [← hall]; exact HW.out
      have hnm := namesWith (w1.heap.size + 1) (fun r => wantB (recs vs) ids r.id) A1 l c1 wr (HSL.out.below HB.out) HLN.out (fun W x hW hx => by
        have hxo : x.r.Ok := HRO.out x.r (by rw [← HLR.out]; exact List.mem_map_of_mem hx)
        exact withClos_is x W ((hW.cell (p := ⟨w1.heap.size + 1, 0, none⟩) (cell_lt HBX.out)).trans HBX.out) (HW9.out.below hW) (nm_max hxo.id) rfl)
      rw [HLR.out, show ((recs vs).filter (fun r => wantB (recs vs) ids r.id)).map (·.id) = L from HLL.out, HN.out] at hnm
      have HNM := Lib.hid hnm
      have HBw := Lib.hid (HB1.out.trans (HB.out.mono HB1.out.size))
      clear hnm hall hlt
      go_wp2_with fail
      refine HNM.out.mono ?_
      rintro e w4 ⟨A4, c4, rfl, ho4, hb4⟩
      have HO4 := Lib.hid (own_low ho4 HBw.out.size)
      have HB4 := Lib.hid (HBw.out.trans (hb4.mono HBw.out.size))
      clear ho4 hb4
      go_wp2_with fail
      go_ret2
      exact ⟨A4, _, c4, rfl, rfl, HO4.out, HB4.out⟩

set_option maxHeartbeats 2000000 in
theorem with_is {n m : Nat} {er : Int} {L : List ByteArray} {a a2 : Option Addr} {vs : List VerL} (c c2 : Nat) (ids : List ByteArray) (w : World) (h : VsAt w a n vs) (hn : n ≤ maxLen) (hs : SlS w a2 ids) (hl : ids.length = m) (hL : withR vs ids = L) (he : withErr vs ids = er) :
    Calls Tryd.prog 12 #[.slice a n c, .slice a2 m c2] w (StrsTo L er w) := by
  by_cases hst : stErr vs = 0
  · by_cases hm : 60 < m
    · have he0 : withErr vs ids = 2 := by unfold withErr; rw [if_neg (fun k => k hst), if_pos (by rw [hl]; exact hm)]
      rw [he0] at he
      subst he
      have hL2 : L = [] := by rw [← hL]; unfold withR; rw [if_neg (by rw [he0]; decide)]
      subst hL2
      have HC := Lib.hid (recs_ok_is c _ h hst)
      clear h hs hl hL hst he0 hn
      go_enter Tryd.func12, Tryd.ntmps12
      go_wp2_with fail
      refine HC.out.mono ?_
      rintro e w1 ⟨A1, l, c1, rfl, hlr, hsl, hll, hb1⟩
      have HB1 := Lib.hid hb1
      clear hlr hsl hll hb1 HC
      go_wp2_with fail
      go_ret2
      exact ⟨none, 0, 0, rfl, rfl, World.ownsRow_nil _ _ _ _, HB1.out⟩
    · have he0 : withErr vs ids = 0 := by unfold withErr; rw [if_neg (fun k => k hst), if_neg (by rw [hl]; exact hm)]
      rw [he0] at he
      subst he
      have hL2 : withL vs ids = L := by unfold withR at hL; rwa [if_pos he0] at hL
      exact fwith_ok c c2 ids w h hst hs hl (by omega) hL2
  · obtain ⟨er2, her⟩ : ∃ er2, stErr vs = er2 := ⟨_, rfl⟩
    have he0 : withErr vs ids = er2 := by unfold withErr; rw [if_pos hst, her]
    rw [he0] at he
    subst he
    have hne : er2 ≠ 0 := by rw [← her]; exact hst
    have hL2 : L = [] := by rw [← hL]; unfold withR; rw [if_neg (by rw [he0]; exact hne)]
    subst hL2
    have HC := Lib.hid (recs_no c w h hn her hne)
    have h1 : (er2 == 0) = false := by simpa using hne
    have h2 : (er2 != 0) = true := by simpa using hne
    clear h hs hl hL hst he0 her hn
    go_enter Tryd.func12, Tryd.ntmps12
    go_wp2_with fail
    refine HC.out.mono ?_
    rintro e w1 ⟨rfl, hb1⟩
    have HB1 := Lib.hid hb1
    clear hb1
    go_wp2_with fail
    go_ret2
    exact ⟨none, 0, 0, rfl, rfl, World.ownsRow_nil _ _ _ _, HB1.out⟩
end Go.Proofs.YtodlabohijabnaaDoor
