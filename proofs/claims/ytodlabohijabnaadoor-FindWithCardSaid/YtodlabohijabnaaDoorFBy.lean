/- The contract of find.By. -/
import Derived.Test.YtodlabohijabnaaDoorFNames
import Derived.Test.YtodlabohijabnaaDoorLRecs
set_option linter.unusedVariables false
set_option linter.unusedSimpArgs false
set_option maxRecDepth 100000
namespace Go.Proofs.YtodlabohijabnaaDoor
open Go.RowKit Go.Sort Go.Maps

def StrsTo (L : List ByteArray) (er : Int) (w : World) (e : Ending) (w' : World) : Prop := ∃ A k c, e = .returned (.tuple #[.slice A k c, .int .i64 er]) ∧ L.length = k ∧ OwnS w.heap.size w' (.slice A k c) L ∧ Below w.heap.size w w'

theorem byClos_is {b : Bool} (b0 : Nat) (f : FieldL) (x : RC) (w : World) (h0 : w.cell? ⟨b0, 0, none⟩ = some (.string f.key)) (h1 : w.cell? ⟨b0, 1, none⟩ = some (.string f.val)) (hi : x.r.in_ x.p w) (hb : hasF f x.r = b) :
    Calls Tryd.prog 46 #[x.r.v x.p, .pointer (some ⟨b0, 0, none⟩)] w fun e w' => e = .returned (.bool b) ∧ Below w.heap.size w w' := by
  have hbx := rcBox_below x w
  have HC := Lib.hid (containsF_is x.p.fa x.r.fs x.p.fc f (rcBox x w) ((hi.below hbx).hf) (Nat.le_trans hi.fl hi.fm) (b := b) hb)
  have HB := Lib.hid hbx
  have hl := cell_lt h0
  have k0 : (rcBox x w).cell? ⟨b0, 0, none⟩ = some (.string f.key) := (hbx.cell (p := ⟨b0, 0, none⟩) hl).trans h0
  have k1 : (rcBox x w).cell? ⟨b0, 1, none⟩ = some (.string f.val) := (hbx.cell (p := ⟨b0, 1, none⟩) hl).trans h1
  clear h0 h1 hi hb hbx
  go_enter Tryd.func46, Tryd.ntmps46
  go_wp2_with fail
  refine HC.out.mono ?_
  rintro e w1 ⟨rfl, hb1⟩
  have HB1 := Lib.hid (HB.out.trans (hb1.mono HB.out.size))
  clear hb1
  go_wp2_with fail
  go_ret
  exact ⟨rfl, HB1.out⟩

set_option maxHeartbeats 2000000 in
theorem by_is {n : Nat} {er : Int} {L : List ByteArray} {a : Option Addr} {vs : List VerL} (c : Nat) (f : FieldL) (w : World) (h : VsAt w a n vs) (hm : n ≤ maxLen) (hL : byR vs f = L) (he : byErr vs f = er) :
    Calls Tryd.prog 11 #[.slice a n c, f.v] w (StrsTo L er w) := by
  have hA : Below w.heap.size w (w.alloc (.cells #[.string f.key, .string f.val] 24)) := (Below.refl _ _).alloc (Nat.le_refl _) _
  have HA := Lib.hid hA
  by_cases hst : stErr vs = 0
  · have HC := Lib.hid (recs_ok_is c _ (h.below hA) hst)
    have HST := Lib.hid hst
    by_cases hf : isFd f = true
    · have he0 : byErr vs f = 0 := by unfold byErr; rw [if_neg (fun k => k hst), if_pos hf]
      rw [he0] at he
      subst he
      have hL2 : byL vs f = L := by unfold byR at hL; rwa [if_pos he0] at hL
      have HL := Lib.hid hL2
      unfold isFd at hf
      rw [Bool.and_eq_true] at hf
      obtain ⟨hk, hv⟩ := hf
      clear h hm hL hst hL2 hA he0
      go_enter Tryd.func11, Tryd.ntmps11
      go_wp2_with fail
      refine HC.out.mono ?_
      rintro e w1 ⟨A1, l, c1, rfl, hlr, hsl, hll, hb1⟩
      have k0 : w1.cell? ⟨w.heap.size, 0, none⟩ = some (.string f.key) := (hb1.cell (p := ⟨w.heap.size, 0, none⟩) (by simp)).trans (by simp [go_sem])
      have k1 : w1.cell? ⟨w.heap.size, 1, none⟩ = some (.string f.val) := (hb1.cell (p := ⟨w.heap.size, 1, none⟩) (by simp)).trans (by simp [go_sem])
      have HLR := Lib.hid hlr
      have HSL := Lib.hid hsl
      have HLL := Lib.hid hll
      have HB1 := Lib.hid (HA.out.trans (hb1.mono HA.out.size))
      have HK1 := Lib.hid (show isNm f.key = true from hk)
      have HV1 := Lib.hid (show isVl f.val = true from hv)
      clear hlr hsl hll hb1 HC hk hv
      go_wp2_with fail
      refine (id_is f.key _ HK1.out).mono ?_
      rintro e w2 ⟨rfl, hb2⟩
      have q0 := (hb2.cell (p := ⟨w.heap.size, 0, none⟩) (cell_lt k0)).trans k0
      have q1 := (hb2.cell (p := ⟨w.heap.size, 1, none⟩) (cell_lt k0)).trans k1
      have HSL2 := Lib.hid (HSL.out.below hb2)
      have HB2 := Lib.hid (HB1.out.trans (hb2.mono HB1.out.size))
      clear hb2 k0 k1
      go_wp2_with fail
      refine (value_is f.val _ HV1.out).mono ?_
      rintro e w3 ⟨rfl, hb3⟩
      have r0 := (hb3.cell (p := ⟨w.heap.size, 0, none⟩) (cell_lt q0)).trans q0
      have r1 := (hb3.cell (p := ⟨w.heap.size, 1, none⟩) (cell_lt q0)).trans q1
      have HSL3 := Lib.hid (HSL2.out.below hb3)
      have HB3 := Lib.hid (HB2.out.trans (hb3.mono HB2.out.size))
      have hnm := namesBy w.heap.size (hasF f) A1 l c1 w3 HSL3.out HLL.out (fun W x hW hx => by
        obtain ⟨j, hj⟩ := List.getElem?_of_mem hx
        exact byClos_is w.heap.size f x W ((hW.cell (p := ⟨w.heap.size, 0, none⟩) (cell_lt r0)).trans r0) ((hW.cell (p := ⟨w.heap.size, 1, none⟩) (cell_lt r0)).trans r1) (((HSL3.out j x hj).1).below hW) rfl)
      rw [HLR.out, show ((recs vs).filter (hasF f)).map (·.id) = L from HL.out] at hnm
      have HNM := Lib.hid hnm
      clear hb3 q0 q1 r0 r1 hnm
      go_wp2_with fail
      refine HNM.out.mono ?_
      rintro e w4 ⟨A4, c4, rfl, ho4, hb4⟩
      have HO4 := Lib.hid (own_low ho4 HB3.out.size)
      have HB4 := Lib.hid (HB3.out.trans (hb4.mono HB3.out.size))
      clear ho4 hb4
      go_wp2_with fail
      go_ret2
      exact ⟨A4, _, c4, rfl, rfl, HO4.out, HB4.out⟩
    · have he0 : byErr vs f = 3 := by unfold byErr; rw [if_neg (fun k => k hst), if_neg hf]
      rw [he0] at he
      subst he
      have hL2 : L = [] := by rw [← hL]; unfold byR; rw [if_neg (by rw [he0]; decide)]
      subst hL2
      have hf2 : isFd f = false := by simpa using hf
      unfold isFd at hf2
      clear h hm hL hst hA he0 hf
      go_enter Tryd.func11, Tryd.ntmps11
      go_wp2_with fail
      refine HC.out.mono ?_
      rintro e w1 ⟨A1, l, c1, rfl, hlr, hsl, hll, hb1⟩
      have k0 : w1.cell? ⟨w.heap.size, 0, none⟩ = some (.string f.key) := (hb1.cell (p := ⟨w.heap.size, 0, none⟩) (by simp)).trans (by simp [go_sem])
      have k1 : w1.cell? ⟨w.heap.size, 1, none⟩ = some (.string f.val) := (hb1.cell (p := ⟨w.heap.size, 1, none⟩) (by simp)).trans (by simp [go_sem])
      have HB1 := Lib.hid (HA.out.trans (hb1.mono HA.out.size))
      clear hlr hsl hll hb1 HC
      cases hk : isNm f.key with
      | false =>
        have HK1 := Lib.hid hk
        clear hf2 hk
        go_wp2_with fail
        refine (id_is f.key _ HK1.out).mono ?_
        rintro e w2 ⟨rfl, hb2⟩
        have HB2 := Lib.hid (HB1.out.trans (hb2.mono HB1.out.size))
        clear hb2
        go_wp2_with fail
        go_ret2
        exact ⟨none, 0, 0, rfl, rfl, World.ownsRow_nil _ _ _ _, HB2.out⟩
      | true =>
        have HK1 := Lib.hid hk
        have HV1 : Hid (isVl f.val = false) := by show isVl f.val = false; rw [hk] at hf2; simpa using hf2
        clear hf2 hk
        go_wp2_with fail
        refine (id_is f.key _ HK1.out).mono ?_
        rintro e w2 ⟨rfl, hb2⟩
        have q0 := (hb2.cell (p := ⟨w.heap.size, 0, none⟩) (cell_lt k0)).trans k0
        have q1 := (hb2.cell (p := ⟨w.heap.size, 1, none⟩) (cell_lt k0)).trans k1
        have HB2 := Lib.hid (HB1.out.trans (hb2.mono HB1.out.size))
        clear hb2 k0 k1
        go_wp2_with fail
        refine (value_is f.val _ HV1.out).mono ?_
        rintro e w3 ⟨rfl, hb3⟩
        have HB3 := Lib.hid (HB2.out.trans (hb3.mono HB2.out.size))
        clear hb3
        go_wp2_with fail
        go_ret2
        exact ⟨none, 0, 0, rfl, rfl, World.ownsRow_nil _ _ _ _, HB3.out⟩
  · obtain ⟨er2, her⟩ : ∃ er2, stErr vs = er2 := ⟨_, rfl⟩
    have he0 : byErr vs f = er2 := by unfold byErr; rw [if_pos hst, her]
    rw [he0] at he
    subst he
    have hne : er2 ≠ 0 := by rw [← her]; exact hst
    have hL2 : L = [] := by rw [← hL]; unfold byR; rw [if_neg (by rw [he0]; exact hne)]
    subst hL2
    have HC := Lib.hid (recs_no c _ (h.below hA) hm her hne)
    have h1 : (er2 == 0) = false := by simpa using hne
    have h2 : (er2 != 0) = true := by simpa using hne
    clear h hm hL hst hA he0 her
    go_enter Tryd.func11, Tryd.ntmps11
    go_wp2_with fail
    refine HC.out.mono ?_
    rintro e w1 ⟨rfl, hb1⟩
    have HB1 := Lib.hid (HA.out.trans (hb1.mono HA.out.size))
    clear hb1
    go_wp2_with fail
    go_ret2
    exact ⟨none, 0, 0, rfl, rfl, World.ownsRow_nil _ _ _ _, HB1.out⟩
end Go.Proofs.YtodlabohijabnaaDoor
