/- StoreChanges' walk. -/
import Derived.Test.YtekjlbbacieafaaDoorSFine
set_option linter.unusedVariables false
set_option linter.unusedSimpArgs false
set_option maxRecDepth 100000
namespace Go.Proofs.YtekjlbbacieafaaDoor
open Go.RowKit Go.Sort

theorem among_bits {k : Int} (h0 : 0 ≤ k) (h1 : k ≤ 255) {s : Nat} (hs : s ≤ 255) : bits .andNot .i64 k (s : Int) = 0 ↔ among k s = true := by
  obtain ⟨n, rfl⟩ := Int.eq_ofNat_of_zero_le h0
  rw [i64_andNot n s (by omega) (by omega)]
  unfold among
  rw [decide_eq_true_eq]
  simp

/-- E, X: what is told of a store with one more; F, Y: of the part; K: of which kinds -/
theorem chg_put {vs : List VerL} {r : RecL} {s : Nat} (hs : s ≤ 255) (hl : vs.length < 5120) (hst : stErr vs = 0) {E F K : Int} {X Y : List VerL} (hE : putErr vs r = E) (hF : putErr (prt vs s) r = F) (hX : putL vs r = X) (hY : putL (prt vs s) r = Y) (hK : r.cats = K) :
    (E ≠ 0 → X = [] ∧ (K < 0 ∨ (0 ≤ K ∧ bits .andNot .i64 K (s : Int) ≠ 0) ∨ (0 ≤ K ∧ bits .andNot .i64 K (s : Int) = 0 ∧ F = E))) ∧
    (E = 0 → stErr X = 0 ∧ ((bits .andNot .i64 K (s : Int) ≠ 0 ∧ prt X s = prt vs s) ∨ (bits .andNot .i64 K (s : Int) = 0 ∧ F = 0 ∧ Y = prt X s))) := by
  have hp := stErr_prt hst s
  subst hE hF hX hY hK
  constructor
  · intro he
    refine ⟨putL_no he, ?_⟩
    by_cases hr : r.err = 0
    · have ho := r.err_ok.1 hr
      by_cases ha : bits .andNot .i64 r.cats (s : Int) = 0
      · refine .inr (.inr ⟨ho.c0, ha, ?_⟩)
        unfold putErr
        rw [if_neg (show ¬ stErr (prt vs s) ≠ 0 from fun k => k hp), if_neg (show ¬ stErr vs ≠ 0 from fun k => k hst), same_prt_in ((among_bits ho.c0 ho.c1 hs).1 ha)]
      · exact .inr (.inl ⟨ho.c0, ha⟩)
    · by_cases h0 : 0 ≤ r.cats
      · by_cases ha : bits .andNot .i64 r.cats (s : Int) = 0
        · exact .inr (.inr ⟨h0, ha, by rw [(putErr_rec hp hr).1, (putErr_rec hst hr).1]⟩)
        · exact .inr (.inl ⟨h0, ha⟩)
      · exact .inl (by omega)
  · intro he
    obtain ⟨_, ho, hsm⟩ := putErr_ok.1 he
    rw [putL_yes he]
    refine ⟨stErr_put he hl, ?_⟩
    by_cases ha : bits .andNot .i64 r.cats (s : Int) = 0
    · have hm := (among_bits ho.c0 ho.c1 hs).1 ha
      have hf : putErr (prt vs s) r = 0 := putErr_ok.2 ⟨hp, ho, by rw [same_prt_in hm]; exact hsm⟩
      refine .inr ⟨ha, hf, ?_⟩
      rw [putL_yes hf, prt_append, prt_one, if_pos hm]
    · have hm : ¬ among r.cats s = true := fun k => ha ((among_bits ho.c0 ho.c1 hs).2 k)
      refine .inl ⟨ha, ?_⟩
      rw [prt_append, prt_one, if_neg hm, List.append_nil]

theorem chg_cut {vs : List VerL} {id : ByteArray} {s : Nat} (hs : s ≤ 255) (hl : vs.length < 5120) (hst : stErr vs = 0) {E F K : Int} {X Y : List VerL} (hE : cutErr vs id K = E) (hF : cutErr (prt vs s) id K = F) (hX : cutL vs id K = X) (hY : cutL (prt vs s) id K = Y) :
    (E ≠ 0 → X = [] ∧ (K < 0 ∨ (0 ≤ K ∧ bits .andNot .i64 K (s : Int) ≠ 0) ∨ (0 ≤ K ∧ bits .andNot .i64 K (s : Int) = 0 ∧ F = E))) ∧
    (E = 0 → stErr X = 0 ∧ ((bits .andNot .i64 K (s : Int) ≠ 0 ∧ prt X s = prt vs s) ∨ (bits .andNot .i64 K (s : Int) = 0 ∧ F = 0 ∧ Y = prt X s))) := by
  have hp := stErr_prt hst s
  subst hE hF hX hY
  constructor
  · intro he
    refine ⟨cutL_no he, ?_⟩
    by_cases h0 : 0 ≤ K
    · by_cases ha : bits .andNot .i64 K (s : Int) = 0
      · refine .inr (.inr ⟨h0, ha, ?_⟩)
        by_cases h1 : 0 ≤ K ∧ K ≤ 255
        · have hm := (among_bits h1.1 h1.2 hs).1 ha
          unfold cutErr
          rw [if_neg (show ¬ stErr (prt vs s) ≠ 0 from fun k => k hp), if_neg (show ¬ stErr vs ≠ 0 from fun k => k hst), same_prt_in hm, lives_prt, hm, Bool.true_and]
        · cases hid : isNm id with
          | false => rw [(cutErr_id hp hid).1, (cutErr_id hst hid).1]
          | true => rw [(cutErr_cats hp hid h1).1, (cutErr_cats hst hid h1).1]
      · exact .inr (.inl ⟨h0, ha⟩)
    · exact .inl (by omega)
  · intro he
    obtain ⟨_, hi, h1, hv, hsm⟩ := cutErr_ok.1 he
    rw [cutL_yes he]
    refine ⟨stErr_cut he hl, ?_⟩
    by_cases ha : bits .andNot .i64 K (s : Int) = 0
    · have hm := (among_bits h1.1 h1.2 hs).1 ha
      have hf : cutErr (prt vs s) id K = 0 := cutErr_ok.2 ⟨hp, hi, h1, by rw [lives_prt, hm, Bool.true_and]; exact hv, by rw [same_prt_in hm]; exact hsm⟩
      refine .inr ⟨ha, hf, ?_⟩
      rw [cutL_yes hf, prt_append, prt_one, if_pos (show among (goneV id K).r.cats s = true from hm)]
    · have hm : ¬ among K s = true := fun k => ha ((among_bits h1.1 h1.2 hs).2 k)
      refine .inl ⟨ha, ?_⟩
      rw [prt_append, prt_one, if_neg (show ¬ among (goneV id K).r.cats s = true from hm), List.append_nil]

def twoB (w : World) (b : Nat) : Prop := w.cell? ⟨b, 0, none⟩ = some (.bool true) ∧ w.cell? ⟨b, 1, none⟩ = some (.bool false)
theorem twoB.below {w w' : World} {b : Nat} (h : twoB w b) (hb : Below w.heap.size w w') : twoB w' b := ⟨(hb.cell (p := ⟨b, 0, none⟩) (cell_lt h.1)).trans h.1, (hb.cell (p := ⟨b, 1, none⟩) (cell_lt h.2)).trans h.2⟩

set_option maxHeartbeats 8000000 in
theorem storeChanges_walk (a : Option Addr) (c : Nat) (g : List RowI) (r : RecL) (p : At) (id : ByteArray) (ct x : Int) (w : World) (hs : SlG w a g) (hl : g.length ≤ c) (hm : c ≤ maxLen) (hi : r.in_ p w) (hsh : r.short) (hid : id.size ≤ maxLen) :
    Calls Tryd.prog 6 #[.slice a g.length c, r.v p, .string id, .int .i64 ct, .int .i64 x] w fun e w' => e = .returned (.bool true) ∧ Below w.heap.size w w' := by
  have HS := Lib.hid hs
  have HL := Lib.hid hl
  have HM := Lib.hid hm
  have HI := Lib.hid hi
  have HA := Lib.hid (r.box_below p w)
  have HBOX := Lib.hid (BoxAt.new w r p 29)
  obtain ⟨s, hx⟩ : ∃ s, s = mk8 x := ⟨_, rfl⟩
  have hs8 : s ≤ 255 := by rw [hx]; exact mk8_le x
  have hmx : bits .and .i64 x 255 = (s : Int) := by rw [hx]; exact mk8_eq x
  obtain ⟨gl, hgl⟩ : ∃ gl, g.length = gl := ⟨_, rfl⟩
  have HGL := Lib.hid hgl
  rw [hgl]
  clear hs hl hm hgl hi hsh hid hx
  go_enter Tryd.func6, Tryd.ntmps6
  go_wp2_with fail
  refine (begun_is _).mono ?_
  rintro e w1 ⟨rfl, hb1⟩
  have HB1 := Lib.hid (HA.out.trans (hb1.mono HA.out.size))
  have HX1 := Lib.hid (HBOX.out.below hb1)
  clear hb1
  have HG := Lib.hid (grown_is a g c w1 (HS.out.below HB1.out) HL.out HM.out)
  rw [HGL.out] at HG
  go_wp2_with fail
  refine HG.out.mono ?_
  rintro e w2 ⟨vs, A, m, c', rfl, hok, hnw, hb2⟩
  have HLEN := Lib.hid hok.len
  have HST := Lib.hid (hok.fine (by omega))
  have HV2 := Lib.hid hnw.at_
  have HB2 := Lib.hid (HB1.out.trans (hb2.mono HB1.out.size))
  have HX2 := Lib.hid (HX1.out.below hb2)
  clear hok hnw hb2 HG
  have HPT := Lib.hid (part_is c' s w2 HV2.out HST.out hs8)
  go_wp2_with fail
  refine HPT.out.mono ?_
  rintro e w3 ⟨A1, m1, wc0, rfl, hnw, hb⟩
  have HX3 := Lib.hid (HX2.out.below hb)
  have HV3 := Lib.hid (HV2.out.below hb)
  have HW3 := Lib.hid hnw.at_
  have HB3 := Lib.hid (HB2.out.trans (hb.mono HB2.out.size))
  clear hnw hb HPT HX1 HX2 HV2
  go_wp2_with fail
  go_loopw [39] (fun i wr => ∃ k : Nat, k ≤ 2 ∧ i = .int .i64 k ∧ Hid (twoB wr w3.heap.size) ∧ Hid (VsAt wr A m vs) ∧ Hid (VsAt wr A1 m1 (prt vs s)) ∧ Hid (BoxAt wr w.heap.size r p) ∧ Hid (Below w.heap.size w wr)) (fun i _ => 2 - (intOf i).toNat)
  case atStart =>
    have hbl : Below w3.heap.size w3 (w3.alloc (.cells #[.bool true, .bool false] 4)) := (Below.refl _ _).alloc (Nat.le_refl _) _
    exact ⟨0, by omega, rfl, ⟨by simp [go_sem], by simp [go_sem]⟩, HV3.out.below hbl, HW3.out.below hbl, HX3.out.below hbl, HB3.out.trans (hbl.mono HB3.out.size)⟩
  case round =>
    obtain ⟨k, hk, rfl, HBO, HVR, HWR, HXR, HBR⟩ := hrel
    obtain ⟨c0, c1, c2, c3⟩ := HXR.out
    obtain ⟨t0, t1⟩ := HBO.out
    obtain ⟨E, hE1⟩ : ∃ E, putErr vs r = E := ⟨_, rfl⟩
    obtain ⟨F, hF1⟩ : ∃ F, putErr (prt vs s) r = F := ⟨_, rfl⟩
    obtain ⟨X, hX1⟩ : ∃ X, putL vs r = X := ⟨_, rfl⟩
    obtain ⟨Y, hY1⟩ : ∃ Y, putL (prt vs s) r = Y := ⟨_, rfl⟩
    have HPX := Lib.hid (put_fine c' r p wr HVR.out HST.out (HI.out.below HBR.out) hX1 hE1)
    have hT := chg_put hs8 (by have := HLEN.out; omega) HST.out hE1 hF1 hX1 hY1 rfl
    have HTT := Lib.hid hT
    have HF1 := Lib.hid hF1
    have HY1 := Lib.hid hY1
    clear hE1 hF1 hX1 hY1 hT
    by_cases hlt : k < 2
    · have hk01 : k = 0 ∨ k = 1 := by omega
      rcases hk01 with rfl | rfl
      · go_wp2_with fail
        refine HPX.out.mono ?_
        rintro e u1 ⟨xA, xm, xc, rfl, hnw, hb⟩
        have HXV0 := Lib.hid hnw.at_
        have HBO1 := Lib.hid (HBO.out.below hb)
        have HVR1 := Lib.hid (HVR.out.below hb)
        have HWR1 := Lib.hid (HWR.out.below hb)
        have HXR1 := Lib.hid (HXR.out.below hb)
        have HBR1 := Lib.hid (HBR.out.trans (hb.mono HBR.out.size))
        clear hnw hb c0 c1 c2 c3 t0 t1 HPX
        obtain ⟨c0, c1, c2, c3⟩ := HXR1.out
        have HPY := Lib.hid (put_fine wc0 r p u1 HWR1.out (stErr_prt HST.out s) (HI.out.below HBR1.out) HY1.out HF1.out)
        go_wp2_with fail
        refine HPY.out.mono ?_
        rintro e u2 ⟨yA, ym, yc, rfl, hnw, hb⟩
        have HYV := Lib.hid hnw.at_
        have HXV := Lib.hid (HXV0.out.below hb)
        have HBOv := Lib.hid (HBO1.out.below hb)
        have HVv := Lib.hid (HVR1.out.below hb)
        have HWv := Lib.hid (HWR1.out.below hb)
        have HXv := Lib.hid (HXR1.out.below hb)
        have HBv := Lib.hid (HBR1.out.trans (hb.mono HBR1.out.size))
        clear hnw hb c0 c1 c2 c3 HPY HBO HVR HWR HXR HBR HBO1 HVR1 HWR1 HXR1 HBR1 HXV0
        obtain ⟨c0, c1, c2, c3⟩ := HXv.out
        obtain ⟨hT1, hT2⟩ := HTT.out
        obtain ⟨K, hKe⟩ : ∃ K, r.cats = K := ⟨_, rfl⟩
        rw [hKe] at hT1 hT2 c1
        have HKE := Lib.hid hKe
        clear hKe HTT
        have HT1 := Lib.hid hT1
        have HT2 := Lib.hid hT2
        clear hT1 hT2
        by_cases he : E = 0
        · subst he
          obtain ⟨hx0, hcase⟩ := HT2.out rfl
          have HX0 := Lib.hid hx0
          have HPART := Lib.hid (part_is xc s _ HXV.out hx0 hs8)
          clear hx0
          go_wp2_with fail
          refine HPART.out.mono ?_
          rintro e y9 ⟨A9, m9, c9, rfl, hnw, hb⟩
          have HZ9 := Lib.hid hnw.at_
          have HY9 := Lib.hid (HYV.out.below hb)
          have HV9 := Lib.hid (HVv.out.below hb)
          have HW9 := Lib.hid (HWv.out.below hb)
          have HX9 := Lib.hid (HXv.out.below hb)
          have HBO9 := Lib.hid (HBOv.out.below hb)
          have HB9 := Lib.hid (HBv.out.trans (hb.mono HBv.out.size))
          clear hnw hb HPART
          rcases hcase with ⟨hn, hq⟩ | ⟨hn, rfl, hq⟩
          · have n1 : (bits .andNot .i64 K (s : Int) == 0) = false := by simpa using hn
            have n2 : (bits .andNot .i64 K (s : Int) != 0) = true := by simpa using hn
            have HSA := Lib.hid (alike_is (b := true) c9 wc0 y9 HZ9.out HW9.out (stErr_prt HX0.out s) (stErr_prt HST.out s) (by rw [decide_eq_true_eq]; exact hq))
            clear hn hq
            go_wp2_with fail
            refine HSA.out.mono ?_
            rintro e z9 ⟨rfl, hb⟩
            have HV10 := Lib.hid (HV9.out.below hb)
            have HW10 := Lib.hid (HW9.out.below hb)
            have HX10 := Lib.hid (HX9.out.below hb)
            have HBO10 := Lib.hid (HBO9.out.below hb)
            have HB10 := Lib.hid (HB9.out.trans (hb.mono HB9.out.size))
            clear hb HSA
            go_wp2_with fail
            go_roundw
            case rel => exact ⟨1, by omega, by go_num, HBO10.out, HV10.out, HW10.out, HX10.out, HB10.out⟩
            case measure => simp [intOf]
          · have n1 : (bits .andNot .i64 K (s : Int) == 0) = true := by simpa using hn
            have n2 : (bits .andNot .i64 K (s : Int) != 0) = false := by simpa using hn
            have HSA := Lib.hid (alike_is (b := true) c9 yc y9 HZ9.out HY9.out (stErr_prt HX0.out s) (by rw [hq]; exact stErr_prt HX0.out s) (by rw [decide_eq_true_eq]; exact hq.symm))
            clear hn hq
            go_wp2_with fail
            refine HSA.out.mono ?_
            rintro e z9 ⟨rfl, hb⟩
            have HV10 := Lib.hid (HV9.out.below hb)
            have HW10 := Lib.hid (HW9.out.below hb)
            have HX10 := Lib.hid (HX9.out.below hb)
            have HBO10 := Lib.hid (HBO9.out.below hb)
            have HB10 := Lib.hid (HB9.out.trans (hb.mono HB9.out.size))
            clear hb HSA
            go_wp2_with fail
            go_roundw
            case rel => exact ⟨1, by omega, by go_num, HBO10.out, HV10.out, HW10.out, HX10.out, HB10.out⟩
            case measure => simp [intOf]
        · have e1 : (E == 0) = false := by simpa using he
          have e2 : (E != 0) = true := by simpa using he
          obtain ⟨hx0, hcase⟩ := HT1.out he
          have hxm := HXV.out.len
          rw [hx0] at hxm
          obtain rfl : xm = 0 := hxm
          clear hx0
          rcases hcase with hk | ⟨hk, hn⟩ | ⟨hk, hn, rfl⟩
          · have hk' : ¬ (0 : Int) ≤ K := by omega
            go_wp2_with fail
            go_roundw
            case rel => exact ⟨1, by omega, by go_num, HBOv.out, HVv.out, HWv.out, HXv.out, HBv.out⟩
            case measure => simp [intOf]
          · have n1 : (bits .andNot .i64 K (s : Int) == 0) = false := by simpa using hn
            go_wp2_with fail
            go_roundw
            case rel => exact ⟨1, by omega, by go_num, HBOv.out, HVv.out, HWv.out, HXv.out, HBv.out⟩
            case measure => simp [intOf]
          · have n1 : (bits .andNot .i64 K (s : Int) == 0) = true := by simpa using hn
            go_wp2_with fail
            go_roundw
            case rel => exact ⟨1, by omega, by go_num, HBOv.out, HVv.out, HWv.out, HXv.out, HBv.out⟩
            case measure => simp [intOf]
      · go_wp2_with fail
        refine HPX.out.mono ?_
        rintro e u1 ⟨xA, xm, xc, rfl, hnw, hb⟩
        have HXV0 := Lib.hid hnw.at_
        have HBO1 := Lib.hid (HBO.out.below hb)
        have HVR1 := Lib.hid (HVR.out.below hb)
        have HWR1 := Lib.hid (HWR.out.below hb)
        have HXR1 := Lib.hid (HXR.out.below hb)
        have HBR1 := Lib.hid (HBR.out.trans (hb.mono HBR.out.size))
        clear hnw hb c0 c1 c2 c3 t0 t1 HPX
        obtain ⟨c0, c1, c2, c3⟩ := HXR1.out
        have HPY := Lib.hid (put_fine wc0 r p u1 HWR1.out (stErr_prt HST.out s) (HI.out.below HBR1.out) HY1.out HF1.out)
        go_wp2_with fail
        refine HPY.out.mono ?_
        rintro e u2 ⟨yA, ym, yc, rfl, hnw, hb⟩
        have HYV := Lib.hid hnw.at_
        have HXV := Lib.hid (HXV0.out.below hb)
        have HBOv := Lib.hid (HBO1.out.below hb)
        have HVv := Lib.hid (HVR1.out.below hb)
        have HWv := Lib.hid (HWR1.out.below hb)
        have HXv := Lib.hid (HXR1.out.below hb)
        have HBv := Lib.hid (HBR1.out.trans (hb.mono HBR1.out.size))
        clear hnw hb c0 c1 c2 c3 HPY HBO HVR HWR HXR HBR HBO1 HVR1 HWR1 HXR1 HBR1 HXV0
        obtain ⟨c0, c1, c2, c3⟩ := HXv.out
        obtain ⟨K, hKe⟩ : ∃ K, K = ct := ⟨_, rfl⟩
        subst hKe
        obtain ⟨E, hE⟩ : ∃ E, cutErr vs id K = E := ⟨_, rfl⟩
        obtain ⟨F, hF⟩ : ∃ F, cutErr (prt vs s) id K = F := ⟨_, rfl⟩
        obtain ⟨X, hX⟩ : ∃ X, cutL vs id K = X := ⟨_, rfl⟩
        obtain ⟨Y, hY⟩ : ∃ Y, cutL (prt vs s) id K = Y := ⟨_, rfl⟩
        obtain ⟨hT1, hT2⟩ := chg_cut hs8 (by have := HLEN.out; omega) HST.out hE hF hX hY
        have HT1 := Lib.hid hT1
        have HT2 := Lib.hid hT2
        have HCX := Lib.hid (cut_fine c' id K u2 HVv.out HST.out hX hE)
        have HF2 := Lib.hid hF
        have HY2 := Lib.hid hY
        clear hT1 hT2 hE hF hX hY HTT HXV HYV
        go_wp2_with fail
        refine HCX.out.mono ?_
        rintro e u3 ⟨xA, xm, xc, rfl, hnw, hb⟩
        have HXV0 := Lib.hid hnw.at_
        have HBO1 := Lib.hid (HBOv.out.below hb)
        have HVR1 := Lib.hid (HVv.out.below hb)
        have HWR1 := Lib.hid (HWv.out.below hb)
        have HXR1 := Lib.hid (HXv.out.below hb)
        have HBR1 := Lib.hid (HBv.out.trans (hb.mono HBv.out.size))
        clear hnw hb c0 c1 c2 c3 HCX HBOv HVv HWv HXv HBv
        have HCY := Lib.hid (cut_fine wc0 id K u3 HWR1.out (stErr_prt HST.out s) HY2.out HF2.out)
        go_wp2_with fail
        refine HCY.out.mono ?_
        rintro e u4 ⟨yA, ym, yc, rfl, hnw, hb⟩
        have HYV := Lib.hid hnw.at_
        have HXV := Lib.hid (HXV0.out.below hb)
        have HBOv := Lib.hid (HBO1.out.below hb)
        have HVv := Lib.hid (HVR1.out.below hb)
        have HWv := Lib.hid (HWR1.out.below hb)
        have HXv := Lib.hid (HXR1.out.below hb)
        have HBv := Lib.hid (HBR1.out.trans (hb.mono HBR1.out.size))
        clear hnw hb HCY HBO1 HVR1 HWR1 HXR1 HBR1 HXV0
        have hT1 := HT1.out
        have hT2 := HT2.out
        clear HT1 HT2
        have HT1 := Lib.hid hT1
        have HT2 := Lib.hid hT2
        clear hT1 hT2
        by_cases he : E = 0
        · subst he
          obtain ⟨hx0, hcase⟩ := HT2.out rfl
          have HX0 := Lib.hid hx0
          have HPART := Lib.hid (part_is xc s _ HXV.out hx0 hs8)
          clear hx0
          go_wp2_with fail
          refine HPART.out.mono ?_
          rintro e y9 ⟨A9, m9, c9, rfl, hnw, hb⟩
          have HZ9 := Lib.hid hnw.at_
          have HY9 := Lib.hid (HYV.out.below hb)
          have HV9 := Lib.hid (HVv.out.below hb)
          have HW9 := Lib.hid (HWv.out.below hb)
          have HX9 := Lib.hid (HXv.out.below hb)
          have HBO9 := Lib.hid (HBOv.out.below hb)
          have HB9 := Lib.hid (HBv.out.trans (hb.mono HBv.out.size))
          clear hnw hb HPART
          rcases hcase with ⟨hn, hq⟩ | ⟨hn, rfl, hq⟩
          · have n1 : (bits .andNot .i64 K (s : Int) == 0) = false := by simpa using hn
            have n2 : (bits .andNot .i64 K (s : Int) != 0) = true := by simpa using hn
            have HSA := Lib.hid (alike_is (b := true) c9 wc0 y9 HZ9.out HW9.out (stErr_prt HX0.out s) (stErr_prt HST.out s) (by rw [decide_eq_true_eq]; exact hq))
            clear hn hq
            go_wp2_with fail
            refine HSA.out.mono ?_
            rintro e z9 ⟨rfl, hb⟩
            have HV10 := Lib.hid (HV9.out.below hb)
            have HW10 := Lib.hid (HW9.out.below hb)
            have HX10 := Lib.hid (HX9.out.below hb)
            have HBO10 := Lib.hid (HBO9.out.below hb)
            have HB10 := Lib.hid (HB9.out.trans (hb.mono HB9.out.size))
            clear hb HSA
            go_wp2_with fail
            go_roundw
            case rel => exact ⟨2, by omega, by go_num, HBO10.out, HV10.out, HW10.out, HX10.out, HB10.out⟩
            case measure => simp [intOf]
          · have n1 : (bits .andNot .i64 K (s : Int) == 0) = true := by simpa using hn
            have n2 : (bits .andNot .i64 K (s : Int) != 0) = false := by simpa using hn
            have HSA := Lib.hid (alike_is (b := true) c9 yc y9 HZ9.out HY9.out (stErr_prt HX0.out s) (by rw [hq]; exact stErr_prt HX0.out s) (by rw [decide_eq_true_eq]; exact hq.symm))
            clear hn hq
            go_wp2_with fail
            refine HSA.out.mono ?_
            rintro e z9 ⟨rfl, hb⟩
            have HV10 := Lib.hid (HV9.out.below hb)
            have HW10 := Lib.hid (HW9.out.below hb)
            have HX10 := Lib.hid (HX9.out.below hb)
            have HBO10 := Lib.hid (HBO9.out.below hb)
            have HB10 := Lib.hid (HB9.out.trans (hb.mono HB9.out.size))
            clear hb HSA
            go_wp2_with fail
            go_roundw
            case rel => exact ⟨2, by omega, by go_num, HBO10.out, HV10.out, HW10.out, HX10.out, HB10.out⟩
            case measure => simp [intOf]
        · have e1 : (E == 0) = false := by simpa using he
          have e2 : (E != 0) = true := by simpa using he
          obtain ⟨hx0, hcase⟩ := HT1.out he
          have hxm := HXV.out.len
          rw [hx0] at hxm
          obtain rfl : xm = 0 := hxm
          clear hx0
          rcases hcase with hk | ⟨hk, hn⟩ | ⟨hk, hn, rfl⟩
          · have hk' : ¬ (0 : Int) ≤ K := by omega
            go_wp2_with fail
            go_roundw
            case rel => exact ⟨2, by omega, by go_num, HBOv.out, HVv.out, HWv.out, HXv.out, HBv.out⟩
            case measure => simp [intOf]
          · have n1 : (bits .andNot .i64 K (s : Int) == 0) = false := by simpa using hn
            go_wp2_with fail
            go_roundw
            case rel => exact ⟨2, by omega, by go_num, HBOv.out, HVv.out, HWv.out, HXv.out, HBv.out⟩
            case measure => simp [intOf]
          · have n1 : (bits .andNot .i64 K (s : Int) == 0) = true := by simpa using hn
            go_wp2_with fail
            go_roundw
            case rel => exact ⟨2, by omega, by go_num, HBOv.out, HVv.out, HWv.out, HXv.out, HBv.out⟩
            case measure => simp [intOf]
    · obtain rfl : k = 2 := by omega
      go_wp2_with fail
      go_ret
      exact ⟨rfl, HBR.out⟩
end Go.Proofs.YtekjlbbacieafaaDoor
