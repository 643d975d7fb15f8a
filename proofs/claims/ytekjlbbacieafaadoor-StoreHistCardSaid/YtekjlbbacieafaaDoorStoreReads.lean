/- StoreReads' walk. -/
import Derived.Test.YtekjlbbacieafaaDoorStoreLife
set_option linter.unusedVariables false
set_option linter.unusedSimpArgs false
set_option maxRecDepth 100000
namespace Go.Proofs.YtekjlbbacieafaaDoor
open Go.RowKit Go.Sort

theorem get_two {l : List VerL} (h : stErr l = 0) (id : ByteArray) : (∃ v, getV l id = some v ∧ getErr l id = 0 ∧ getR l id = v.r) ∨ (getV l id = none ∧ getErr l id = 4 ∧ getR l id = RecL.zero) := by
  cases hg : getV l id with
  | none => exact .inr ⟨rfl, get_none h hg⟩
  | some v => exact .inl ⟨v, rfl, get_some h hg⟩

/-- what is read when what was put is taken away -/
theorem reads_math {vs : List VerL} {r : RecL} (hst : stErr vs = 0) (hz : stErr (vs ++ [⟨r, false⟩] ++ [goneV r.id r.cats]) = 0) {eP eW : Int} {P W : RecL} (h1 : getErr (vs ++ [⟨r, false⟩] ++ [goneV r.id r.cats]) r.id = eP) (h2 : getR (vs ++ [⟨r, false⟩] ++ [goneV r.id r.cats]) r.id = P)
    (h3 : getErr vs r.id = eW) (h4 : getR vs r.id = W) :
    ((eP = 0 ∧ (P.cats == r.cats) = false) ∨ eP = 4) ∧ ((eW = 0 ∧ (W.cats == r.cats) = false ∧ eP = 0 ∧ P = W) ∨ (eW = 0 ∧ W.cats = r.cats) ∨ eW = 4) := by
  constructor
  · rcases get_two hz r.id with ⟨v, a, b, c⟩ | ⟨a, b, c⟩
    · refine .inl ⟨h1.symm.trans b, ?_⟩
      rw [← h2, c]
      simpa using getV_putCut_ne a
    · exact .inr (h1.symm.trans b)
  · rcases get_two hst r.id with ⟨v, a, b, c⟩ | ⟨a, b, c⟩
    · by_cases hc : v.r.cats = r.cats
      · exact .inr (.inl ⟨h3.symm.trans b, by rw [← h4, c, hc]⟩)
      · obtain ⟨d, e⟩ := get_some hz (getV_putCut_was a hc)
        exact .inl ⟨h3.symm.trans b, by rw [← h4, c]; simpa using hc, h1.symm.trans d, by rw [← h2, ← h4, c, e]⟩
    · exact .inr (.inr (h3.symm.trans b))

def abcB (w : World) (b : Nat) : Prop := ∀ j, j < 3 → w.cell? ⟨b, j, none⟩ = some (.string (idB j))
theorem abcB.below {w w' : World} {b : Nat} (h : abcB w b) (hb : Below w.heap.size w w') : abcB w' b := fun j hj => (hb.cell (p := ⟨b, j, none⟩) (cell_lt (h j hj))).trans (h j hj)
theorem abcB.new (w : World) : abcB (w.alloc (.cells #[.string ⟨#[97]⟩, .string ⟨#[98]⟩, .string ⟨#[99]⟩] 9)) w.heap.size := fun j hj => by
  match j, hj with
  | 0, _ => simp [go_sem, idB]
  | 1, _ => simp [go_sem, idB]
  | 2, _ => simp [go_sem, idB]

set_option maxHeartbeats 8000000 in
theorem storeReads_walk (a : Option Addr) (c : Nat) (g : List RowI) (r : RecL) (p : At) (w : World) (hs : SlG w a g) (hl : g.length ≤ c) (hm : c ≤ maxLen) (hi : r.in_ p w) (hsh : r.short) :
    Calls Tryd.prog 7 #[.slice a g.length c, r.v p] w fun e w' => e = .returned (.bool true) ∧ Below w.heap.size w w' := by
  have HS := Lib.hid hs
  have HL := Lib.hid hl
  have HM := Lib.hid hm
  have HI := Lib.hid hi
  have HA := Lib.hid (r.box_below p w)
  have HBOX := Lib.hid (BoxAt.new w r p 29)
  obtain ⟨gl, hgl⟩ : ∃ gl, g.length = gl := ⟨_, rfl⟩
  have HGL := Lib.hid hgl
  rw [hgl]
  clear hs hl hm hgl hi hsh
  go_enter Tryd.func7, Tryd.ntmps7
  go_wp2_with fail
  refine (begun_is _).mono ?_
  rintro e w1 ⟨rfl, hb1⟩
  have HB1 := Lib.hid (HA.out.trans (hb1.mono HA.out.size))
  have HX1 := Lib.hid (HBOX.out.below hb1)
  clear hb1
  have HG := Lib.hid (grown_is a g c w1 (HS.out.below HB1.out) HL.out HM.out)
  rw [HGL.out] at HG
  go_wp2_with fail
  refine HG.out.mono ?_
  rintro e w2 ⟨vs, A, m, c', rfl, hok, hnw, hb2⟩
  have HOK := Lib.hid hok.ok
  have HLEN := Lib.hid hok.len
  have HST := Lib.hid (hok.fine (by omega))
  have HV2 := Lib.hid hnw.at_
  have HB2 := Lib.hid (HB1.out.trans (hb2.mono HB1.out.size))
  have hx2 := HX1.out.below hb2
  have HX2 := Lib.hid hx2
  obtain ⟨c0, c1, c2, c3⟩ := hx2
  clear hok hnw hb2 HG
  obtain ⟨er, her⟩ : ∃ er, putErr vs r = er := ⟨_, rfl⟩
  have HER := Lib.hid her
  clear her
  have HPUT := Lib.hid (put_fine c' r p w2 HV2.out HST.out (HI.out.below HB2.out) rfl HER.out)
  go_wp2_with fail
  refine HPUT.out.mono ?_
  rintro e w3 ⟨A1, m1, c1', rfl, hnw, hb⟩
  have HX3 := Lib.hid (HX2.out.below hb)
  have HV3 := Lib.hid (HV2.out.below hb)
  have HP := Lib.hid hnw.at_
  have HB3 := Lib.hid (HB2.out.trans (hb.mono HB2.out.size))
  clear hnw hb c0 c1 c2 c3 HPUT
  by_cases he : er = 0
  · subst he
    obtain ⟨k1, k2, k3, k4, k5, k6⟩ := life_math HOK.out HLEN.out HER.out
    have hp := HP.out
    rw [putL_yes HER.out] at hp
    have HP' := Lib.hid hp
    have K1 := Lib.hid k1
    have K4 := Lib.hid k4
    have K5 := Lib.hid k5
    obtain ⟨g1, g2⟩ := get_some k4 (getV_put vs r)
    have HGE := Lib.hid (get_fine c1' r.id w3 hp k4 g2 g1)
    obtain ⟨c0, c1, c2, c3⟩ := HX3.out
    clear hp HP k1 k2 k3 k4 k5 k6 g1 g2
    go_wp2_with fail
    refine HGE.out.mono ?_
    rintro e w4 ⟨q, rfl, hnr, hb⟩
    have hal := (Below.refl w4.heap.size w4).alloc (Nat.le_refl _) (.cells #[.string r.id, .int .i64 r.cats, .slice q.fa r.fs.length q.fc, .slice q.ra r.rs.length q.rc] 29)
    have hb4 := hb.trans (hal.mono hb.size)
    have HX4 := Lib.hid (HX3.out.below hb)
    have HX4' := Lib.hid (HX3.out.below hb4)
    have HV4 := Lib.hid (HV3.out.below hb4)
    have HP4 := Lib.hid (HP'.out.below hb4)
    have HB4 := Lib.hid (HB3.out.trans (hb4.mono HB3.out.size))
    have hsz : w.heap.size < w4.heap.size := cell_lt HX4.out.1
    have HSAME := Lib.hid (same_is (b := true) r r q p _ (hnr.in_.below hal) (HI.out.below HB4.out) (by rw [decide_eq_true_eq]))
    clear c0 c1 c2 c3
    obtain ⟨c0, c1, c2, c3⟩ := HX4.out
    clear hnr hal hb hb4 HGE
    go_wp2_with fail
    refine HSAME.out.mono ?_
    rintro e w5 ⟨rfl, hb⟩
    have HX5 := Lib.hid (HX4'.out.below hb)
    have HV5 := Lib.hid (HV4.out.below hb)
    have HP5 := Lib.hid (HP4.out.below hb)
    have HB5 := Lib.hid (HB4.out.trans (hb.mono HB4.out.size))
    clear hb c0 c1 c2 c3 HSAME hsz HX4 HX4' HV4 HP4 HV3 HP' HX3
    obtain ⟨c0, c1, c2, c3⟩ := HX5.out
    have HCUT := Lib.hid (cut_fine c1' r.id r.cats w5 HP5.out K4.out (cutL_yes K1.out) K1.out)
    go_wp2_with fail
    refine HCUT.out.mono ?_
    rintro e w6 ⟨A2, m2, c2', rfl, hnw, hb⟩
    have HX6 := Lib.hid (HX5.out.below hb)
    have HV6 := Lib.hid (HV5.out.below hb)
    have HZ := Lib.hid hnw.at_
    have HB6 := Lib.hid (HB5.out.trans (hb.mono HB5.out.size))
    clear hnw hb c0 c1 c2 c3 HCUT HX5 HV5 HP5
    obtain ⟨c0, c1, c2, c3⟩ := HX6.out
    obtain ⟨eP, h1⟩ : ∃ eP, getErr (vs ++ [⟨r, false⟩] ++ [goneV r.id r.cats]) r.id = eP := ⟨_, rfl⟩
    obtain ⟨P, h2⟩ : ∃ P, getR (vs ++ [⟨r, false⟩] ++ [goneV r.id r.cats]) r.id = P := ⟨_, rfl⟩
    obtain ⟨eW, h3⟩ : ∃ eW, getErr vs r.id = eW := ⟨_, rfl⟩
    obtain ⟨U, h4⟩ : ∃ U, getR vs r.id = U := ⟨_, rfl⟩
    obtain ⟨hA, hW⟩ := reads_math HST.out K5.out h1 h2 h3 h4
    have HCA := Lib.hid hA
    have HCW := Lib.hid hW
    have HG1 := Lib.hid (get_fine c2' r.id w6 HZ.out K5.out h2 h1)
    have H3 := Lib.hid h3
    have H4 := Lib.hid h4
    clear h1 h2 h3 h4 hA hW
    go_wp2_with fail
    refine HG1.out.mono ?_
    rintro e w7 ⟨qP, rfl, hnr, hb⟩
    have hal := (Below.refl w7.heap.size w7).alloc (Nat.le_refl _) (.cells #[.string P.id, .int .i64 P.cats, .slice qP.fa P.fs.length qP.fc, .slice qP.ra P.rs.length qP.rc] 29)
    have hb7 := hb.trans (hal.mono hb.size)
    have HX7 := Lib.hid (HX6.out.below hb)
    have HX7' := Lib.hid (HX6.out.below hb7)
    have HV7 := Lib.hid (HV6.out.below hb7)
    have HZ7 := Lib.hid (HZ.out.below hb7)
    have HPB := Lib.hid (BoxAt.new w7 P qP 29)
    have HPI := Lib.hid (hnr.in_.below hal)
    have HB7 := Lib.hid (HB6.out.trans (hb7.mono HB6.out.size))
    have hsz : w.heap.size < w7.heap.size := cell_lt HX7.out.1
    clear c0 c1 c2 c3 hnr hal hb hb7 HG1 HX6 HV6 HZ
    obtain ⟨c0, c1, c2, c3⟩ := HX7.out
    have HG2 := Lib.hid (get_fine c' r.id _ HV7.out HST.out H4.out H3.out)
    rcases HCA.out with ⟨rfl, hPc⟩ | rfl
    all_goals
      go_wp2_with fail
      refine HG2.out.mono ?_
      rintro e w8 ⟨qU, rfl, hnr, hb⟩
      have hal := (Below.refl w8.heap.size w8).alloc (Nat.le_refl _) (.cells #[.string U.id, .int .i64 U.cats, .slice qU.fa U.fs.length qU.fc, .slice qU.ra U.rs.length qU.rc] 29)
      have hb8 := hb.trans (hal.mono hb.size)
      have HX8 := Lib.hid (HX7'.out.below hb)
      have HX8' := Lib.hid (HX7'.out.below hb8)
      have HV8 := Lib.hid (HV7.out.below hb8)
      have HZ8 := Lib.hid (HZ7.out.below hb8)
      have HPB8 := Lib.hid (HPB.out.below hb)
      have HPI8 := Lib.hid (HPI.out.below hb8)
      have HUI := Lib.hid (hnr.in_.below hal)
      have HB8 := Lib.hid (HB7.out.trans (hb8.mono HB7.out.size))
      have hsz8 : w.heap.size < w8.heap.size := cell_lt HX8.out.1
      have hsz8' : w7.heap.size < w8.heap.size := cell_lt HPB8.out.1
      clear c0 c1 c2 c3 hnr hal hb hb8 HG2 HX7 HX7' HV7 HZ7 HPB HPI
      obtain ⟨c0, c1, c2, c3⟩ := HX8.out
      obtain ⟨d0, d1, d2, d3⟩ := HPB8.out
      rcases HCW.out with ⟨rfl, hUc, hE, rfl⟩ | hBC
      · first
          | (exfalso; revert hE; decide)
          | (have hUn : (P.cats != r.cats) = true := by simpa using hUc
             have HSAME := Lib.hid (same_is (b := true) P P qP qU _ HPI8.out HUI.out (by rw [decide_eq_true_eq]))
             go_wp2_with fail
             refine HSAME.out.mono ?_
             rintro e w9 ⟨rfl, hb⟩
             have HB9 := Lib.hid (HB8.out.trans (hb.mono HB8.out.size))
             clear hb
             go_wp2_with fail
             go_ret
             exact ⟨rfl, HB9.out⟩)
      · rcases hBC with ⟨rfl, hUc⟩ | rfl
        all_goals
          try have hUn : (U.cats != r.cats) = false := by simpa using hUc
          try have hUe : (U.cats == r.cats) = true := by simpa using hUc
          try clear hUc
          go_wp2_with fail
          go_loopw [104] (fun i wr => ∃ k : Nat, k ≤ 3 ∧ i = .int .i64 k ∧ Hid (abcB wr (w8.heap.size + 1)) ∧ Hid (VsAt wr A m vs) ∧ Hid (VsAt wr A2 m2 (vs ++ [⟨r, false⟩] ++ [goneV r.id r.cats])) ∧ Hid (BoxAt wr w.heap.size r p) ∧ Hid (Below w.heap.size w wr)) (fun i _ => 3 - (intOf i).toNat)
          case atStart =>
            have hbl : ∀ W : World, Below W.heap.size W (W.alloc (.cells #[.string ⟨#[97]⟩, .string ⟨#[98]⟩, .string ⟨#[99]⟩] 9)) := fun W => (Below.refl _ _).alloc (Nat.le_refl _) _
            exact ⟨0, by omega, rfl, by have := abcB.new (w8.alloc (.cells #[.string U.id, .int .i64 U.cats, .slice qU.fa U.fs.length qU.fc, .slice qU.ra U.rs.length qU.rc] 29)); simp at this; exact this, HV8.out.below (hbl _), HZ8.out.below (hbl _), HX8'.out.below (hbl _), HB8.out.trans ((hbl _).mono HB8.out.size)⟩
          case round =>
            obtain ⟨k, hk, rfl, HAB, HVR, HZR, HXR, HBR⟩ := hrel
            obtain ⟨x0, x1, x2, x3⟩ := HXR.out
            by_cases hlt : k < 3
            · have hc := HAB.out k hlt
              have i1 : (0 : Int) ≤ (k : Int) := by omega
              have i2 : (k : Int) < 3 := by omega
              obtain ⟨id, hid⟩ : ∃ id, idB k = id := ⟨_, rfl⟩
              rw [hid] at hc
              have HID := Lib.hid hid
              clear hid
              by_cases hne : id = r.id
              · have e1 : (id.toList == r.id.toList) = true := sEq_iff.2 hne
                have HNE := Lib.hid hne
                clear hne
                go_wp2_with fail
                go_roundw
                case rel => exact ⟨k + 1, by omega, by go_num, HAB.out, HVR.out, HZR.out, HXR.out, HBR.out⟩
                case measure => simp [intOf]; omega
              · have e1 : (id.toList == r.id.toList) = false := sEq_false.2 hne
                have hgv := getV_putCut_other (l := vs) (r := r) hne
                obtain ⟨q1, q2⟩ := get_congr K5.out HST.out hgv
                obtain ⟨eG, hG1⟩ : ∃ eG, getErr vs id = eG := ⟨_, rfl⟩
                obtain ⟨V, hG2⟩ : ∃ V, getR vs id = V := ⟨_, rfl⟩
                have HGA := Lib.hid (get_fine c2' id wr HZR.out K5.out (q2.trans hG2) (q1.trans hG1))
                have HG1 := Lib.hid hG1
                have HG2 := Lib.hid hG2
                clear hne hgv q1 q2 hG1 hG2
                go_wp2_with fail
                refine HGA.out.mono ?_
                rintro e y1 ⟨q1, rfl, hnr, hb⟩
                have hal := (Below.refl y1.heap.size y1).alloc (Nat.le_refl _) (.cells #[.string V.id, .int .i64 V.cats, .slice q1.fa V.fs.length q1.fc, .slice q1.ra V.rs.length q1.rc] 29)
                have hb1 := hb.trans (hal.mono hb.size)
                have HAB1 := Lib.hid (HAB.out.below hb1)
                have HVR1 := Lib.hid (HVR.out.below hb1)
                have HZR1 := Lib.hid (HZR.out.below hb1)
                have HXR1 := Lib.hid (HXR.out.below hb1)
                have HBR1 := Lib.hid (HBR.out.trans (hb1.mono HBR.out.size))
                have HV1 := Lib.hid (hnr.in_.below hal)
                have HVB := Lib.hid (BoxAt.new y1 V q1 29)
                have HGB := Lib.hid (get_fine c' id _ HVR1.out HST.out HG2.out HG1.out)
                clear hnr hal hb hb1 x0 x1 x2 x3 hc HGA
                go_wp2_with fail
                refine HGB.out.mono ?_
                rintro e y2 ⟨q2, rfl, hnr, hb⟩
                have hal := (Below.refl y2.heap.size y2).alloc (Nat.le_refl _) (.cells #[.string V.id, .int .i64 V.cats, .slice q2.fa V.fs.length q2.fc, .slice q2.ra V.rs.length q2.rc] 29)
                have hb1 := hb.trans (hal.mono hb.size)
                have HAB2 := Lib.hid (HAB1.out.below hb1)
                have HVR2 := Lib.hid (HVR1.out.below hb1)
                have HZR2 := Lib.hid (HZR1.out.below hb1)
                have HXR2 := Lib.hid (HXR1.out.below hb1)
                have HBR2 := Lib.hid (HBR1.out.trans (hb1.mono HBR1.out.size))
                have HV2 := Lib.hid (hnr.in_.below hal)
                have HV1' := Lib.hid (HV1.out.below hb1)
                have HVB2 := Lib.hid (HVB.out.below hb)
                have hsy : y1.heap.size < y2.heap.size := cell_lt HVB2.out.1
                obtain ⟨v0, v1, v2, v3⟩ := HVB2.out
                have HSA := Lib.hid (same_is (b := true) V V q1 q2 _ HV1'.out HV2.out (by rw [decide_eq_true_eq]))
                clear hnr hal hb hb1 HGB HAB1 HVR1 HZR1 HXR1 HBR1
                go_wp2_with fail
                refine HSA.out.mono ?_
                rintro e y3 ⟨rfl, hb⟩
                have HAB3 := Lib.hid (HAB2.out.below hb)
                have HVR3 := Lib.hid (HVR2.out.below hb)
                have HZR3 := Lib.hid (HZR2.out.below hb)
                have HXR3 := Lib.hid (HXR2.out.below hb)
                have HBR3 := Lib.hid (HBR2.out.trans (hb.mono HBR2.out.size))
                clear hb v0 v1 v2 v3
                go_wp2_with fail
                go_roundw
                case rel => exact ⟨k + 1, by omega, by go_num, HAB3.out, HVR3.out, HZR3.out, HXR3.out, HBR3.out⟩
                case measure => simp [intOf]; omega
            · obtain rfl : k = 3 := by omega
              go_wp2_with fail
              go_ret
              exact ⟨rfl, HBR.out⟩
  · have hp := HP.out.len
    rw [putL_no (by rw [HER.out]; exact he)] at hp
    obtain rfl : m1 = 0 := hp
    have h1 : (er == 0) = false := by simpa using he
    have h2 : (er != 0) = true := by simpa using he
    go_wp2_with fail
    go_ret
    exact ⟨rfl, HB3.out⟩
end Go.Proofs.YtekjlbbacieafaaDoor
