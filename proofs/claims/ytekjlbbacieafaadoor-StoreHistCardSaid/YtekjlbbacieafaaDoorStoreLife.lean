/- StoreLife's walk. -/
import Derived.Test.YtekjlbbacieafaaDoorSFine
import Derived.Test.YtekjlbbacieafaaDoorREq
set_option linter.unusedVariables false
set_option linter.unusedSimpArgs false
set_option maxRecDepth 100000
namespace Go.Proofs.YtekjlbbacieafaaDoor
open Go.RowKit Go.Sort

/-- the way of a record that is put, taken away, and put anew -/
theorem life_math {vs : List VerL} {r : RecL} (hok : StOk vs) (hl : vs.length ≤ 15) (he : putErr vs r = 0) :
    cutErr (vs ++ [⟨r, false⟩]) r.id r.cats = 0 ∧ cutErr (vs ++ [⟨r, false⟩] ++ [goneV r.id r.cats]) r.id r.cats = 4 ∧ putErr (vs ++ [⟨r, false⟩] ++ [goneV r.id r.cats]) r = 0 ∧ stErr (vs ++ [⟨r, false⟩]) = 0 ∧ stErr (vs ++ [⟨r, false⟩] ++ [goneV r.id r.cats]) = 0 ∧ stErr (vs ++ [⟨r, false⟩] ++ [goneV r.id r.cats] ++ [⟨r, false⟩]) = 0 := by
  obtain ⟨h1, h2, h3⟩ := putErr_ok.1 he
  have hs1 := stErr_put he (by omega)
  have hsame := same_le vs r.cats
  have hc : cutErr (vs ++ [⟨r, false⟩]) r.id r.cats = 0 := cutErr_ok.2 ⟨hs1, h2.id, ⟨h2.c0, h2.c1⟩, lives_put vs r, by rw [same_put]; omega⟩
  have hs2 := stErr_cut hc (by rw [List.length_append]; simp; omega)
  have hp : putErr (vs ++ [⟨r, false⟩] ++ [goneV r.id r.cats]) r = 0 := putErr_ok.2 ⟨hs2, h2, by rw [same_cut, same_put]; omega⟩
  exact ⟨hc, (cutErr_none hs2 h2.id ⟨h2.c0, h2.c1⟩ (lives_cut _ _ _)).1, hp, hs1, hs2, stErr_put hp (by rw [List.length_append, List.length_append]; simp; omega)⟩

set_option maxHeartbeats 4000000 in
theorem storeLife_walk (a : Option Addr) (c : Nat) (g : List RowI) (r : RecL) (p : At) (w : World) (hs : SlG w a g) (hl : g.length ≤ c) (hm : c ≤ maxLen) (hi : r.in_ p w) (hsh : r.short) :
    Calls Tryd.prog 9 #[.slice a g.length c, r.v p] w fun e w' => e = .returned (.bool true) ∧ Below w.heap.size w w' := by
  have HS := Lib.hid hs
  have HL := Lib.hid hl
  have HM := Lib.hid hm
  have HI := Lib.hid hi
  have HA := Lib.hid (r.box_below p w)
  have HBOX := Lib.hid (BoxAt.new w r p 29)
  obtain ⟨gl, hgl⟩ : ∃ gl, g.length = gl := ⟨_, rfl⟩
  have HGL := Lib.hid hgl
  rw [hgl]
  clear hs hl hm hgl hi hsh
  go_enter Tryd.func9, Tryd.ntmps9
  go_wp2_with fail
  refine (begun_is _).mono ?_
  rintro e w1 ⟨rfl, hb1⟩
  have HB1 := Lib.hid (HA.out.trans (hb1.mono HA.out.size))
  have HX1 := Lib.hid (HBOX.out.below hb1)
  clear hb1
  have HG := Lib.hid (grown_is a g c w1 (HS.out.below HB1.out) HL.out HM.out)
  rw [HGL.out] at HG
  go_wp2_with fail
  refine HG.out.mono ?_
  rintro e w2 ⟨vs, A, m, c', rfl, hok, hnw, hb2⟩
  have HOK := Lib.hid hok.ok
  have HLEN := Lib.hid hok.len
  have HST := Lib.hid (hok.fine (by omega))
  have HV2 := Lib.hid hnw.at_
  have HB2 := Lib.hid (HB1.out.trans (hb2.mono HB1.out.size))
  have hx2 := HX1.out.below hb2
  have HX2 := Lib.hid hx2
  obtain ⟨c0, c1, c2, c3⟩ := hx2
  clear hok hnw hb2 HG
  obtain ⟨er, her⟩ : ∃ er, putErr vs r = er := ⟨_, rfl⟩
  have HER := Lib.hid her
  clear her
  have HPUT := Lib.hid (put_fine c' r p w2 HV2.out HST.out (HI.out.below HB2.out) rfl HER.out)
  go_wp2_with fail
  refine HPUT.out.mono ?_
  rintro e w3 ⟨A1, m1, c1', rfl, hnw, hb⟩
  have HX3 := Lib.hid (HX2.out.below hb)
  have HV3 := Lib.hid (HV2.out.below hb)
  have HP := Lib.hid hnw.at_
  have HB3 := Lib.hid (HB2.out.trans (hb.mono HB2.out.size))
  clear hnw hb c0 c1 c2 c3 HPUT
  by_cases he : er = 0
  · subst he
    obtain ⟨k1, k2, k3, k4, k5, k6⟩ := life_math HOK.out HLEN.out HER.out
    have hp := HP.out
    rw [putL_yes HER.out] at hp
    have HP' := Lib.hid hp
    have K1 := Lib.hid k1
    have K2 := Lib.hid k2
    have K3 := Lib.hid k3
    have K4 := Lib.hid k4
    have K5 := Lib.hid k5
    have K6 := Lib.hid k6
    have HC1 := Lib.hid (cut_fine c1' r.id r.cats w3 hp k4 (cutL_yes k1) k1)
    obtain ⟨c0, c1, c2, c3⟩ := HX3.out
    clear hp HP k1 k2 k3 k4 k5 k6
    go_wp2_with fail
    refine HC1.out.mono ?_
    rintro e w4 ⟨A2, m2, c2', rfl, hnw, hb⟩
    have HX4 := Lib.hid (HX3.out.below hb)
    have HV4 := Lib.hid (HV3.out.below hb)
    have HY := Lib.hid hnw.at_
    have HB4 := Lib.hid (HB3.out.trans (hb.mono HB3.out.size))
    clear hnw hb c0 c1 c2 c3 HC1
    have HC2 := Lib.hid (cut_fine c2' r.id r.cats w4 HY.out K5.out (cutL_no (by rw [K2.out]; decide)) K2.out)
    obtain ⟨c0, c1, c2, c3⟩ := HX4.out
    go_wp2_with fail
    refine HC2.out.mono ?_
    rintro e w5 ⟨A3, m3, c3', rfl, hnw, hb⟩
    have HX5 := Lib.hid (HX4.out.below hb)
    have HV5 := Lib.hid (HV4.out.below hb)
    have HY5 := Lib.hid (HY.out.below hb)
    have hm3 := hnw.at_.len
    obtain rfl : m3 = 0 := hm3
    have HB5 := Lib.hid (HB4.out.trans (hb.mono HB4.out.size))
    clear hnw hb c0 c1 c2 c3 HC2
    have HPU := Lib.hid (put_fine c2' r p w5 HY5.out K5.out (HI.out.below HB5.out) (putL_yes K3.out) K3.out)
    obtain ⟨c0, c1, c2, c3⟩ := HX5.out
    go_wp2_with fail
    refine HPU.out.mono ?_
    rintro e w6 ⟨A4, m4, c4', rfl, hnw, hb⟩
    have HX6 := Lib.hid (HX5.out.below hb)
    have HV6 := Lib.hid (HV5.out.below hb)
    have HW := Lib.hid hnw.at_
    have HB6 := Lib.hid (HB5.out.trans (hb.mono HB5.out.size))
    clear hnw hb c0 c1 c2 c3 HPU
    obtain ⟨g1, g2⟩ := get_some K6.out (getV_put (vs ++ [⟨r, false⟩] ++ [goneV r.id r.cats]) r)
    have HGE := Lib.hid (get_fine c4' r.id w6 HW.out K6.out g2 g1)
    obtain ⟨c0, c1, c2, c3⟩ := HX6.out
    clear g1 g2
    go_wp2_with fail
    refine HGE.out.mono ?_
    rintro e w7 ⟨q, rfl, hnr, hb⟩
    have HX7 := Lib.hid (HX6.out.below hb)
    have HB7 := Lib.hid (HB6.out.trans (hb.mono HB6.out.size))
    have hm4 : (m4 : Int) = (m : Int) + 3 := by
      have e1 := HW.out.len
      have e2 := HV6.out.len
      simp only [List.length_append, List.length_singleton] at e1
      omega
    have hw3 : wrap64 ((m : Int) + 3) = (m : Int) + 3 := by
      have e2 := HV6.out.len
      have e3 := HLEN.out
      unfold wrap64
      omega
    have HNR := Lib.hid hnr
    have hal := (Below.refl w7.heap.size w7).alloc (Nat.le_refl _) (.cells #[.string r.id, .int .i64 r.cats, .slice q.fa r.fs.length q.fc, .slice q.ra r.rs.length q.rc] 29)
    have HNA := Lib.hid (hnr.in_.below hal)
    have HB8 := Lib.hid (HB7.out.trans (hal.mono HB7.out.size))
    have HSAME := Lib.hid (same_is (b := true) r r q p _ HNA.out (HI.out.below HB8.out) (by rw [decide_eq_true_eq]))
    have hsz : w.heap.size < w7.heap.size := by
      have := HX7.out.1
      exact cell_lt this
    obtain ⟨c0, c1, c2, c3⟩ := HX7.out
    have hm3' : w6.heap.size ≤ w7.heap.size := hb.size
    clear hnr hal hb HGE
    go_wp2_with fail
    refine HSAME.out.mono ?_
    rintro e w8 ⟨rfl, hb⟩
    have HB9 := Lib.hid (HB8.out.trans (hb.mono HB8.out.size))
    clear hb
    go_wp2_with fail
    go_ret
    exact ⟨rfl, HB9.out⟩
  · have hp := HP.out.len
    rw [putL_no (by rw [HER.out]; exact he)] at hp
    obtain rfl : m1 = 0 := hp
    have h1 : (er == 0) = false := by simpa using he
    have h2 : (er != 0) = true := by simpa using he
    go_wp2_with fail
    go_ret
    exact ⟨rfl, HB3.out⟩
end Go.Proofs.YtekjlbbacieafaaDoor
